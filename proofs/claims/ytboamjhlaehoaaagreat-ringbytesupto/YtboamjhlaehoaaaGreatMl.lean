/- Several texts in one: Rt, Ru, Rv. -/
import Derived.Test.YtboamjhlaehoaaaGreatMk
import Derived.RangeFuncNested
import Derived.RangeFuncBound
import Derived.RangeFuncCalls
import Derived.RangeFuncLeaves
import Derived.RangeFuncWrites
import Derived.Shelf.Abstract
import Derived.Shelf.RegionOpen
import Derived.WalkKit
import Derived.OwnWalkIn
import Derived.TacticsInMore
import Derived.LoopNIn
import Derived.LoopIn
/- Rings: where a hash stands among the places; circle. -/
namespace Go.Proofs.YtboamjhlaehoaaaGreat
open Go.RowKit Go.Sort
set_option linter.unusedVariables false
set_option maxRecDepth 20000

theorem gb_grow (w : World) (q : Nat) (os : Array Obj) : w.grownBy (grow (w.drewN q) os) none :=
  ⟨rfl, rfl, rfl, by simp [World.drewN], fun k hk _ => by
    unfold grow
    simp only
    rw [Array.getElem?_append_left (by exact hk)]
    rfl⟩
theorem pl_cells {w : World} {a : Option Addr} {l : List Pl} {k : Nat} {p : Pl} (h : SRd placeE w a l) (hp : l[k]? = some p) : ∃ b off, a = some ⟨b, off, none⟩ ∧ w.cell? ⟨b, off + k * 2, none⟩ = some (.int .u32 p.1) ∧ w.cell? ⟨b, off + k * 2 + 1, none⟩ = some (.int .i64 p.2) := by
  obtain ⟨b, off, rfl, hc⟩ := h.at (by have := (List.getElem?_eq_some_iff.1 hp).1; omega)
  exact ⟨b, off, rfl, hc k p 0 _ hp rfl, by rw [Nat.add_assoc]; exact hc k p 1 _ hp rfl⟩
def posP (l : List Pl) (tg : Pl) : Nat := l.countP (fun p => decide (cmpP p tg < 0))
/-- In order. -/
def SortedP (l : List Pl) : Prop := l.Pairwise (fun p q => ltOf cmpP q p = false)
theorem SortedP.mono {l : List Pl} (h : SortedP l) {i j : Nat} {x y tg : Pl} (hij : i < j) (hx : l[i]? = some x) (hy : l[j]? = some y) (hc : cmpP y tg < 0) : cmpP x tg < 0 := by
  unfold SortedP at h
  rw [List.pairwise_iff_getElem] at h
  obtain ⟨hi, ex⟩ := List.getElem?_eq_some_iff.1 hx
  obtain ⟨hj, ey⟩ := List.getElem?_eq_some_iff.1 hy
  have := h i j hi hj hij
  rw [ex, ey, ltP_false] at this
  rw [cmpP_neg] at hc ⊢
  omega
theorem sortP_sorted (l : List Pl) : SortedP (sortP l) := by
  unfold SortedP sortP
  have := List.pairwise_mergeSort (le := fun x y => !(ltOf cmpP) y x) (fun a b c h1 h2 => by
    simp only [Bool.not_eq_true', ltP_false] at *
    omega) (fun a b => by
    simp only [Bool.or_eq_true, Bool.not_eq_true', ltP_false]
    omega) l
  exact this.imp (fun h => by simpa using h)
theorem posP_le (l : List Pl) (tg : Pl) : posP l tg ≤ l.length := List.countP_le_length
set_option maxHeartbeats 2000000 in
theorem g_bsearchP (ms : List Pl) (tg : Pl) (a : Option Addr) (n c : Nat) (w : World) (hr : SRd placeE w a ms) (hn : ms.length = n) (hz : n ≤ 4194304) (hs : SortedP ms) :
    Calls Tryz.prog 77 #[.slice a n c, .agg #[.int .u32 tg.1, .int .i64 tg.2], .func (.func 78) #[] #[]] w fun e w' => (∃ F, e = .returned (.tuple #[.int .i64 (posP ms tg), .bool F])) ∧ w.grownBy w' none := by
  have HR : Hid (SRd placeE w a ms) := hr
  have HN : Hid (ms.length = n) := hn
  have HE : Hid (∀ (x : Pl) (w1 : World), Calls Tryz.prog 78 #[.agg #[.int .u32 x.1, .int .i64 x.2], .agg #[.int .u32 tg.1, .int .i64 tg.2]] w1 fun r w' => r = .returned (.int .i64 (cmpP x tg)) ∧ w1.grownBy w' none) := fun x w1 => by
    refine (g_byToken x tg w1).mono ?_
    rintro e w' ⟨rfl, q, os, rfl⟩
    exact ⟨rfl, gb_grow w1 q os⟩
  have HMO : Hid (∀ i j : Nat, i ≤ j → ∀ x y : Pl, ms[i]? = some x → ms[j]? = some y → cmpP y tg < 0 → cmpP x tg < 0) := fun i j hij x y hx hy hc => by
    by_cases e : i = j
    · subst e; rw [hx] at hy; cases hy; exact hc
    · exact hs.mono (by omega) hx hy hc
  have HI : Hid (∀ k, k ≤ n → (∀ i e, ms[i]? = some e → i < k → cmpP e tg < 0) → (∀ i e, ms[i]? = some e → k ≤ i → 0 ≤ cmpP e tg) → posP ms tg = k) := fun k hk h1 h2 => by
    unfold posP
    refine countP_place _ _ k (by omega) (fun i x hx => ?_)
    simp only [decide_eq_true_eq]
    constructor
    · intro h
      by_cases hki : i < k
      · exact hki
      · have h3 := h2 i x hx (by omega)
        have h4 : cmpP x tg < 0 := h
        omega
    · intro h
      exact h1 i x hx h
  generalize posP ms tg = I at HI ⊢
  clear hr hn hs
  have HB0 : Hid ((w.alloc (.cells #[.int .u32 tg.1, .int .i64 tg.2] 106)).cell? ⟨w.heap.size, 0, none⟩ = some (.int .u32 tg.1) ∧ (w.alloc (.cells #[.int .u32 tg.1, .int .i64 tg.2] 106)).cell? ⟨w.heap.size, 1, none⟩ = some (.int .i64 tg.2)) := cell2 (heap_alloc_new w _)
  have HGW : Hid (w.grownBy (w.alloc (.cells #[.int .u32 tg.1, .int .i64 tg.2] 106)) none) := World.grownBy_alloc w _ none
  go_enter Tryz.func77, Tryz.ntmps77
  go_wp2
  generalize w.alloc (.cells #[.int .u32 tg.1, .int .i64 tg.2] 106) = W at HB0 HGW ⊢
  go_loopw [9, 10] (fun i j wr => ∃ x y : Nat, i = .int .i64 x ∧ j = .int .i64 y ∧ x ≤ y ∧ y ≤ n ∧ (∀ k e, ms[k]? = some e → k < x → cmpP e tg < 0) ∧ (∀ k e, ms[k]? = some e → y ≤ k → 0 ≤ cmpP e tg) ∧ W.grownBy wr none) (fun i j _ => (intOf j).toNat - (intOf i).toNat)
  case atStart => exact ⟨0, n, rfl, rfl, Nat.zero_le _, Nat.le_refl _, fun k e _ h => by omega, fun k e h1 h => by have := (List.getElem?_eq_some_iff.1 h1).1; have := HN.out; omega, World.grownBy.refl _ _⟩
  case round =>
    obtain ⟨x, y, rfl, rfl, hxy, hyn, hlo, hhi, hg⟩ := hrel
    have HLO : Hid (∀ k e, ms[k]? = some e → k < x → cmpP e tg < 0) := hlo
    have HHI : Hid (∀ k e, ms[k]? = some e → y ≤ k → 0 ≤ cmpP e tg) := hhi
    have HG : Hid (W.grownBy wr none) := hg
    clear hlo hhi hg
    by_cases hlt : x < y
    · obtain ⟨m, hmm⟩ : ∃ m, m = (x + y) / 2 := ⟨_, rfl⟩
      have hm1 : x ≤ m := by omega
      have hm2 : m < y := by omega
      have hi : (x : Int) < (y : Int) := by omega
      have hnl := HN.out
      obtain ⟨⟨i0, s0⟩, hem⟩ : ∃ e, ms[m]? = some e := ⟨_, List.getElem?_eq_getElem (by omega)⟩
      obtain ⟨b, off, rfl, c0, c1⟩ := pl_cells (HR.out.grown (HGW.out.trans HG.out) (by simp)) hem
      simp only at c0 c1
      have hEM : ((x : Int) + (y : Int)) / 2 = (m : Int) := by omega
      have hmn : (m : Int) < (n : Int) := by omega
      have HEM : Hid (ms[m]? = some (i0, s0)) := hem
      clear hmm hem hnl
      have HC2 : Hid (∀ p : Gb wr, Calls Tryz.prog 78 #[.agg #[.int .u32 i0, .int .i64 s0], .agg #[.int .u32 tg.1, .int .i64 tg.2]] p.w' fun r w' => r = .returned (.int .i64 (cmpP (i0, s0) tg)) ∧ p.w'.grownBy w' none) := fun p => HE.out (i0, s0) p.w'
      have e0 := Gb.cell c0
      have e1 := Gb.cell c1
      have e2 := Gb.cell (HG.out.cell HB0.out.1 (by simp))
      have e3 := Gb.cell (HG.out.cell HB0.out.2 (by simp))
      by_cases hp : cmpP (i0, s0) tg < 0
      · have hd : decide (cmpP (i0, s0) tg < 0) = true := by simpa using hp
        have HP : Hid (cmpP (i0, s0) tg < 0) := hp
        generalize cmpP (i0, s0) tg = z at hd hp HC2
        go_wp2_with fail
        refine wp_region_gb (by kernel_rfl) (by kernel_rfl) ?_
        repeat ((with_reducible refine wpQuiet_step (fun K hK => ?_)); go_simp; first | (refine hK _ ?_; clear hK K) | (apply Exists.intro; refine ⟨fun _ => ?_, hK _ ?_⟩; (go_at_call 78; exact gb_call (HC2.out _)); clear hK K))
        with_reducible refine wpQuiet_nil ?_
        rintro w1 ⟨p9, hp9⟩
        have HG1 : Hid (W.grownBy w1 none) := HG.out.trans (hp9 ▸ p9.h)
        clear hp9
        clear p9
        go_wp2
        go_roundw
        case rel => exact ⟨m + 1, y, by go_num, rfl, by omega, hyn, fun k e' h1 h2 => HMO.out k m (by omega) e' _ h1 HEM.out HP.out, HHI.out, HG1.out⟩
        case measure => simp [intOf]; omega
      · have hd : decide (cmpP (i0, s0) tg < 0) = false := by simpa using hp
        have HP : Hid (0 ≤ cmpP (i0, s0) tg) := by show _ ≤ _; omega
        generalize cmpP (i0, s0) tg = z at hd hp HC2
        go_wp2_with fail
        refine wp_region_gb (by kernel_rfl) (by kernel_rfl) ?_
        repeat ((with_reducible refine wpQuiet_step (fun K hK => ?_)); go_simp; first | (refine hK _ ?_; clear hK K) | (apply Exists.intro; refine ⟨fun _ => ?_, hK _ ?_⟩; (go_at_call 78; exact gb_call (HC2.out _)); clear hK K))
        with_reducible refine wpQuiet_nil ?_
        rintro w1 ⟨p9, hp9⟩
        have HG1 : Hid (W.grownBy w1 none) := HG.out.trans (hp9 ▸ p9.h)
        clear hp9
        clear p9
        go_wp2
        go_roundw
        case rel => exact ⟨x, m, rfl, rfl, hm1, by omega, HLO.out, fun k e' h1 h2 => by
          by_cases h3 : cmpP e' tg < 0
          · exact absurd (HMO.out m k h2 _ e' HEM.out h1 h3) (by have := HP.out; omega)
          · omega, HG1.out⟩
        case measure => simp [intOf]; omega
    · have hi : ¬ (x : Int) < (y : Int) := by omega
      obtain rfl : x = y := by omega
      obtain rfl : I = x := HI.out x hyn HLO.out HHI.out
      by_cases hxn : I < n
      · have hxi : (I : Int) < (n : Int) := by omega
        have hnl := HN.out
        obtain ⟨⟨i0, s0⟩, hem⟩ : ∃ e, ms[I]? = some e := ⟨_, List.getElem?_eq_getElem (by omega)⟩
        obtain ⟨b, off, rfl, c0, c1⟩ := pl_cells (HR.out.grown (HGW.out.trans HG.out) (by simp)) hem
        simp only at c0 c1
        clear hem hnl
        have HC2 : Hid (∀ p : Gb wr, Calls Tryz.prog 78 #[.agg #[.int .u32 i0, .int .i64 s0], .agg #[.int .u32 tg.1, .int .i64 tg.2]] p.w' fun r w' => r = .returned (.int .i64 (cmpP (i0, s0) tg)) ∧ p.w'.grownBy w' none) := fun p => HE.out (i0, s0) p.w'
        have e0 := Gb.cell c0
        have e1 := Gb.cell c1
        have e2 := Gb.cell (HG.out.cell HB0.out.1 (by simp))
        have e3 := Gb.cell (HG.out.cell HB0.out.2 (by simp))
        generalize cmpP (i0, s0) tg = z at HC2
        have hxd : decide ((I : Int) < (n : Int)) = true := decide_eq_true hxi
        go_wp2_with fail
        refine wp_region_gb (by kernel_rfl) (by kernel_rfl) ?_
        repeat ((with_reducible refine wpQuiet_step (fun K hK => ?_)); go_simp; first | (refine hK _ ?_; clear hK K) | (apply Exists.intro; refine ⟨fun _ => ?_, hK _ ?_⟩; (go_at_call 78; exact gb_call (HC2.out _)); clear hK K))
        with_reducible refine wpQuiet_nil ?_
        rintro w1 ⟨p9, hp9⟩
        have HG1 : Hid (W.grownBy w1 none) := HG.out.trans (hp9 ▸ p9.h)
        clear hp9
        clear p9
        go_wp2
        go_ret2
        exact ⟨⟨_, rfl⟩, HGW.out.trans HG1.out⟩
      · have hxi : ¬ (I : Int) < (n : Int) := by omega
        have hxd : decide ((I : Int) < (n : Int)) = false := decide_eq_false hxi
        have HC2 : Hid True := trivial
        go_wp2_with fail
        refine wp_region_gb (by kernel_rfl) (by kernel_rfl) ?_
        repeat ((with_reducible refine wpQuiet_step (fun K hK => ?_)); go_simp; first | (refine hK _ ?_; clear hK K) | (apply Exists.intro; refine ⟨fun _ => ?_, hK _ ?_⟩; fail; clear hK K))
        with_reducible refine wpQuiet_nil ?_
        rintro w1 ⟨p9, hp9⟩
        have HG1 : Hid (W.grownBy w1 none) := HG.out.trans (hp9 ▸ p9.h)
        clear hp9
        clear p9
        go_wp2
        go_ret2
        exact ⟨⟨_, rfl⟩, HGW.out.trans HG1.out⟩
end Go.Proofs.YtboamjhlaehoaaaGreat

/- Rings: circle, and what it hands out. -/
namespace Go.Proofs.YtboamjhlaehoaaaGreat
open Go.RowKit Go.Shelf
set_option linter.unusedVariables false
set_option maxRecDepth 20000

/-- Once round from the hash on. -/
def rotP (ms : List Mem) (h : Int) : List Pl := (sortP (plc ms)).drop (posP (sortP (plc ms)) (h, 0)) ++ (sortP (plc ms)).take (posP (sortP (plc ms)) (h, 0))
/-- What circle has made: two boxes, the places. -/
structure CiAt (w : World) (bp bf : Nat) (a : Option Addr) (n c p : Nat) (l : List Pl) : Prop where
  rd : SRd placeE w a l
  len : l.length = n
  box : w.cell? ⟨bp, 0, none⟩ = some (.slice a n c)
  first : w.cell? ⟨bf, 0, none⟩ = some (.int .i64 p)
  nc : n ≤ c
  cm : c ≤ maxLen
  nil : a = none → c = 0
  form : ∀ x, a = some x → x.off = 0 ∧ x.spot = none
  pn : p ≤ n
  n64 : n ≤ 64000
theorem box1 (w : World) (v : Value) (t : TypeId) : (w.alloc (.cells #[v] t)).cell? ⟨w.heap.size, 0, none⟩ = some v := by
  rw [cell_of_row _ w.heap.size 0 _ t _ (heap_alloc_new w _)]; rfl
set_option maxHeartbeats 2000000 in
theorem g_circle (ms : List Mem) (raw : List MRow) (h : Int) (a : Option Addr) (L c : Nat) (w : World) (hx : MsRd w a ms raw) (hL : ms.length = L) (hz : L ≤ 1000) (hz2 : ∀ s ∈ ms, s.2.2.length ≤ 64) :
    Calls Tryz.prog 56 #[.slice a L c, .int .u32 h] w fun e w' => ∃ bp bf a' n' c', e = .returned (.func (.func 79) #[] #[.pointer (some ⟨bp, 0, none⟩), .pointer (some ⟨bf, 0, none⟩)]) ∧ CiAt w' bp bf a' n' c' (posP (sortP (plc ms)) (h, 0)) (sortP (plc ms)) ∧ w.grownBy w' none := by
  have HC := g_places ms raw a L c w hx hL hz hz2
  have HS : Hid (SortedP (sortP (plc ms))) := sortP_sorted _
  have HPL : Hid (posP (sortP (plc ms)) (h, 0) ≤ (sortP (plc ms)).length) := posP_le _ _
  have HBS : Hid (∀ a1 n1 c1 w1, SRd placeE w1 a1 (sortP (plc ms)) → (sortP (plc ms)).length = n1 → n1 ≤ 64000 → Calls Tryz.prog 77 #[.slice a1 n1 c1, .agg #[.int .u32 h, .int .i64 0], .func (.func 78) #[] #[]] w1 fun e w' => (∃ F, e = .returned (.tuple #[.int .i64 (posP (sortP (plc ms)) (h, 0)), .bool F])) ∧ w1.grownBy w' none) := fun a1 n1 c1 w1 h1 h2 h3 => g_bsearchP (sortP (plc ms)) (h, 0) a1 n1 c1 w1 h1 h2 (by omega) HS.out
  generalize sortP (plc ms) = l at HC HPL HBS ⊢
  generalize posP l (h, 0) = p at HPL HBS ⊢
  clear hx hL hz hz2
  go_enter Tryz.func56, Tryz.ntmps56
  go_wp2_with fail
  refine HC.mono ?_
  rintro e w1 ⟨a1, n1, c1, rfl, hn1, hn64, hnc, hnil, hform, hcm, hrd, hg1⟩
  have H1 : Hid (n1 = l.length ∧ n1 ≤ 64000 ∧ n1 ≤ c1 ∧ (a1 = none → c1 = 0) ∧ (∀ x, a1 = some x → x.off = 0 ∧ x.spot = none) ∧ c1 ≤ maxLen ∧ SRd placeE w1 a1 l ∧ w.grownBy w1 none) := ⟨hn1, hn64, hnc, hnil, hform, hcm, hrd, hg1⟩
  have b1 := box1 w1 (.slice a1 n1 c1) 102
  have g1 := World.grownBy_alloc w1 (.cells #[.slice a1 n1 c1] 102) none
  have HC2 := HBS.out a1 n1 c1 (w1.alloc (.cells #[.slice a1 n1 c1] 102)) (hrd.grown g1 (by simp)) hn1.symm hn64
  have HB1 : Hid ((w1.alloc (.cells #[.slice a1 n1 c1] 102)).cell? ⟨w1.heap.size, 0, none⟩ = some (.slice a1 n1 c1)) := b1
  have HG1 : Hid (w1.grownBy (w1.alloc (.cells #[.slice a1 n1 c1] 102)) none) := g1
  clear hn1 hn64 hnc hnil hform hcm hrd hg1 g1
  go_wp2_with fail
  generalize w1.alloc (.cells #[.slice a1 n1 c1] 102) = W2 at HB1 HG1 HC2 b1 ⊢
  refine HC2.mono ?_
  rintro e w3 ⟨⟨F, rfl⟩, hg3⟩
  have HG3 : Hid (W2.grownBy w3 none) := hg3
  clear hg3 b1
  have b2 := box1 w3 (.int .i64 (p : Int)) 3
  have HB2 : Hid ((w3.alloc (.cells #[.int .i64 (p : Int)] 3)).cell? ⟨w3.heap.size, 0, none⟩ = some (.int .i64 (p : Int))) := b2
  have HG4 : Hid (w3.grownBy (w3.alloc (.cells #[.int .i64 (p : Int)] 3)) none) := World.grownBy_alloc w3 _ none
  clear b2
  have hmf : ∀ (fn : Fn) (first cap : Array Value) (w : World), (Instr.makeFunc fn first cap).run Tryz.prog w = .ok (.func fn first cap) w := fun _ _ _ _ => rfl
  go_wp2
  go_ret
  obtain ⟨q1, q2, q3, q4, q5, q6, q7, q8⟩ := H1.out
  have gg := HG1.out.trans (HG3.out.trans HG4.out)
  exact ⟨w1.heap.size, w3.heap.size, a1, n1, c1, rfl, ⟨q7.grown gg (by simp), q1.symm, (HG3.out.trans HG4.out).cell HB1.out (by simp), HB2.out, q3, q6, q4, q5, by have := HPL.out; omega, q2⟩, q8.trans gg⟩
end Go.Proofs.YtboamjhlaehoaaaGreat

/- Rings: what circle hands out, member by member. -/
namespace Go.Proofs.YtboamjhlaehoaaaGreat
open Go.RowKit Go.Shelf
set_option linter.unusedVariables false
set_option maxRecDepth 20000
attribute [local go_sem] Oper.semAt_some

/-- What a round keeps: the rows of places. -/
def KpP (W W' : World) : Prop := ∀ k, Typed W k 106 → W'.heap[k]? = W.heap[k]?
theorem KpP.refl (W : World) : KpP W W := fun _ _ => rfl
theorem KpP.trans {A B C : World} (h : KpP A B) (h' : KpP B C) : KpP A C := fun k hk => by
  have h1 := h k hk
  obtain ⟨c, hc⟩ := hk
  rw [h' k ⟨c, h1.trans hc⟩, h1]
theorem KpP.gb {A B : World} {row : Option Nat} (h : A.grownBy B row) (hr : ∀ k, row = some k → ¬ Typed A k 106) : KpP A B := fun k hk => h.block k (typed_lt hk) (fun e => hr k e.symm hk)
theorem elem102 : Tryz.prog.elem 102 = 106 := by simp [Program.elem, Tryz.underlying102]
theorem sz106 (w : World) : (sizeOf 106).run Tryz.prog w = .ok 2 w := by
  obtain ⟨i0, hi, _, hz1, _⟩ := info_part info106
  simp [sizeOf, typeInfo, hi, hz1]
theorem cut_places (l : List Pl) (a : Option Addr) (n c p : Nat) (w0 : World) (h : SRd placeE w0 a l) (hl : l.length = n) (hp : p ≤ n) (hn : n ≤ c) (hcm : c ≤ maxLen) (hnil : a = none → c = 0) (hf : ∀ x, a = some x → x.off = 0 ∧ x.spot = none) :
    ∃ aL cL, (∀ w, (Instr.slice 102 (.slice a n c) (some (.int .i64 (p : Int))) none none).run Tryz.prog w = .ok (.slice aL (n - p) cL) w) ∧ (∀ w, (Instr.slice 102 (.slice a n c) none (some (.int .i64 (p : Int))) none).run Tryz.prog w = .ok (.slice a p c) w) ∧ SRd placeE w0 aL (l.drop p) ∧ SRd placeE w0 a (l.take p) ∧ (aL = none → cL = 0) := by
  have h2 : ∀ w, (Instr.slice 102 (.slice a n c) none (some (.int .i64 (p : Int))) none).run Tryz.prog w = .ok (.slice a p c) w := fun w => by
    rw [run_slice_h w 102 _ n c (by rw [elem102]; exact Tryz.underlying102) .i64 (p : Int) (by omega) (by omega), elem102, sz106]
    cases a with
    | none => simp [Result.andThen, sliced, hnil rfl]
    | some x => simp [Result.andThen, sliced, Addr.add]
  have ht : SRd placeE w0 a (l.take p) := by
    rcases h with e | ⟨b, o, e, hc⟩
    · exact .inl (by rw [e]; simp)
    · refine .inr ⟨b, o, e, fun j v hj => hc j v ?_⟩
      rw [placeE.flat_take, List.getElem?_take] at hj
      split at hj
      · exact hj
      · cases hj
  cases a with
  | none =>
    have hc0 := hnil rfl
    subst hc0
    obtain rfl : n = 0 := by omega
    obtain rfl : p = 0 := by omega
    refine ⟨none, 0, fun w => ?_, h2, .inl (by have := List.eq_nil_of_length_eq_zero hl; rw [this]; rfl), ht, fun _ => rfl⟩
    rw [run_slice_l w 102 _ 0 0 (by rw [elem102]; exact Tryz.underlying102) .i64 ((0 : Nat) : Int) (by omega) (by omega), elem102, sz106]
    simp [Result.andThen, sliced]
  | some x =>
    obtain ⟨b, o, sp⟩ := x
    obtain ⟨rfl, rfl⟩ := hf _ rfl
    by_cases hpc : p = c
    · subst hpc
      obtain rfl : n = p := by omega
      refine ⟨some ⟨b, 0, none⟩, 0, fun w => ?_, h2, .inl (List.drop_of_length_le (by omega)), ht, fun e => by cases e⟩
      rw [run_slice_l w 102 _ n n (by rw [elem102]; exact Tryz.underlying102) .i64 (n : Int) (by omega) (by unfold maxLen at hcm; omega), elem102, sz106]
      simp [Result.andThen, sliced]
    · refine ⟨some ⟨b, p * 2, none⟩, c - p, fun w => ?_, h2, ?_, ht, fun e => by cases e⟩
      · rw [run_slice_l w 102 _ n c (by rw [elem102]; exact Tryz.underlying102) .i64 (p : Int) (by omega) (by omega), elem102, sz106]
        have h0 : ¬ c = p := by omega
        by_cases h1 : p = 0
        · subst h1; simp [Result.andThen, sliced, h0, Addr.add]
        · have : ¬ p * 2 = 0 := by omega
          simp [Result.andThen, sliced, h0, Addr.add, this]
      · rcases h with e | ⟨b', o', e, hc⟩
        · exact .inl (by rw [e]; simp)
        · cases e
          refine .inr ⟨b, p * 2, rfl, fun j v hj => ?_⟩
          have e1 : placeE.flat l = placeE.flat (l.take p) ++ placeE.flat (l.drop p) := by rw [← placeE.flat_app, List.take_append_drop]
          have e2 : (placeE.flat (l.take p)).length = p * 2 := by rw [placeE.flat_len, List.length_take, hl, Nat.min_eq_left hp]; rfl
          have := hc (p * 2 + j) v (by rw [e1, List.getElem?_append_right (by omega), e2, show p * 2 + j - p * 2 = j by omega]; exact hj)
          rw [Nat.zero_add] at this
          exact this
def idsP (l : List Pl) : List Int := l.map (·.2)
theorem abides {β : Type} {B : Nat} {J : β → World → Prop} (h : AbidesFrom B J) {s : β} {W W' : World} (hJ : J s W) (hg : W.grownBy W' none) : J s W' := h s W W' none hJ hg (fun r e => by cases e)
theorem nodepth (m : Nat) : Fence.wide.depth.isSome = true → 1 ≤ m := fun h => by simp [Fence.wide] at h
set_option maxRecDepth 100000 in
set_option maxHeartbeats 4000000 in
theorem iter_in (m ll : Nat) (bp bf : Nat) (a : Option Addr) (n c p : Nat) (l : List Pl) (J Jx : List Int → World → Prop) (W : World) (hci : CiAt W bp bf a n c p l) (hJ : AbidesFrom W.heap.size J)
    (hY : ∀ pre x W1, J pre W1 → pre.length < n → YieldAt Fence.wide (m - 1) Tryz.prog ll #[.int .i64 x] W1 fun e W' => (e = .returned (.bool true) ∧ J (pre ++ [x]) W' ∧ KpP W1 W') ∨ (e = .returned (.bool false) ∧ Jx (pre ++ [x]) W')) (h0 : J [] W) :
    CallsIn Fence.wide m Tryz.prog 79 #[.func (.yield ll) #[] #[], .pointer (some ⟨bp, 0, none⟩), .pointer (some ⟨bf, 0, none⟩)] W fun e W' => (∃ v, e = .returned v) ∧ ((∃ xs, xs = idsP (l.drop p ++ l.take p) ∧ J xs W') ∨ (∃ pre, pre <+: idsP (l.drop p ++ l.take p) ∧ Jx pre W')) := by
  obtain ⟨aL, cL, hsl1, hsl2, hrL, hrH, hnL⟩ := cut_places l a n c p W hci.rd hci.len hci.pn hci.nc hci.cm hci.nil hci.form
  have hlen := hci.len
  have hpn := hci.pn
  have h64 := hci.n64
  have HS : Hid (W.drew.cell? ⟨bp, 0, none⟩ = some (.slice a n c) ∧ W.drew.cell? ⟨bf, 0, none⟩ = some (.int .i64 (p : Int))) := ⟨hci.box, hci.first⟩
  have ga := World.grownBy_alloc W.drew (.cells #[.slice aL (n - p) cL, .slice a p c] 102) none
  have gd : W.grownBy W.drew none := gb_drew (World.grownBy.refl _ _)
  have HGA : Hid (W.grownBy (W.drew.alloc (.cells #[.slice aL (n - p) cL, .slice a p c] 102)) none) := gd.trans ga
  have HS2 : Hid ((W.drew.alloc (.cells #[.slice aL (n - p) cL, .slice a p c] 102)).cell? ⟨bp, 0, none⟩ = some (.slice a n c) ∧ (W.drew.alloc (.cells #[.slice aL (n - p) cL, .slice a p c] 102)).cell? ⟨bf, 0, none⟩ = some (.int .i64 (p : Int))) := ⟨ga.cell HS.out.1 (by simp), ga.cell HS.out.2 (by simp)⟩
  have hTP : totalP [⟨aL, n - p, cL, l.drop p⟩, ⟨a, p, c, l.take p⟩] = n := by simp [totalP]; omega
  have ETP : Hid (totalP [⟨aL, n - p, cL, l.drop p⟩, ⟨a, p, c, l.take p⟩] = n) := hTP
  have HCC : Hid (Calls Tryz.prog 80 #[.slice (some ⟨W.drew.heap.size, 0, none⟩) 2 2] (W.drew.alloc (.cells #[.slice aL (n - p) cL, .slice a p c] 102)) fun e w' => ∃ a' c', e = .returned (.slice a' (totalP [⟨aL, n - p, cL, l.drop p⟩, ⟨a, p, c, l.take p⟩]) c') ∧ SOwn placeE 106 w' (W.drew.alloc (.cells #[.slice aL (n - p) cL, .slice a p c] 102)).heap.size (.slice a' (totalP [⟨aL, n - p, cL, l.drop p⟩, ⟨a, p, c, l.take p⟩]) c') (totalP [⟨aL, n - p, cL, l.drop p⟩, ⟨a, p, c, l.take p⟩]) (joinedP [⟨aL, n - p, cL, l.drop p⟩, ⟨a, p, c, l.take p⟩]) ∧ (W.drew.alloc (.cells #[.slice aL (n - p) cL, .slice a p c] 102)).grownBy w' none) := by
    obtain ⟨c0, c1⟩ := cell2 (heap_alloc_new W.drew (.cells #[.slice aL (n - p) cL, .slice a p c] 102))
    refine g_concatP W.drew.heap.size [⟨aL, n - p, cL, l.drop p⟩, ⟨a, p, c, l.take p⟩] 2 _ rfl (by omega) (fun i q hq => ?_) (fun q hq => ?_) (by rw [hTP]; omega)
    · match i, hq with
      | 0, hq => simp at hq; subst hq; exact c0
      | 1, hq => simp at hq; subst hq; exact c1
      | i + 2, hq => simp at hq
    · simp only [List.mem_cons, List.mem_nil_iff, or_false] at hq
      rcases hq with rfl | rfl
      · exact ⟨hrL.grown HGA.out (by simp), by simp [hlen], hnL⟩
      · exact ⟨hrH.grown HGA.out (by simp), by simp [hlen]; omega, hci.nil⟩
  have HTO : Hid (∀ w9 a9 c9, SOwn placeE 106 w9 (W.drew.alloc (.cells #[.slice aL (n - p) cL, .slice a p c] 102)).heap.size (.slice a9 (totalP [⟨aL, n - p, cL, l.drop p⟩, ⟨a, p, c, l.take p⟩]) c9) (totalP [⟨aL, n - p, cL, l.drop p⟩, ⟨a, p, c, l.take p⟩]) (joinedP [⟨aL, n - p, cL, l.drop p⟩, ⟨a, p, c, l.take p⟩]) → SOwn placeE 106 w9 W.heap.size (.slice a9 n c9) n (l.drop p ++ l.take p)) := fun w9 a9 c9 h => by
    rw [hTP] at h
    have := SOwn.base h (show W.heap.size ≤ _ from HGA.out.size)
    simpa [joinedP] using this
  have HJ : Hid (AbidesFrom W.heap.size J) := hJ
  have HJ0 : Hid (J [] W) := h0
  have HLR : Hid ((l.drop p ++ l.take p).length = n) := by show _ = _; simp [hlen]; omega
  generalize l.drop p ++ l.take p = R at HTO HLR ⊢
  clear hci hrL hrH hnL ga gd hTP hJ h0 hlen
  refine callsIn_of_wp Tryz.func79 rfl trivial ?_ rfl
  simp only [Tryz.ntmps79, List.size_toArray, List.length_cons, List.length_nil, Nat.reduceAdd, Nat.reduceSub, Array.replicate_succ, Array.replicate_zero, List.push_toArray, List.append_toArray, List.nil_append, List.cons_append]
  gi_wp2_with fail
  refine wpIn_wide.2 ?_
  refine wp_region_held_drew (S := fun u => u.cell? ⟨bp, 0, none⟩ = some (.slice a n c) ∧ u.cell? ⟨bf, 0, none⟩ = some (.int .i64 (p : Int))) (by kernel_rfl) HS.out (fun hHeld => ?_)
  refine wpAnyH_take (i := 0) (v := .slice a n c) rfl (by kernel_rfl) (by kernel_rfl) (by kernel_rfl) (fun _ _ _ h => h) (Or.inl ⟨by rfl, fun w hSw => ?_⟩) (by assumption) ?_
  · obtain ⟨s0, s1⟩ := hSw; go_simp
  (try simp only [Act.put]); (try simp only [List.setIfInBounds_toArray]); (try simp only [List.set_cons_succ]); (try simp only [List.set_cons_zero])
  refine wpAnyH_take (i := 1) (v := .int .i64 (p : Int)) rfl (by kernel_rfl) (by kernel_rfl) (by kernel_rfl) (fun _ _ _ h => h) (Or.inl ⟨by rfl, fun w hSw => ?_⟩) (by assumption) ?_
  · obtain ⟨s0, s1⟩ := hSw; go_simp
  (try simp only [Act.put]); (try simp only [List.setIfInBounds_toArray]); (try simp only [List.set_cons_succ]); (try simp only [List.set_cons_zero])
  refine wpAnyH_take (i := 2) (v := .slice aL (n - p) cL) rfl (by kernel_rfl) (by kernel_rfl) (by kernel_rfl) (fun _ _ _ h => h) (Or.inl ⟨by rfl, fun w hSw => ?_⟩) (by assumption) ?_
  · obtain ⟨s0, s1⟩ := hSw; go_simp
  (try simp only [Act.put]); (try simp only [List.setIfInBounds_toArray]); (try simp only [List.set_cons_succ]); (try simp only [List.set_cons_zero])
  refine wpAnyH_take (i := 3) (v := .slice a n c) rfl (by kernel_rfl) (by kernel_rfl) (by kernel_rfl) (fun _ _ _ h => h) (Or.inl ⟨by rfl, fun w hSw => ?_⟩) (by assumption) ?_
  · obtain ⟨s0, s1⟩ := hSw; go_simp
  (try simp only [Act.put]); (try simp only [List.setIfInBounds_toArray]); (try simp only [List.set_cons_succ]); (try simp only [List.set_cons_zero])
  refine wpAnyH_take (i := 4) (v := .int .i64 (p : Int)) rfl (by kernel_rfl) (by kernel_rfl) (by kernel_rfl) (fun _ _ _ h => h) (Or.inl ⟨by rfl, fun w hSw => ?_⟩) (by assumption) ?_
  · obtain ⟨s0, s1⟩ := hSw; go_simp
  (try simp only [Act.put]); (try simp only [List.setIfInBounds_toArray]); (try simp only [List.set_cons_succ]); (try simp only [List.set_cons_zero])
  refine wpAnyH_take (i := 5) (v := .slice a p c) rfl (by kernel_rfl) (by kernel_rfl) (by kernel_rfl) (fun _ _ _ h => h) (Or.inl ⟨by rfl, fun w hSw => ?_⟩) (by assumption) ?_
  · obtain ⟨s0, s1⟩ := hSw; go_simp
  (try simp only [Act.put]); (try simp only [List.setIfInBounds_toArray]); (try simp only [List.set_cons_succ]); (try simp only [List.set_cons_zero])
  refine wpAnyH_take (i := 9) (v := .int .i64 0) rfl (by kernel_rfl) (by kernel_rfl) (by kernel_rfl) (fun _ _ _ h => h) (Or.inl ⟨by rfl, fun w hSw => ?_⟩) (by assumption) ?_
  · go_simp
  (try simp only [Act.put]); (try simp only [List.setIfInBounds_toArray]); (try simp only [List.set_cons_succ]); (try simp only [List.set_cons_zero])
  refine wpAnyH_ready (rs := [6]) (by kernel_rfl) (by simp) (AllReadyH.cons (i := 6) rfl (fun K hK => ?_) AllReadyH.nil)
  go_simp
  refine hK.out _ _ HS2.out (fun hHeld => ?_)
  clear hK K
  (try simp only [Act.put]); (try simp only [List.setIfInBounds_toArray]); (try simp only [List.set_cons_succ]); (try simp only [List.set_cons_zero])
  refine wpAnyH_ready (rs := [7]) (by kernel_rfl) (by simp) (AllReadyH.cons (i := 7) rfl (fun K hK => ?_) AllReadyH.nil)
  go_simp
  refine HCC.out.mono ?_
  rintro e w9 ⟨a9, c9, rfl, ho9, hg9⟩
  have HO9 : Hid (SOwn placeE 106 w9 W.heap.size (.slice a9 n c9) n (R)) := HTO.out _ _ _ ho9
  have HG9 : Hid (W.grownBy w9 none) := HGA.out.trans hg9
  have HS9 : Hid (w9.cell? ⟨bp, 0, none⟩ = some (.slice a n c) ∧ w9.cell? ⟨bf, 0, none⟩ = some (.int .i64 (p : Int))) := ⟨hg9.cell HS2.out.1 (by simp), hg9.cell HS2.out.2 (by simp)⟩
  rw [ETP.out]
  clear ho9 hg9
  refine hK.out _ _ HS9.out (fun hHeld => ?_)
  clear hK K
  (try simp only [Act.put]); (try simp only [List.setIfInBounds_toArray]); (try simp only [List.set_cons_succ]); (try simp only [List.set_cons_zero])
  refine wpAnyH_ready (rs := [8]) (by kernel_rfl) (by simp) (AllReadyH.cons (i := 8) rfl (fun K hK => ?_) AllReadyH.nil)
  go_simp
  refine hK.out _ _ HS9.out (fun hHeld => ?_)
  clear hK K
  (try simp only [Act.put]); (try simp only [List.setIfInBounds_toArray]); (try simp only [List.set_cons_succ]); (try simp only [List.set_cons_zero])
  refine wpAnyH_done (by kernel_rfl) ?_ _
  clear HS HS2 HCC HTO ETP HS9 hsl1 hsl2
  clear hHeld
  gi_wp2
  have HJ9 : Hid (J [] w9) := abides HJ.out HJ0.out HG9.out
  have HLI : Hid ((idsP R).length = n) := by show _ = _; unfold idsP; rw [List.length_map]; exact HLR.out
  gi_loopw [15] (fun i wr => ∃ k : Nat, k ≤ n ∧ i = .int .i64 k ∧ J ((idsP R).take k) wr ∧ SOwn placeE 106 wr W.heap.size (.slice a9 n c9) n R) (fun i _ => n - (intOf i).toNat)
  case atStart => exact ⟨0, Nat.zero_le _, rfl, HJ9.out, HO9.out⟩
  case round =>
    obtain ⟨k, hk, rfl, hJs, hown⟩ := hrel
    have HJS : Hid (J ((idsP R).take k) wr) := hJs
    have HOW : Hid (SOwn placeE 106 wr W.heap.size (.slice a9 n c9) n R) := hown
    clear hJs hown
    by_cases hlt : k < n
    · have hki : (k : Int) < (n : Int) := by omega
      obtain ⟨⟨tk, id⟩, ex⟩ : ∃ x, R[k]? = some x := ⟨_, List.getElem?_eq_getElem (by have := HLR.out; omega)⟩
      obtain ⟨b, off, rfl, c0, c1⟩ := pl_cells (SOwn.rd HOW.out) ex
      simp only at c0 c1
      have HTK : Hid ((idsP R).take (k + 1) = (idsP R).take k ++ [id]) := by
        show _ = _
        rw [List.take_add_one]
        simp [idsP, ex]
      have g5 := World.grownBy_alloc wr (.cells #[.int .u32 tk, .int .i64 id] 106) none
      obtain ⟨d0, d1⟩ := cell2 (heap_alloc_new wr (.cells #[.int .u32 tk, .int .i64 id] 106))
      have HO5 : Hid (SOwn placeE 106 (wr.alloc (.cells #[.int .u32 tk, .int .i64 id] 106)) W.heap.size (.slice (some ⟨b, off, none⟩) n c9) n R) := SOwn.kept HOW.out g5 (Classical.em _)
      obtain ⟨fn, tmps, assign, body, hy, hR⟩ := hY ((idsP R).take k) id (wr.alloc (.cells #[.int .u32 tk, .int .i64 id] 106)) (abides HJ.out HJS.out g5) (by rw [List.length_take, HLI.out]; omega)
      have HR : Hid (RoundIn Fence.wide (m - 1) Tryz.prog ll fn tmps assign body (wr.alloc (.cells #[.int .u32 tk, .int .i64 id] 106)) fun e W' => (e = .returned (.bool true) ∧ J ((idsP R).take k ++ [id]) W' ∧ KpP (wr.alloc (.cells #[.int .u32 tk, .int .i64 id] 106)) W') ∨ (e = .returned (.bool false) ∧ Jx ((idsP R).take k ++ [id]) W')) := hR
      clear ex g5 hR
      gi_wp2
      refine ⟨nodepth _, HR.out.mono ?_⟩
      rintro e W3 (⟨rfl, hJ3, hk3⟩ | ⟨rfl, hJx3⟩)
      · have HJ3 : Hid (J ((idsP R).take (k + 1)) W3) := by rw [HTK.out]; exact hJ3
        have HO3 : Hid (SOwn placeE 106 W3 W.heap.size (.slice (some ⟨b, off, none⟩) n c9) n R) := sown_stay HO5.out (fun x hx => by cases hx; exact hk3 _ (sown_typed HO5.out))
        clear hJ3 hk3
        gi_wp2
        go_roundw
        case rel => exact ⟨k + 1, by omega, by go_num, HJ3.out, HO3.out⟩
        case measure => simp [intOf]; omega
      · have HJX : Hid (Jx ((idsP R).take (k + 1)) W3) := by rw [HTK.out]; exact hJx3
        clear hJx3
        gi_wp2
        refine bodyPost_ret (results_none rfl _ _ _) rfl ?_
        exact ⟨⟨_, rfl⟩, .inr ⟨_, List.take_prefix _ _, HJX.out⟩⟩
    · obtain rfl : k = n := by omega
      have HJE : Hid (J (idsP R) wr) := by have := HJS.out; rw [List.take_of_length_le (by have := HLI.out; omega)] at this; exact this
      gi_wp2
      go_end0
      exact ⟨⟨_, rfl⟩, .inl ⟨_, rfl, HJE.out⟩⟩
/-- circle's value is walked by whatever keeps the rows of places. -/
theorem iter_stops (m : Nat) (bp bf : Nat) (a : Option Addr) (n c p : Nat) (l : List Pl) (w0 : World) (hci : CiAt w0 bp bf a n c p l) (hbp : bp < w0.heap.size) (hbf : bf < w0.heap.size) (hb : ∀ x, a = some x → l ≠ [] → x.block < w0.heap.size) :
    SeqStopsK Fence.wide m Tryz.prog 79 #[.pointer (some ⟨bp, 0, none⟩), .pointer (some ⟨bf, 0, none⟩)] (fun x : Int => #[Value.int .i64 x]) KpP (fun ys => ys = idsP (l.drop p ++ l.take p)) (fun pre => pre <+: idsP (l.drop p ++ l.take p)) n w0 := fun ll J Jx W hW hJ hJx hY h0 => by
  have hci2 : CiAt W bp bf a n c p l := by
    refine ⟨?_, hci.len, (hW.cell (p := ⟨bp, 0, none⟩) hbp).trans hci.box, (hW.cell (p := ⟨bf, 0, none⟩) hbf).trans hci.first, hci.nc, hci.cm, hci.nil, hci.form, hci.pn, hci.n64⟩
    rcases hci.rd with e | ⟨b, o, e, h⟩
    · exact .inl e
    · by_cases hl : l = []
      · exact .inl hl
      · exact .inr ⟨b, o, e, fun j v hj => (hW.cell (p := ⟨b, o + j, none⟩) (hb ⟨b, o, none⟩ e hl)).trans (h j v hj)⟩
  exact iter_in m ll bp bf a n c p l J Jx W hci2 hJ hY h0
end Go.Proofs.YtboamjhlaehoaaaGreat

