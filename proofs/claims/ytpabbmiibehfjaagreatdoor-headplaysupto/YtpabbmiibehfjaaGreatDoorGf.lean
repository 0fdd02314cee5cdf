/- Several texts in one: Ecmp, Hc, Hd. -/
import Derived.Test.YtpabbmiibehfjaaGreatDoorGa
import Derived.Lib.Bytealg
import Derived.Test.YtpabbmiibehfjaaGreatDoorGe
import Derived.Deep.RegionLaw
import Derived.Lib.Bytes
/- The program's own Compare. -/
namespace Go.Proofs.YtpabbmiibehfjaaGreatDoor
set_option maxRecDepth 20000
open Go.RowKit
set_option linter.unusedVariables false

theorem cmp_lists : ∀ (x y : List UInt8), Lib.compareBytes x y = if Op.bytesLess x y then -1 else if x = y then 0 else 1
  | [], [] => by simp [Lib.compareBytes, Op.bytesLess]
  | [], _ :: _ => by simp [Lib.compareBytes, Op.bytesLess]
  | _ :: _, [] => by simp [Lib.compareBytes, Op.bytesLess]
  | a :: x, b :: y => by
    have ih := cmp_lists x y
    unfold Lib.compareBytes Op.bytesLess
    by_cases h1 : a < b
    · simp [h1]
    · by_cases h2 : b < a
      · have hne : ¬ a = b := fun e => by subst e; exact h1 h2
        simp [h1, h2, hne]
      · have he : a = b := UInt8.le_antisymm (UInt8.not_lt.1 h2) (UInt8.not_lt.1 h1)
        subst he
        simp [h1, ih]
theorem cmp_ord (a b : ByteArray) : Lib.compareBytes a.data.toList b.data.toList = ordR a b := by
  rw [cmp_lists]
  unfold ordR bless
  rw [ByteArray.toList_eq, ByteArray.toList_eq]
  have e : (a.data.toList = b.data.toList) ↔ a = b := ⟨fun h => ByteArray.ext (Array.toList_inj.1 h), fun h => by rw [h]⟩
  simp only [e]
theorem g_native (a b : ByteArray) (w : World) : Calls Tryz.prog 128 #[.string a, .string b] w fun e w' => e = .returned (.int .i64 (ordR a b)) ∧ w = w' := by
  have hc : ∀ w, (callFunc 137 #[.string a, .string b]).run Tryz.prog w = .ok (.value (.int .i64 (ordR a b))) w := fun w => by
    rw [run_callFunc_extern Tryz.func137 (by kernel_rfl) (by kernel_rfl) (by kernel_rfl) (e := Extern.BytealgCompare.compare) (by kernel_rfl), Lib.run_compareString, cmp_ord]
    rfl
  generalize ordR a b = r at hc ⊢
  go_enter Tryz.func128, Tryz.ntmps128
  go_wp2_with (simp only [hc])
  go_ret
  exact ⟨rfl, rfl⟩
theorem g_strcmp (a b : ByteArray) (w : World) : Calls Tryz.prog 119 #[.string a, .string b] w fun e w' => e = .returned (.int .i64 (ordR a b)) ∧ w = w' := by
  have HC := g_native a b w
  generalize ordR a b = r at HC ⊢
  go_enter Tryz.func119, Tryz.ntmps119
  go_wp2_with fail
  refine HC.mono ?_
  rintro e w1 ⟨rfl, rfl⟩
  go_wp2
  go_ret
  exact ⟨rfl, rfl⟩
def one (x y : Lab) : Int := if ordR x.1 y.1 ≠ 0 then ordR x.1 y.1 else ordR x.2 y.2
theorem gb_two (w : World) (o o' : Obj) : w.grownBy ((w.alloc o).alloc o') none := (World.grownBy_alloc w o none).trans (World.grownBy_alloc _ o' none)
theorem g_one (s1 s2 t1 t2 : ByteArray) (w : World) : Calls Tryz.prog 108 #[.agg #[.string s1, .string s2], .agg #[.string t1, .string t2]] w fun e w' => e = .returned (.int .i64 (one (s1, s2) (t1, t2))) ∧ w.grownBy w' none := by
  unfold one
  have HO1 : Hid (∀ w, Calls Tryz.prog 119 #[.string s1, .string t1] w fun e w' => e = .returned (.int .i64 (ordR s1 t1)) ∧ w = w') := g_strcmp s1 t1
  have HO2 : Hid (∀ w, Calls Tryz.prog 119 #[.string s2, .string t2] w fun e w' => e = .returned (.int .i64 (ordR s2 t2)) ∧ w = w') := g_strcmp s2 t2
  by_cases h : ordR s1 t1 = 0
  · have q1 : (ordR s1 t1 != 0) = false := by simpa using h
    simp only [h, ne_eq, not_true_eq_false, if_false]
    generalize ordR s1 t1 = o1 at HO1 q1
    generalize ordR s2 t2 = o2 at HO2 ⊢
    clear h
    go_enter Tryz.func108, Tryz.ntmps108
    go_wp2_with fail
    refine (HO1.out _).mono ?_
    rintro e w1 ⟨rfl, rfl⟩
    go_wp2_with fail
    refine (HO2.out _).mono ?_
    rintro e w1 ⟨rfl, rfl⟩
    go_wp2
    go_ret
    exact ⟨rfl, gb_two w _ _⟩
  · have q1 : (ordR s1 t1 != 0) = true := by simpa using h
    simp only [ne_eq, h, not_false_eq_true, if_true]
    generalize ordR s1 t1 = o1 at HO1 q1
    clear h HO2
    go_enter Tryz.func108, Tryz.ntmps108
    go_wp2_with fail
    refine (HO1.out _).mono ?_
    rintro e w1 ⟨rfl, rfl⟩
    go_wp2
    go_ret
    exact ⟨rfl, gb_two w _ _⟩
theorem CmpAt.step {xs ys : List Lab} {k : Nat} {R : Int} {x y : Lab} (h : CmpAt xs ys k R) (hx : xs[k]? = some x) (hy : ys[k]? = some y) : (if one x y ≠ 0 then one x y else cmpR (xs.drop (k + 1)) (ys.drop (k + 1))) = R := by
  have := h.next hx hy
  rw [← this]
  unfold one
  by_cases h1 : ordR x.1 y.1 = 0
  · simp [h1]
  · simp [h1]

set_option maxHeartbeats 1000000 in
theorem g_cmpfunc (a b : Option Addr) (xs ys : List Lab) (L M c d : Nat) (R : Int) (w : World) (hx : SRd labE w a xs) (hy : SRd labE w b ys) (hL : xs.length = L) (hM : ys.length = M) (hz : L ≤ 4398046511104) (hz2 : M ≤ 4398046511104) (hR : cmpR xs ys = R) :
    Calls Tryz.prog 107 #[.slice a L c, .slice b M d, .func (.func 108) #[] #[]] w fun e w' => e = .returned (.int .i64 R) ∧ w.grownBy w' none := by
  have HX : Hid (SRd labE w a xs) := hx
  have HY : Hid (SRd labE w b ys) := hy
  have HL : Hid (xs.length = L) := hL
  have HM : Hid (ys.length = M) := hM
  have H0 : Hid (CmpAt xs ys 0 R) := hR
  clear hx hy hL hM hR
  go_enter Tryz.func107, Tryz.ntmps107
  go_wp2
  go_loopw [13] (fun i wr => ∃ k : Nat, k ≤ L ∧ k ≤ M ∧ i = .int .i64 k ∧ w.grownBy wr none ∧ CmpAt xs ys k R) (fun i _ => L - (intOf i).toNat)
  case atStart => exact ⟨0, Nat.zero_le _, Nat.zero_le _, rfl, World.grownBy.refl _ _, H0.out⟩
  case round =>
    obtain ⟨k, hk, hk2, rfl, hg, hc⟩ := hrel
    have HG : Hid (w.grownBy wr none) := hg
    have HC : Hid (CmpAt xs ys k R) := hc
    clear hc hg H0
    by_cases hlt : k < L ∧ k < M
    · have hl := HL.out
      have hm := HM.out
      obtain ⟨ba, offa, rfl, hca⟩ := (HX.out.grown HG.out (by simp)).at (by omega)
      obtain ⟨bb, offb, rfl, hcb⟩ := (HY.out.grown HG.out (by simp)).at (by omega)
      obtain ⟨⟨s1, s2⟩, ex⟩ : ∃ x, xs[k]? = some x := ⟨_, List.getElem?_eq_getElem (by omega)⟩
      obtain ⟨⟨t1, t2⟩, ey⟩ : ∃ y, ys[k]? = some y := ⟨_, List.getElem?_eq_getElem (by omega)⟩
      have a0 : wr.cell? ⟨ba, offa + k * 2, none⟩ = some (.string s1) := hca k _ 0 _ ex rfl
      have a1 : wr.cell? ⟨ba, offa + k * 2 + 1, none⟩ = some (.string s2) := by rw [Nat.add_assoc]; exact hca k _ 1 _ ex rfl
      have b0 : wr.cell? ⟨bb, offb + k * 2, none⟩ = some (.string t1) := hcb k _ 0 _ ey rfl
      have b1 : wr.cell? ⟨bb, offb + k * 2 + 1, none⟩ = some (.string t2) := by rw [Nat.add_assoc]; exact hcb k _ 1 _ ey rfl
      have HN : Hid (_ = R) := HC.out.step ex ey
      have hi1 : (k : Int) < (L : Int) := by omega
      have hi2 : (k : Int) < (M : Int) := by omega
      have HO1 : Hid (∀ w, Calls Tryz.prog 108 #[.agg #[.string s1, .string s2], .agg #[.string t1, .string t2]] w fun e w' => e = .returned (.int .i64 (one (s1, s2) (t1, t2))) ∧ w.grownBy w' none) := g_one s1 s2 t1 t2
      have hk1 : k < L := hlt.1
      have hk2' : k < M := hlt.2
      have c0 : (wr.alloc (.cells #[.string s1, .string s2] 62)).cell? ⟨bb, offb + k * 2, none⟩ = some (.string t1) := (World.grownBy_alloc wr _ none).cell b0 (by simp)
      have c1 : (wr.alloc (.cells #[.string s1, .string s2] 62)).cell? ⟨bb, offb + k * 2 + 1, none⟩ = some (.string t2) := (World.grownBy_alloc wr _ none).cell b1 (by simp)
      clear hca hcb ex ey hl hm hlt b0 b1
      by_cases h1 : one (s1, s2) (t1, t2) = 0
      · have q1 : (one (s1, s2) (t1, t2) != 0) = false := by simpa using h1
        have HS : Hid (CmpAt xs ys (k + 1) R) := by
          have h := HN.out
          rw [if_neg (by simpa using h1)] at h
          exact h
        generalize one (s1, s2) (t1, t2) = o1 at HO1 q1
        clear h1 HN
        go_wp2_with fail
        refine (HO1.out _).mono ?_
        rintro e w2 ⟨rfl, hg2⟩
        have HG2 : Hid (w.grownBy w2 none) := HG.out.trans ((gb_two wr _ _).trans hg2)
        clear hg2
        go_wp2
        go_roundw
        case rel => exact ⟨k + 1, by omega, by omega, by go_num, HG2.out, HS.out⟩
        case measure => simp [intOf]; omega
      · have q1 : (one (s1, s2) (t1, t2) != 0) = true := by simpa using h1
        have HS : Hid (one (s1, s2) (t1, t2) = R) := by
          have h := HN.out
          rw [if_pos (by simpa using h1)] at h
          exact h
        rw [HS.out] at HO1 q1
        clear h1 HN HS
        go_wp2_with fail
        refine (HO1.out _).mono ?_
        rintro e w2 ⟨rfl, hg2⟩
        have HG2 : Hid (w.grownBy w2 none) := HG.out.trans ((gb_two wr _ _).trans hg2)
        clear hg2
        go_wp2
        go_ret
        exact ⟨rfl, HG2.out⟩
    · have HD : Hid ((if L < M then (-1 : Int) else if M < L then 1 else 0) = R) := by
        have h := HC.out.done (by have := HL.out; omega) (by have := HM.out; omega) (by have := HL.out; have := HM.out; omega)
        rw [HL.out, HM.out] at h
        exact h
      by_cases h2 : k < L
      · have hkm : k = M := by omega
        have HR : Hid ((1 : Int) = R) := by have h := HD.out; rw [if_neg (by omega), if_pos (by omega)] at h; exact h
        have hl := HL.out
        obtain ⟨ba, offa, rfl, hca⟩ := (HX.out.grown HG.out (by simp)).at (by omega)
        obtain ⟨⟨s1, s2⟩, ex⟩ : ∃ x, xs[k]? = some x := ⟨_, List.getElem?_eq_getElem (by omega)⟩
        have a0 : wr.cell? ⟨ba, offa + k * 2, none⟩ = some (.string s1) := hca k _ 0 _ ex rfl
        have a1 : wr.cell? ⟨ba, offa + k * 2 + 1, none⟩ = some (.string s2) := by rw [Nat.add_assoc]; exact hca k _ 1 _ ex rfl
        have hi1 : (k : Int) < (L : Int) := by omega
        subst hkm
        clear hca ex hl hlt HD
        go_wp2
        go_ret
        exact ⟨ret_int HR.out, HG.out.trans (World.grownBy_alloc wr _ none)⟩
      · have hi1 : ¬ (k : Int) < (L : Int) := by omega
        by_cases h1 : L < M
        · have HR : Hid ((-1 : Int) = R) := by have h := HD.out; rw [if_pos h1] at h; exact h
          have hi2 : (L : Int) < (M : Int) := by omega
          clear hlt HD
          go_wp2
          go_ret
          exact ⟨ret_int HR.out, HG.out⟩
        · have HR : Hid ((0 : Int) = R) := by have h := HD.out; rw [if_neg h1, if_neg (by omega)] at h; exact h
          have hi2 : ¬ (L : Int) < (M : Int) := by omega
          clear hlt HD
          go_wp2
          go_ret
          exact ⟨ret_int HR.out, HG.out⟩
theorem f_compare (a b : Option Addr) (xs ys : List Lab) (L M c d : Nat) (R : Int) (w : World) (hx : SRd labE w a xs) (hy : SRd labE w b ys) (hL : xs.length = L) (hM : ys.length = M) (hz : L ≤ 4398046511104) (hz2 : M ≤ 4398046511104) (hR : cmpR xs ys = R) :
    Calls Tryz.prog 90 #[.slice a L c, .slice b M d] w fun e w' => e = .returned (.int .i64 R) ∧ w.grownBy w' none := by
  have HC := g_cmpfunc a b xs ys L M c d R w hx hy hL hM hz hz2 hR
  clear hx hy hL hM hR
  go_enter Tryz.func90, Tryz.ntmps90
  go_wp2_with fail
  refine HC.mono ?_
  rintro e w1 ⟨rfl, hg⟩
  go_wp2
  go_ret
  exact ⟨rfl, hg⟩
end Go.Proofs.YtpabbmiibehfjaaGreatDoor

/- Package points: FirstFrom and Between; copies of labels and points. -/
namespace Go.Proofs.YtpabbmiibehfjaaGreatDoor
open Go.RowKit Go.Maps
set_option linter.unusedVariables false
set_option maxRecDepth 20000

theorem box_cell (w : World) (v : Value) (t : TypeId) : (w.alloc (.cells #[v] t)).cell? ⟨w.heap.size, 0, none⟩ = some v := by
  rw [cell_of_row _ w.heap.size 0 _ t _ (heap_alloc_new w _)]; rfl
theorem two_boxes (w : World) (u v : Value) (s t : TypeId) : ((w.alloc (.cells #[u] s)).alloc (.cells #[v] t)).cell? ⟨w.heap.size, 0, none⟩ = some u ∧ ((w.alloc (.cells #[u] s)).alloc (.cells #[v] t)).cell? ⟨w.heap.size + 1, 0, none⟩ = some v := by
  refine ⟨(World.grownBy_alloc _ _ none).cell (box_cell w u s) (by simp), ?_⟩
  have := box_cell (w.alloc (.cells #[u] s)) v t
  rw [show (w.alloc (.cells #[u] s)).heap.size = w.heap.size + 1 from Array.size_push _] at this
  exact this
theorem countP_iff {α : Type} (f : α → Bool) (l : List α) (k : Nat) (hk : k ≤ l.length) (h : ∀ i a, l[i]? = some a → (f a = false ↔ k ≤ i)) : l.countP f = k := by
  refine countP_place f l k hk (fun i a ha => ?_)
  have := h i a ha
  constructor
  · intro e
    by_cases hki : k ≤ i
    · rw [this.2 hki] at e; cases e
    · omega
  · intro e
    cases hf : f a with
    | true => rfl
    | false => have := this.1 hf; omega
set_option maxHeartbeats 1000000 in
theorem l_from (a : Option Addr) (L c : Nat) (ps : List Pt) (t : Int) (w : World) (hr : SRd pntE w a ps) (hL : ps.length = L) (hu : Rise ps) (hz : L ≤ 140737488355328) :
    Calls Tryz.prog 46 #[.slice a L c, .int .i64 t] w fun e w' => e = .returned (.int .i64 (below ps t)) ∧ w.grownBy w' none := by
  have HS : Hid (Calls Tryz.prog 58 #[.int .i64 L, .func (.func 67) #[] #[.pointer (some ⟨w.heap.size, 0, none⟩), .pointer (some ⟨w.heap.size + 1, 0, none⟩)]] ((w.alloc (.cells #[.slice a L c] 47)).alloc (.cells #[.int .i64 t] 2)) fun e w' => e = .returned (.int .i64 (below ps t)) ∧ ((w.alloc (.cells #[.slice a L c] 47)).alloc (.cells #[.int .i64 t] 2)).grownBy w' none) := by
    obtain ⟨k1, k2⟩ := two_boxes w (.slice a L c) (.int .i64 t) 47 2
    have hg2 := gb_two w (.cells #[.slice a L c] 47) (.cells #[.int .i64 t] 2)
    have hr2 := hr.grown hg2 (by simp)
    refine (l_search67 _ _ _ rfl (fun i => decide (t ≤ (ps.getD i (0, 0)).1)) L _ hz (fun i w1 hi hg => ?_) (fun x y hxy hy hx => ?_)).mono ?_
    · obtain ⟨p, hp⟩ : ∃ p, ps[i]? = some p := ⟨_, List.getElem?_eq_getElem (by omega)⟩
      have e : ps.getD i (0, 0) = p := by rw [List.getD_eq_getElem?_getD, hp]; rfl
      rw [e]
      exact c_from _ _ a L c ps t i p w1 (hg.cell k1 (by simp)) (hg.cell k2 (by simp)) (hr2.grown hg (by simp)) hL hp hz
    · obtain ⟨p, hp⟩ : ∃ p, ps[x]? = some p := ⟨_, List.getElem?_eq_getElem (by omega)⟩
      obtain ⟨q, hq⟩ : ∃ q, ps[y]? = some q := ⟨_, List.getElem?_eq_getElem (by omega)⟩
      have e1 : ps.getD x (0, 0) = p := by rw [List.getD_eq_getElem?_getD, hp]; rfl
      have e2 : ps.getD y (0, 0) = q := by rw [List.getD_eq_getElem?_getD, hq]; rfl
      simp only [e1, e2, decide_eq_true_eq] at hx ⊢
      have h1 := below_iff hu t x p hp
      have h2 := below_iff hu t y q hq
      have h3 : ¬ p.1 < t := by omega
      have h4 : ¬ x < below ps t := fun h => h3 (h1.2 h)
      have h5 : ¬ q.1 < t := fun h => by have := h2.1 h; omega
      omega
    · rintro e w' ⟨k, rfl, hk, hiff, hg⟩
      refine ⟨ret_int ?_, hg⟩
      have : below ps t = k := countP_iff _ ps k (by omega) (fun i p hp => by
        have hi := (List.getElem?_eq_some_iff.1 hp).1
        have := hiff i (by omega)
        have e : ps.getD i (0, 0) = p := by rw [List.getD_eq_getElem?_getD, hp]; rfl
        rw [e] at this
        rw [← this]
        simp)
      rw [this]
  have HG : Hid (w.grownBy ((w.alloc (.cells #[.slice a L c] 47)).alloc (.cells #[.int .i64 t] 2)) none) := gb_two w _ _
  have k1 := (two_boxes w (.slice a L c) (.int .i64 t) 47 2).1
  generalize below ps t = R at HS ⊢
  clear hr hL hu
  go_enter Tryz.func46, Tryz.ntmps46
  go_wp2_with fail
  refine HS.out.mono ?_
  rintro e w1 ⟨rfl, hg⟩
  have HG1 : Hid (w.grownBy w1 none) := HG.out.trans hg
  clear hg
  go_wp2
  go_ret
  exact ⟨rfl, HG1.out⟩
theorem l_cloneP (a : Option Addr) (L c : Nat) (l : List Pt) (w : World) (hr : SRd pntE w a l) (hL : l.length = L) (hnil : a = none → c = 0) (hz : L * 16 ≤ 140737488355328) :
    Calls Tryz.prog 47 #[.slice a L c] w fun e w' => ∃ a' c', e = .returned (.slice a' L c') ∧ SOwn pntE 51 w' w.heap.size (.slice a' L c') L l ∧ w.grownBy w' none := by
  cases a with
  | none =>
    obtain rfl := hnil rfl
    obtain rfl := hr.none
    obtain rfl : L = 0 := by simpa using hL.symm
    have heq : ∀ w, (binOp .eql 47 (.slice none 0 0) (.slice none 0 0)).run Tryz.prog w = .ok (.bool true) w := fun w => Lib.run_eql_slice_nil w 47 51 none 0 0 0 0 Tryz.underlying47
    clear hr hL hnil hz
    go_enter Tryz.func47, Tryz.ntmps47
    go_wp2
    go_ret
    exact ⟨none, 0, rfl, SOwn.nil 51 _ _, World.grownBy.refl _ _⟩
  | some ad =>
    have heq : ∀ w, (binOp .eql 47 (.slice (some ad) L c) (.slice none 0 0)).run Tryz.prog w = .ok (.bool false) w := fun w => Lib.run_eql_slice_nil w 47 51 (some ad) L c 0 0 Tryz.underlying47
    have HR : Hid (SRd pntE w (some ad) l) := hr
    have HL : Hid (l.length = L) := hL
    clear hr hL hnil
    go_enter Tryz.func47, Tryz.ntmps47
    go_wp2_with (at_builtin; refine wpList_append_s pntT rfl (.tmp 5) (.tmp 6) rfl w.heap.size (.slice (some ⟨w.heap.size, 0, none⟩) 0 0) 0 [] rfl (SOwn.empty pntE 51 w) (some ad) l L c rfl HL.out (HR.out.grown (World.grownBy_alloc w _ none) (by simp)) (by simp) (by omega) (by unfold maxLen; omega) (Nat.le_of_lt (by rw [show ((w.alloc (.cells #[] 51)).heap.size) = w.heap.size + 1 from Array.size_push _]; omega)) ?_; intro v1 w1 ho1 hg1 hn1)
    go_ret
    rw [List.nil_append, Nat.zero_add] at ho1
    obtain ⟨g, c', rfl, _⟩ := SOwn.some ho1 (fun e => by simpa using (hn1 e).1)
    exact ⟨some ⟨g, 0, none⟩, c', rfl, ho1, gb_trans (World.grownBy_alloc w _ none) hg1 (fun i hi => .inl (by simp [Value.ownBlock] at hi; omega))⟩
theorem l_cloneL (a : Option Addr) (L c : Nat) (l : List Lab) (w : World) (hr : SRd labE w a l) (hL : l.length = L) (hnil : a = none → c = 0) (hz : L * 32 ≤ 140737488355328) :
    Calls Tryz.prog 62 #[.slice a L c] w fun e w' => ∃ a' c', e = .returned (.slice a' L c') ∧ SOwn labE 62 w' w.heap.size (.slice a' L c') L l ∧ w.grownBy w' none := by
  cases a with
  | none =>
    obtain rfl := hnil rfl
    obtain rfl := hr.none
    obtain rfl : L = 0 := by simpa using hL.symm
    have heq : ∀ w, (binOp .eql 28 (.slice none 0 0) (.slice none 0 0)).run Tryz.prog w = .ok (.bool true) w := fun w => Lib.run_eql_slice_nil w 28 62 none 0 0 0 0 Tryz.underlying28
    clear hr hL hnil hz
    go_enter Tryz.func62, Tryz.ntmps62
    go_wp2
    go_ret
    exact ⟨none, 0, rfl, SOwn.nil 62 _ _, World.grownBy.refl _ _⟩
  | some ad =>
    have heq : ∀ w, (binOp .eql 28 (.slice (some ad) L c) (.slice none 0 0)).run Tryz.prog w = .ok (.bool false) w := fun w => Lib.run_eql_slice_nil w 28 62 (some ad) L c 0 0 Tryz.underlying28
    have HR : Hid (SRd labE w (some ad) l) := hr
    have HL : Hid (l.length = L) := hL
    clear hr hL hnil
    go_enter Tryz.func62, Tryz.ntmps62
    go_wp2_with (at_builtin; refine wpList_append_s labT rfl (.tmp 5) (.tmp 6) rfl w.heap.size (.slice (some ⟨w.heap.size, 0, none⟩) 0 0) 0 [] rfl (SOwn.empty labE 62 w) (some ad) l L c rfl HL.out (HR.out.grown (World.grownBy_alloc w _ none) (by simp)) (by simp) (by omega) (by unfold maxLen; omega) (Nat.le_of_lt (by rw [show ((w.alloc (.cells #[] 62)).heap.size) = w.heap.size + 1 from Array.size_push _]; omega)) ?_; intro v1 w1 ho1 hg1 hn1)
    go_ret
    rw [List.nil_append, Nat.zero_add] at ho1
    obtain ⟨g, c', rfl, _⟩ := SOwn.some ho1 (fun e => by simpa using (hn1 e).1)
    exact ⟨some ⟨g, 0, none⟩, c', rfl, ho1, gb_trans (World.grownBy_alloc w _ none) hg1 (fun i hi => .inl (by simp [Value.ownBlock] at hi; omega))⟩
end Go.Proofs.YtpabbmiibehfjaaGreatDoor

/- Package points: Between. -/
namespace Go.Proofs.YtpabbmiibehfjaaGreatDoor
open Go.RowKit Go.Maps
set_option linter.unusedVariables false
set_option maxRecDepth 20000

/-- Where a slice begins that leaves its first k elements out. -/
def cutA (a : Option Addr) (c k sz : Nat) : Option Addr := if c = k then a else a.map (·.add (k * sz))
theorem cutA_none (c k sz : Nat) : cutA none c k sz = none := by unfold cutA; split <;> rfl
theorem cutA_block {a : Option Addr} {c k sz : Nat} {x : Addr} (h : cutA a c k sz = some x) : ∃ y, a = some y ∧ y.block = x.block := by
  unfold cutA at h
  split at h
  · exact ⟨x, h, rfl⟩
  · cases a with
    | none => cases h
    | some y =>
      simp only [Option.map_some, Option.some.injEq] at h
      refine ⟨y, rfl, ?_⟩
      rw [← h]
      unfold Addr.add
      split <;> rfl
theorem slice_l (t e sz : Nat) (ht : Tryz.prog.underlying t = some (.slice e)) (hs : ∀ w, (Go.sizeOf e).run Tryz.prog w = .ok sz w) (a : Option Addr) (L c k : Nat) (hk : k ≤ L) (w : World) :
    (Instr.slice t (.slice a L c) (some (.int .i64 (k : Int))) none none).run Tryz.prog w = .ok (.slice (cutA a c k sz) (L - k) (c - k)) w := by
  have ht' : Tryz.prog.underlying t = some (.slice (Tryz.prog.elem t)) := by simp [Program.elem, ht]
  have he : Tryz.prog.elem t = e := by simp [Program.elem, ht]
  rw [run_slice_l w t a L c ht' .i64 (k : Int) (by omega) (by omega), he, hs]
  simp only [Result.andThen, sliced, Int.toNat_natCast]
  rfl
theorem slice_h (t e sz : Nat) (ht : Tryz.prog.underlying t = some (.slice e)) (hs : ∀ w, (Go.sizeOf e).run Tryz.prog w = .ok sz w) (a : Option Addr) (L c k : Nat) (hk : k ≤ c) (w : World) :
    (Instr.slice t (.slice a L c) none (some (.int .i64 (k : Int))) none).run Tryz.prog w = .ok (.slice a k c) w := by
  have ht' : Tryz.prog.underlying t = some (.slice (Tryz.prog.elem t)) := by simp [Program.elem, ht]
  have he : Tryz.prog.elem t = e := by simp [Program.elem, ht]
  rw [run_slice_h w t a L c ht' .i64 (k : Int) (by omega) (by omega), he, hs]
  simp only [Result.andThen, sliced, Int.toNat_natCast]
  cases a with
  | none => simp
  | some y => simp [Addr.add]
section
variable {α : Type} {E : Elem α}
theorem flat_drop (l : List α) (k : Nat) : E.flat (l.drop k) = (E.flat l).drop (k * E.size) := by
  conv => rhs; rw [← List.take_append_drop k l, E.flat_app]
  by_cases h : k ≤ l.length
  · have hl : (E.flat (l.take k)).length = k * E.size := by rw [E.flat_len, List.length_take, Nat.min_eq_left h]
    rw [List.drop_append, List.drop_of_length_le (l := E.flat (l.take k)) (by omega), hl]
    simp
  · rw [List.drop_of_length_le (l := l) (by omega)]
    simp only [Elem.flat, List.flatMap_nil, List.append_nil]
    have := E.flat_len (l.take k)
    unfold Elem.flat at this
    rw [List.drop_of_length_le (by rw [this]; exact Nat.mul_le_mul_right _ (by rw [List.length_take]; omega))]
theorem SRd.drop {w : World} {a : Option Addr} {l : List α} (h : SRd E w a l) (c k : Nat) (hc : l.length ≤ c) : SRd E w (cutA a c k E.size) (l.drop k) := by
  rcases h with rfl | ⟨b, off, rfl, h⟩
  · exact .inl (by simp)
  · by_cases hk : l.length ≤ k
    · exact .inl (List.drop_of_length_le hk)
    · refine .inr ⟨b, off + k * E.size, ?_, fun j v hj => ?_⟩
      · unfold cutA
        rw [if_neg (by omega)]
        unfold Addr.add
        simp only [Option.map_some]
        by_cases h0 : k * E.size = 0
        · simp [h0]
        · simp [h0]
      · rw [Nat.add_assoc]
        refine h _ _ ?_
        rw [flat_drop, List.getElem?_drop] at hj
        exact hj
theorem SRd.take {w : World} {a : Option Addr} {l : List α} (h : SRd E w a l) (k : Nat) : SRd E w a (l.take k) := by
  rcases h with rfl | ⟨b, off, rfl, h⟩
  · exact .inl (by simp)
  · refine .inr ⟨b, off, rfl, fun j v hj => h _ _ ?_⟩
    rw [E.flat_take, List.getElem?_take] at hj
    split at hj
    · exact hj
    · cases hj
end
theorem size51 (w : World) : (Go.sizeOf 51).run Tryz.prog w = .ok 2 w := by kernel_rfl
theorem size77 (w : World) : (Go.sizeOf 77).run Tryz.prog w = .ok 1 w := by kernel_rfl
theorem sl47 (a : Option Addr) (L c k : Nat) (hk : k ≤ L) (w : World) : (Instr.slice 47 (.slice a L c) (some (.int .i64 (k : Int))) none none).run Tryz.prog w = .ok (.slice (cutA a c k 2) (L - k) (c - k)) w := slice_l 47 51 2 Tryz.underlying47 size51 a L c k hk w
theorem sh47 (a : Option Addr) (L c k : Nat) (hk : k ≤ c) (w : World) : (Instr.slice 47 (.slice a L c) none (some (.int .i64 (k : Int))) none).run Tryz.prog w = .ok (.slice a k c) w := slice_h 47 51 2 Tryz.underlying47 size51 a L c k hk w
theorem sl75 (a : Option Addr) (L c k : Nat) (hk : k ≤ L) (w : World) : (Instr.slice 75 (.slice a L c) (some (.int .i64 (k : Int))) none none).run Tryz.prog w = .ok (.slice (cutA a c k 1) (L - k) (c - k)) w := slice_l 75 77 1 Tryz.underlying75 size77 a L c k hk w
theorem sh75 (a : Option Addr) (L c k : Nat) (hk : k ≤ c) (w : World) : (Instr.slice 75 (.slice a L c) none (some (.int .i64 (k : Int))) none).run Tryz.prog w = .ok (.slice a k c) w := slice_h 75 77 1 Tryz.underlying75 size77 a L c k hk w
/-- How many points lie up to t. -/
def upto (ps : List Pt) (t : Int) : Nat := ps.countP fun p => decide (p.1 ≤ t)
theorem upto_le (ps : List Pt) (t : Int) : upto ps t ≤ ps.length := List.countP_le_length
theorem upto_take {ps : List Pt} (h : Rise ps) (t : Int) : ps.take (upto ps t) = ps.filter (fun p => decide (p.1 ≤ t)) :=
  (take_place (fun p : Pt => decide (p.1 ≤ t)) ps (rise_mono h (fun x => decide (x ≤ t)) (fun s u hs hu => by simp at hu ⊢; omega))).1
theorem upto_iff {ps : List Pt} (h : Rise ps) (t : Int) : ∀ i p, ps[i]? = some p → (p.1 ≤ t ↔ i < upto ps t) := by
  intro i p hp
  have := place_countP (fun p : Pt => decide (p.1 ≤ t)) ps (rise_mono h (fun x => decide (x ≤ t)) (fun s u hs hu => by simp at hu ⊢; omega)) i p hp
  unfold upto
  simpa using this
def within (f t : Int) (p : Pt) : Bool := decide (f ≤ p.1) && decide (p.1 ≤ t)
theorem between_eq {ps : List Pt} (h : Rise ps) (f t : Int) : (ps.drop (below ps f)).take (upto (ps.drop (below ps f)) t) = ps.filter (within f t) := by
  rw [(below_take h f).2, upto_take (h.filter _), List.filter_filter]
  congr 1
  funext p
  unfold within
  rw [Bool.and_comm]
theorem l_to (b1 b2 : Nat) (a : Option Addr) (L c : Nat) (ps : List Pt) (t : Int) (w : World) (k1 : w.cell? ⟨b1, 0, none⟩ = some (.slice a L c)) (k2 : w.cell? ⟨b2, 0, none⟩ = some (.int .i64 t)) (hr2 : SRd pntE w a ps) (hL : ps.length = L) (hu : Rise ps) (hz : L ≤ 140737488355328) :
    Calls Tryz.prog 58 #[.int .i64 L, .func (.func 59) #[] #[.pointer (some ⟨b1, 0, none⟩), .pointer (some ⟨b2, 0, none⟩)]] w fun e w' => e = .returned (.int .i64 (upto ps t)) ∧ w.grownBy w' none := by
  refine (l_search59 _ _ _ rfl (fun i => decide (t < (ps.getD i (0, 0)).1)) L _ hz (fun i w1 hi hg => ?_) (fun x y hxy hy hx => ?_)).mono ?_
  · obtain ⟨p, hp⟩ : ∃ p, ps[i]? = some p := ⟨_, List.getElem?_eq_getElem (by omega)⟩
    have e : ps.getD i (0, 0) = p := by rw [List.getD_eq_getElem?_getD, hp]; rfl
    rw [e]
    exact c_to _ _ a L c ps t i p w1 (hg.cell k1 (by simp)) (hg.cell k2 (by simp)) (hr2.grown hg (by simp)) hL hp hz
  · obtain ⟨p, hp⟩ : ∃ p, ps[x]? = some p := ⟨_, List.getElem?_eq_getElem (by omega)⟩
    obtain ⟨q, hq⟩ : ∃ q, ps[y]? = some q := ⟨_, List.getElem?_eq_getElem (by omega)⟩
    have e1 : ps.getD x (0, 0) = p := by rw [List.getD_eq_getElem?_getD, hp]; rfl
    have e2 : ps.getD y (0, 0) = q := by rw [List.getD_eq_getElem?_getD, hq]; rfl
    simp only [e1, e2, decide_eq_true_eq] at hx ⊢
    have h1 := upto_iff hu t x p hp
    have h2 := upto_iff hu t y q hq
    have h3 : ¬ p.1 ≤ t := by omega
    have h4 : ¬ x < upto ps t := fun h => h3 (h1.2 h)
    have h5 : ¬ q.1 ≤ t := fun h => by have := h2.1 h; omega
    omega
  · rintro e w' ⟨k, rfl, hk, hiff, hg⟩
    refine ⟨ret_int ?_, hg⟩
    have : upto ps t = k := countP_iff _ ps k (by omega) (fun i p hp => by
      have hi := (List.getElem?_eq_some_iff.1 hp).1
      have := hiff i (by omega)
      have e : ps.getD i (0, 0) = p := by rw [List.getD_eq_getElem?_getD, hp]; rfl
      rw [e] at this
      rw [← this]
      simp)
    rw [this]
theorem set_same {w : World} {b o : Nat} {u : Value} (h : w.cell? ⟨b, o, none⟩ = some u) (v : Value) : (w.setCell ⟨b, o, none⟩ v).cell? ⟨b, o, none⟩ = some v := World.cell?_setCell_same w _ _ h
theorem box_free (w : World) (u v : Value) (s t : TypeId) : ((w.alloc (.cells #[u] s)).alloc (.cells #[v] t)).frozen? ⟨w.heap.size, 0, none⟩ = false := by
  have h : ((w.alloc (.cells #[u] s)).alloc (.cells #[v] t)).heap[w.heap.size]? = some (.cells #[u] s) := by
    rw [(World.grownBy_alloc (w.alloc (.cells #[u] s)) (.cells #[v] t) none).block w.heap.size (by rw [show (w.alloc (.cells #[u] s)).heap.size = w.heap.size + 1 from Array.size_push _]; omega) (by simp)]
    exact heap_alloc_new w _
  simp [World.frozen?, h]
theorem frozen_grown {w w' : World} {b o : Nat} (h : w.grownBy w' none) (hb : b < w.heap.size) (hf : w.frozen? ⟨b, o, none⟩ = false) : w'.frozen? ⟨b, o, none⟩ = false := by
  unfold World.frozen? at hf ⊢
  rw [h.block b hb (by simp)]
  exact hf
set_option maxHeartbeats 2000000 in
theorem l_between (a : Option Addr) (L c : Nat) (ps : List Pt) (f t : Int) (w : World) (hr : SRd pntE w a ps) (hL : ps.length = L) (hu : Rise ps) (hz : L ≤ 140737488355328) (hc : L ≤ c) (hnil : a = none → c = 0) :
    Calls Tryz.prog 37 #[.slice a L c, .int .i64 f, .int .i64 t] w fun e w' => ∃ a' c', e = .returned (.slice a' (ps.filter (within f t)).length c') ∧ SRd pntE w' a' (ps.filter (within f t)) ∧ (a' = none → c' = 0) ∧ (∀ x, a' = some x → ∃ y, a = some y ∧ y.block = x.block) ∧ w.grownBy w' none := by
  obtain ⟨k, hk⟩ : ∃ k, k = below ps f := ⟨_, rfl⟩
  obtain ⟨m, hm⟩ : ∃ m, m = upto (ps.drop k) t := ⟨_, rfl⟩
  have hkL : k ≤ L := by rw [hk, ← hL]; exact below_le ps f
  have hmL : m ≤ L - k := by rw [hm]; refine Nat.le_trans (upto_le _ _) ?_; rw [List.length_drop]; omega
  have EQ : Hid ((ps.drop k).take m = ps.filter (within f t)) := by rw [hm, hk]; exact between_eq hu f t
  have HR : Hid (SRd pntE w a ps) := hr
  have HL : Hid (ps.length = L) := hL
  have HU : Hid (Rise (ps.drop k)) := ⟨hu.up.drop, fun p hp => hu.lo p (List.mem_of_mem_drop hp), fun p hp => hu.hi p (List.mem_of_mem_drop hp)⟩
  have HK : Hid (k = below ps f) := hk
  have HM : Hid (m = upto (ps.drop k) t) := hm
  have HN : Hid (a = none → c = 0) := hnil
  have HF : Hid (∀ w1, w.grownBy w1 none → Calls Tryz.prog 46 #[.slice a L c, .int .i64 f] w1 fun e w' => e = .returned (.int .i64 k) ∧ w1.grownBy w' none) := fun w1 h => by rw [hk]; exact l_from a L c ps f w1 (hr.grown h (by simp)) hL hu hz
  have hs1 := fun w => sl47 a L c k hkL w
  have hs2 := fun w => sh47 (cutA a c k 2) (L - k) (c - k) m (by omega) w
  have HT : Hid (∀ (b1 b2 : Nat) (w1 : World), w.grownBy w1 none → w1.cell? ⟨b1, 0, none⟩ = some (.slice (cutA a c k 2) (L - k) (c - k)) → w1.cell? ⟨b2, 0, none⟩ = some (.int .i64 t) → Calls Tryz.prog 58 #[.int .i64 ((L - k : Nat) : Int), .func (.func 59) #[] #[.pointer (some ⟨b1, 0, none⟩), .pointer (some ⟨b2, 0, none⟩)]] w1 fun e w' => e = .returned (.int .i64 m) ∧ w1.grownBy w' none) := fun b1 b2 w1 h h1 h2 => by
    rw [hm]
    exact l_to b1 b2 _ (L - k) (c - k) (ps.drop k) t w1 h1 h2 (((HR.out).drop c k (by omega)).grown h (fun x hx => by simp)) (by rw [List.length_drop, hL]) HU.out (by omega)
  have HO : Hid (∀ w', w.grownBy w' none → ∃ a' c', (Ending.returned (.slice (cutA a c k 2) m (c - k)) : Ending) = .returned (.slice a' (ps.filter (within f t)).length c') ∧ SRd pntE w' a' (ps.filter (within f t)) ∧ (a' = none → c' = 0) ∧ (∀ x, a' = some x → ∃ y, a = some y ∧ y.block = x.block) ∧ w.grownBy w' none) := by
    intro w' hg
    refine ⟨cutA a c k 2, c - k, ?_, ?_, ?_, fun x hx => cutA_block hx, hg⟩
    · rw [← EQ.out, List.length_take, List.length_drop, hL, Nat.min_eq_left hmL]
    · rw [← EQ.out]
      exact (((hr.drop c k (by omega)).take m).grown hg (by simp))
    · intro h
      cases a with
      | none => have := hnil rfl; omega
      | some y => unfold cutA at h; split at h <;> simp at h
  obtain ⟨k1, k2⟩ := two_boxes w (.slice a L c) (.int .i64 t) 47 2
  have HG : Hid (w.grownBy ((w.alloc (.cells #[.slice a L c] 47)).alloc (.cells #[.int .i64 t] 2)) none) := gb_two w _ _
  clear hr hL hu hk hm hnil
  go_enter Tryz.func37, Tryz.ntmps37
  go_wp2
  have kf := box_free w (.slice a L c) (.int .i64 t) 47 2
  have HSZ : Hid (w.heap.size < ((w.alloc (.cells #[.slice a L c] 47)).alloc (.cells #[.int .i64 t] 2)).heap.size) := by
    refine Nat.lt_of_lt_of_le ?_ (World.grownBy_alloc (w.alloc (.cells #[.slice a L c] 47)) (.cells #[.int .i64 t] 2) none).size
    rw [show (w.alloc (.cells #[.slice a L c] 47)).heap.size = w.heap.size + 1 from Array.size_push _]
    omega
  generalize ((w.alloc (.cells #[.slice a L c] 47)).alloc (.cells #[.int .i64 t] 2)) = W at k1 k2 HG kf HSZ ⊢
  have HGD : Hid (w.grownBy W.drew none) := gb_drew HG.out
  go_region_with (first
    | (go_at_call 46; refine (HF.out _ HGD.out).mono ?_; rintro e w1 ⟨rfl, hg1⟩; have q1 : w1.cell? ⟨w.heap.size, 0, none⟩ = some (.slice a L c) := hg1.cell k1 (by simp); have q2 : w1.cell? ⟨w.heap.size + 1, 0, none⟩ = some (.int .i64 t) := hg1.cell k2 (by simp); have qf : w1.frozen? ⟨w.heap.size, 0, none⟩ = false := frozen_grown hg1 HSZ.out kf; have HG1 : Hid (w.grownBy w1 none) := HGD.out.trans hg1; clear hg1))
  all_goals (
    have HG2 : Hid (w.grownBy (w1.setCell ⟨w.heap.size, 0, none⟩ (.slice (cutA a c k 2) (L - k) (c - k))) none) := gb_trans HG1.out (gb_set rfl) (fun j hj => .inl (by cases hj; exact Nat.le_refl _))
    have r1 : (w1.setCell ⟨w.heap.size, 0, none⟩ (.slice (cutA a c k 2) (L - k) (c - k))).cell? ⟨w.heap.size, 0, none⟩ = some (.slice (cutA a c k 2) (L - k) (c - k)) := set_same q1 _
    have r2 : (w1.setCell ⟨w.heap.size, 0, none⟩ (.slice (cutA a c k 2) (L - k) (c - k))).cell? ⟨w.heap.size + 1, 0, none⟩ = some (.int .i64 t) := (gb_set (w := w1) (p := ⟨w.heap.size, 0, none⟩) (g := w.heap.size) rfl).cell q2 (by simp)
    generalize (w1.setCell ⟨w.heap.size, 0, none⟩ (.slice (cutA a c k 2) (L - k) (c - k))) = W2 at HG2 r1 r2 ⊢
    have HGD2 : Hid (w.grownBy W2.drew none) := gb_drew HG2.out
    clear q1 q2 qf HG1 kf k1 k2 HG HGD HSZ hs1
    go_wp2
    go_region_held3 (fun X => X.cell? ⟨w.heap.size, 0, none⟩ = some (.slice (cutA a c k 2) (L - k) (c - k))) (go_keep) (first
      | (go_at_call 58; refine (HT.out _ _ _ HGD2.out r1 r2).mono ?_; rintro e w3 ⟨rfl, hg3⟩; have q1 : w3.cell? ⟨w.heap.size, 0, none⟩ = some (.slice (cutA a c k 2) (L - k) (c - k)) := hg3.cell r1 (by simp); have HG3 : Hid (w.grownBy w3 none) := HGD2.out.trans hg3; clear hg3))
    all_goals go_wp2
    all_goals go_ret
    all_goals exact HO.out _ HG3.out)
end Go.Proofs.YtpabbmiibehfjaaGreatDoor

