/- Several texts in one: Je, Jf. -/
import Derived.Test.YtpabbmiibehfjaaGreatDoorKb
import Derived.Test.YtpabbmiibehfjaaGreatDoorGp
import Derived.Test.YtpabbmiibehfjaaGreatDoorGz
import Derived.Test.YtpabbmiibehfjaaGreatDoorGv
import Derived.Test.YtpabbmiibehfjaaGreatDoorIp
/- The document's head: in memory; New, find, Count, Span, Select, Cut. -/
namespace Go.Proofs.YtpabbmiibehfjaaGreatDoor
open Go.RowKit Go.Maps
set_option linter.unusedVariables false
set_option maxRecDepth 20000

/-- The document's head, in block rb: its limit, its series S; its blocks are those of R. -/
structure RefIs (w : World) (base rb lim : Nat) (S : List Ser) (R : Nat → Prop) (a : Option Addr) (c : Nat) (raw : List (Sv × Sv)) : Prop where
  row : w.rowIs rb 39 2 (SerF (.int .i64 lim) (.slice a S.length c))
  ser : SerR w R (.slice a S.length c) S raw
  rb : R rb
  lt : ∀ k, R k → base ≤ k ∧ k < w.heap.size
def RefAt (w : World) (base rb lim : Nat) (S : List Ser) (R : Nat → Prop) : Prop := ∃ a c raw, RefIs w base rb lim S R a c raw
theorem RefIs.stay {w w' : World} {base rb lim : Nat} {S : List Ser} {R : Nat → Prop} {a : Option Addr} {c : Nat} {raw : List (Sv × Sv)} (h : RefIs w base rb lim S R a c raw) (hs : w.heap.size ≤ w'.heap.size) (hb : ∀ k, k < w.heap.size → R k → w'.heap[k]? = w.heap[k]?) : RefIs w' base rb lim S R a c raw :=
  ⟨h.row.of_block (hb _ h.row.lt h.rb), h.ser.stay hb (fun k h => h), h.rb, fun k hk => ⟨(h.lt k hk).1, Nat.lt_of_lt_of_le (h.lt k hk).2 hs⟩⟩
theorem RefIs.grown {w w' : World} {base rb lim : Nat} {S : List Ser} {R : Nat → Prop} {a : Option Addr} {c : Nat} {raw : List (Sv × Sv)} (h : RefIs w base rb lim S R a c raw) (hg : w.grownBy w' none) : RefIs w' base rb lim S R a c raw := h.stay hg.size (fun k hk _ => hg.block k hk (by simp))
theorem RefAt.grown {w w' : World} {base rb lim : Nat} {S : List Ser} {R : Nat → Prop} (h : RefAt w base rb lim S R) (hg : w.grownBy w' none) : RefAt w' base rb lim S R := by
  obtain ⟨a, c, raw, h⟩ := h
  exact ⟨a, c, raw, h.grown hg⟩
theorem RefAt.kept {w w' : World} {base rb lim : Nat} {S : List Ser} {R B : Nat → Prop} (h : RefAt w base rb lim S R) (hk : Kept w w' B) (hd : ∀ k, R k → ¬ B k) : RefAt w' base rb lim S R := by
  obtain ⟨a, c, raw, h⟩ := h
  exact ⟨a, c, raw, h.stay hk.size (fun k hlt hR => hk.block k hlt (hd k hR))⟩
theorem RefIs.cells {w : World} {base rb lim : Nat} {S : List Ser} {R : Nat → Prop} {a : Option Addr} {c : Nat} {raw : List (Sv × Sv)} (h : RefIs w base rb lim S R a c raw) : w.cell? ⟨rb, 0, none⟩ = some (.int .i64 lim) ∧ w.cell? ⟨rb, 1, none⟩ = some (.slice a S.length c) := ⟨h.row.cell (i := 0) (by omega), h.row.cell (i := 1) (by omega)⟩
set_option maxHeartbeats 1000000 in
theorem r_new (base : Nat) (x : Int) (w : World) (hb : base ≤ w.heap.size) : Calls Tryz.prog 9 #[.int .i64 x] w fun e w' => ∃ R, e = .returned (.pointer (some ⟨w.heap.size, 0, none⟩)) ∧ RefAt w' base w.heap.size (limR x) [] R ∧ w.grownBy w' none ∧ ∀ k, R k → w.heap.size ≤ k := by
  have hl : min (max x 0) 1024 = (limR x : Int) := by unfold limR; omega
  have HF : Hid (∀ lim : Nat, RefAt (w.alloc (.cells #[.int .i64 lim, .slice none 0 0] 39)) base w.heap.size lim [] (fun k => k = w.heap.size)) := fun lim => by
    refine ⟨none, 0, [], ?_, SerR.nil _ _, rfl, fun k hk => ?_⟩
    · refine ⟨_, heap_alloc_new w _, rfl, fun i hi => ?_⟩
      match i, hi with
      | 0, _ => rfl
      | 1, _ => rfl
    · subst hk
      exact ⟨hb, by rw [show (w.alloc (.cells #[.int .i64 lim, .slice none 0 0] 39)).heap.size = w.heap.size + 1 from Array.size_push _]; omega⟩
  have HG : Hid (∀ lim : Nat, w.grownBy (w.alloc (.cells #[.int .i64 lim, .slice none 0 0] 39)) none) := fun lim => World.grownBy_alloc w _ none
  generalize limR x = lim at hl ⊢
  clear hb
  go_enter Tryz.func9, Tryz.ntmps9
  go_wp2
  go_ret
  exact ⟨fun k => k = w.heap.size, rfl, HF.out lim, HG.out lim, fun k hk => by subst hk; exact Nat.le_refl _⟩
theorem place_ins {S : List Ser} (h : Sets (S.map (·.1))) (ls : List Lab) : ∀ (i : Nat) (s : Ser), S[i]? = some s → (cmpR s.1 ls < 0 ↔ i < insAt (S.map (·.1)) ls) := fun i s hs => by
  have := place_countP (fun s => decide (cmpR s ls < 0)) (S.map (·.1)) (fun i j hij a b ha hb hc => by simp at hc ⊢; exact sets_mono h ls i j hij a b ha hb hc) i s.1 (by rw [List.getElem?_map, hs]; rfl)
  unfold insAt
  simpa using this
theorem ins_le (S : List Ser) (ls : List Lab) : insAt (S.map (·.1)) ls ≤ S.length := by
  have := List.countP_le_length (p := fun s => decide (cmpR s ls < 0)) (l := S.map (·.1))
  unfold insAt
  simpa using this
/-- Where a set that is there stands. -/
theorem at_ins {S : List Ser} (h : Sets (S.map (·.1))) (ls : List Lab) : (ls ∈ S.map (·.1)) ↔ ∃ s, S[insAt (S.map (·.1)) ls]? = some s ∧ s.1 = ls := by
  constructor
  · intro hm
    obtain ⟨s, hs, rfl⟩ := List.mem_map.1 hm
    obtain ⟨i, hi⟩ := List.getElem?_of_mem hs
    have h1 := place_ins h s.1 i s hi
    have h0 : cmpR s.1 s.1 = 0 := (cmp_zero _ _).2 rfl
    by_cases e : insAt (S.map (·.1)) s.1 = i
    · rw [e]; exact ⟨s, hi, rfl⟩
    · exfalso
      have hlt : insAt (S.map (·.1)) s.1 < i := by
        have : ¬ i < insAt (S.map (·.1)) s.1 := fun h => by have := h1.2 h; omega
        omega
      obtain ⟨t, ht⟩ : ∃ t, S[insAt (S.map (·.1)) s.1]? = some t := ⟨_, List.getElem?_eq_getElem (by have := (List.getElem?_eq_some_iff.1 hi).1; omega)⟩
      have h2 := place_ins h s.1 _ t ht
      have h3 : cmpR t.1 s.1 < 0 := by
        have ha : (S.map (·.1))[insAt (S.map (·.1)) s.1]? = some t.1 := by rw [List.getElem?_map, ht]; rfl
        have hb : (S.map (·.1))[i]? = some s.1 := by rw [List.getElem?_map, hi]; rfl
        obtain ⟨p1, e1⟩ := List.getElem?_eq_some_iff.1 ha
        obtain ⟨p2, e2⟩ := List.getElem?_eq_some_iff.1 hb
        have := List.pairwise_iff_getElem.1 h _ _ p1 p2 hlt
        rwa [e1, e2] at this
      have := h2.1 h3
      omega
  · rintro ⟨s, hs, rfl⟩
    exact List.mem_map.2 ⟨s, List.mem_of_getElem? hs, rfl⟩
theorem find_isSome (S : List Ser) (ls : List Lab) : (findR S ls).isSome = true ↔ ls ∈ S.map (·.1) := by
  have h := find_none (S := S) (ls := ls)
  cases hf : findR S ls with
  | none => simp only [Option.isSome_none, Bool.false_eq_true, false_iff]; exact h.1 hf
  | some p => simp only [Option.isSome_some, true_iff]; exact List.mem_map.2 ⟨_, find_some hf, rfl⟩
set_option maxHeartbeats 2000000 in
theorem r_find (base rb lim : Nat) (S : List Ser) (R : Nat → Prop) (la : Option Addr) (ls : List Lab) (L lc : Nat) (w : World) (h : RefAt w base rb lim S R) (hS : Sets (S.map (·.1))) (hz : S.length ≤ 1024) (hlz : ∀ s ∈ S, s.1.length ≤ 4398046511104) (hr : SRd labE w la ls) (hL : ls.length = L) (hLz : L ≤ 4398046511104) :
    Calls Tryz.prog 51 #[.pointer (some ⟨rb, 0, none⟩), .slice la L lc] w fun e w' => e = .returned (.tuple #[.int .i64 (insAt (S.map (·.1)) ls), .bool (findR S ls).isSome]) ∧ w.grownBy w' none := by
  obtain ⟨a, c, raw, h⟩ := h
  have HI : Hid (RefIs w base rb lim S R a c raw) := h
  have HS : Hid (Sets (S.map (·.1))) := hS
  have HLZ : Hid (∀ s ∈ S, s.1.length ≤ 4398046511104) := hlz
  have HRL : Hid (SRd labE w la ls) := hr
  have HL : Hid (ls.length = L) := hL
  have HPL : Hid (∀ (i : Nat) (s : Ser), S[i]? = some s → (cmpR s.1 ls < 0 ↔ i < insAt (S.map (·.1)) ls)) := place_ins hS ls
  have HAT : Hid ((ls ∈ S.map (·.1)) ↔ ∃ s, S[insAt (S.map (·.1)) ls]? = some s ∧ s.1 = ls) := at_ins hS ls
  have hIle := ins_le S ls
  have HG0 : Hid (w.grownBy w none) := World.grownBy.refl _ _
  have e1 := h.cells.2
  obtain ⟨M, eM⟩ : ∃ M, M = S.length := ⟨_, rfl⟩
  have EM : Hid (M = S.length) := eM
  rw [← eM] at hz hIle e1
  generalize insAt (S.map (·.1)) ls = I at HPL HAT hIle ⊢
  obtain ⟨F, eF⟩ : ∃ F, F = (findR S ls).isSome := ⟨_, rfl⟩
  have EF : Hid (F = true ↔ ls ∈ S.map (·.1)) := by rw [eF]; exact find_isSome S ls
  rw [← eF]
  clear h hS hlz hr hL eM eF
  go_enter Tryz.func51, Tryz.ntmps51
  go_wp2
  go_loopw [6] (fun i wr => ∃ k : Nat, k ≤ I ∧ i = .int .i64 k ∧ w.grownBy wr none) (fun i _ => I - (intOf i).toNat)
  case atStart => exact ⟨0, Nat.zero_le _, rfl, HG0.out⟩
  case round =>
    obtain ⟨k, hk, rfl, hg⟩ := hrel
    have HG : Hid (w.grownBy wr none) := hg
    have f1 := hg.cell e1 (by simp)
    clear hg
    by_cases hlt : k < M
    · have hi : (k : Int) < (M : Int) := by omega
      obtain ⟨⟨l2, p2⟩, hs⟩ : ∃ s, S[k]? = some s := ⟨_, List.getElem?_eq_getElem (by have := EM.out; omega)⟩
      obtain ⟨b, off, la2, lc2, pa, pc, rfl, b0, _, rl2, _⟩ := ser_cells (HI.out.ser.rd.grown HG.out) hs
      have hz2 := HLZ.out _ (List.mem_of_getElem? hs)
      simp only at b0 rl2 hz2
      have hpl := HPL.out k _ hs
      simp only at hpl
      have HC : Hid (∀ w1, wr.grownBy w1 none → Calls Tryz.prog 17 #[.slice la2 l2.length lc2, .slice la L lc] w1 fun e w' => e = .returned (.int .i64 (cmpR l2 ls)) ∧ w1.grownBy w' none) := fun w1 hg1 => by
        refine (r_compareQ la2 la l2 ls _ _ lc2 lc _ w1 (rl2.grown hg1 (by simp)) (HRL.out.grown (HG.out.trans hg1) (by simp)) rfl HL.out (by omega) hLz rfl).mono ?_
        rintro e w' ⟨rfl, n, rfl⟩
        exact ⟨rfl, gb_drewN _ n⟩
      have HCZ : Hid (cmpR l2 ls = 0 ↔ l2 = ls) := cmp_zero l2 ls
      have EK : Hid (S[k]? = some (l2, p2)) := hs
      generalize cmpR l2 ls = r at HC hpl HCZ
      generalize l2.length = n2 at HC b0
      have HGR : Hid (wr.grownBy wr none) := World.grownBy.refl _ _
      clear hs rl2 hz2
      by_cases hneg : r < 0
      · have hkI : k < I := hpl.1 hneg
        clear hpl
        go_wp2_with fail
        refine (HC.out wr HGR.out).mono ?_
        rintro e w2 ⟨rfl, hg2⟩
        have HG2 : Hid (w.grownBy w2 none) := HG.out.trans hg2
        clear hg2
        go_wp2
        go_roundw
        case rel => exact ⟨k + 1, by omega, by go_num, HG2.out⟩
        case measure => simp [intOf]; omega
      · have hkI : k = I := by
          have : ¬ k < I := fun e => hneg (hpl.2 e)
          omega
        subst hkI
        clear hpl
        go_wp2_with fail
        refine (HC.out wr HGR.out).mono ?_
        rintro e w2 ⟨rfl, hg2⟩
        have HG2 : Hid (wr.grownBy w2 none) := hg2
        have f2 := hg2.cell f1 (by simp)
        have d0 := hg2.cell b0 (by simp)
        clear hg2
        have HFF : Hid (F = (r == 0)) := by
          show _ = _
          rw [Bool.eq_iff_iff, EF.out, HAT.out, beq_iff_eq, HCZ.out]
          constructor
          · rintro ⟨s, hs, e⟩
            rw [EK.out] at hs
            cases hs
            exact e
          · intro e
            exact ⟨_, EK.out, e⟩
        go_wp2_with fail
        refine (HC.out w2 HG2.out).mono ?_
        rintro e w3 ⟨rfl, hg3⟩
        have HG3 : Hid (w.grownBy w3 none) := (HG.out.trans HG2.out).trans hg3
        clear hg3
        go_wp2
        go_ret2
        exact ⟨by rw [HFF.out]; rfl, HG3.out⟩
    · obtain rfl : k = M := by omega
      obtain rfl : k = I := by omega
      have hi : ¬ (k : Int) < (k : Int) := by omega
      have HFF : Hid (F = false) := by
        show _ = _
        rw [← Bool.not_eq_true, EF.out, HAT.out]
        rintro ⟨s, hs, _⟩
        have := (List.getElem?_eq_some_iff.1 hs).1
        have := EM.out
        omega
      go_wp2
      go_ret2
      exact ⟨by rw [HFF.out]; rfl, HG.out⟩
/-- What is small enough. -/
def Fits (S : List Ser) : Prop := Good S ∧ S.length ≤ 1024 ∧ ∀ s ∈ S, s.2.length ≤ 8796093022206
theorem Fits.bet {S : List Ser} (h : Fits S) : BetOk S := ⟨h.2.1, fun s hs => by
  have hin := (check_iff s.1).1 (h.1.ok s hs)
  exact ⟨by have := hin.1; omega, h.2.2 s hs, fun p hp => by have := (ok_size (hin.2.1 p hp)).2.2; omega⟩⟩
theorem Fits.lab {S : List Ser} (h : Fits S) : ∀ s ∈ S, s.1.length ≤ 16 := fun s hs => ok_len (h.1.ok s hs)
set_option maxHeartbeats 2000000 in
theorem r_count (base rb lim : Nat) (S : List Ser) (R : Nat → Prop) (w : World) (h : RefAt w base rb lim S R) (hf : Fits S) :
    Calls Tryz.prog 33 #[.pointer (some ⟨rb, 0, none⟩)] w fun e w' => e = .returned (.tuple #[.int .i64 S.length, .int .i64 (ptsN S)]) ∧ w = w' := by
  obtain ⟨a, c, raw, h⟩ := h
  have HI : Hid (RefIs w base rb lim S R a c raw) := h
  have HB : Hid (∀ k, ptsN (S.take k) ≤ 9007199254739968) := fun k => by
    have a1 := ptsN_le (S := S.take k) (P := 8796093022206) (fun s hs => hf.2.2 s (List.mem_of_mem_take hs))
    have a2 : (S.take k).length * 8796093022206 ≤ 1024 * 8796093022206 := Nat.mul_le_mul (by rw [List.length_take]; have := hf.2.1; omega) (Nat.le_refl _)
    omega
  have HT : Hid (S.take S.length = S) := List.take_length
  have e1 := h.cells.2
  have hz := hf.2.1
  obtain ⟨M, eM⟩ : ∃ M, M = S.length := ⟨_, rfl⟩
  have EM : Hid (M = S.length) := eM
  rw [← eM] at hz e1 HT ⊢
  clear h hf eM
  go_enter Tryz.func33, Tryz.ntmps33
  go_wp2
  go_loopw [4, 5] (fun t i wr => ∃ k : Nat, k ≤ M ∧ i = .int .i64 k ∧ t = .int .i64 (ptsN (S.take k)) ∧ wr = w) (fun _ i _ => M - (intOf i).toNat)
  case atStart => exact ⟨0, Nat.zero_le _, rfl, by simp [ptsN], rfl⟩
  case round =>
    obtain ⟨k, hk, rfl, rfl, rfl⟩ := hrel
    by_cases hlt : k < M
    · have hi : (k : Int) < (M : Int) := by omega
      obtain ⟨s, hs⟩ : ∃ s, S[k]? = some s := ⟨_, List.getElem?_eq_getElem (by have := EM.out; omega)⟩
      obtain ⟨b, off, la, lc, pa, pc, rfl, c0, c1, _, _⟩ := ser_cells HI.out.ser.rd hs
      have hsum := ptsN_take hs
      have hb1 := HB.out (k + 1)
      have HSUM : Hid (ptsN (S.take (k + 1)) = ptsN (S.take k) + s.2.length) := hsum
      rw [hsum] at hb1
      generalize ptsN (S.take k) = q at hb1 HSUM ⊢
      generalize s.2.length = m at hb1 HSUM c1 ⊢
      clear hs hsum c0
      go_wp2
      go_roundw
      case rel => exact ⟨k + 1, by omega, by go_num, by rw [HSUM.out]; go_num, by trivial⟩
      case measure => simp [intOf]; omega
    · obtain rfl : k = M := by omega
      have hi : ¬ (k : Int) < (k : Int) := by omega
      rw [HT.out]
      go_wp2
      go_ret2
      exact ⟨rfl, rfl⟩
set_option maxHeartbeats 2000000 in
theorem r_span (base rb lim : Nat) (S : List Ser) (R : Nat → Prop) (w : World) (h : RefAt w base rb lim S R) (hf : Fits S) :
    Calls Tryz.prog 34 #[.pointer (some ⟨rb, 0, none⟩)] w fun e w' => e = .returned (.tuple #[.int .i64 (if S = [] then 0 else loS S), .int .i64 (if S = [] then 0 else hiS S), .bool (decide (S ≠ []))]) ∧ w = w' := by
  obtain ⟨a, c, raw, h⟩ := h
  have e1 := h.cells.2
  by_cases hS0 : S = []
  · have hes : S.length = 0 := by rw [hS0]; rfl
    simp only [hS0, if_true, ne_eq, not_true_eq_false, decide_false]
    rw [hes] at e1
    clear h hf hS0 hes
    go_enter Tryz.func34, Tryz.ntmps34
    go_wp2
    go_ret3
    exact ⟨rfl, rfl⟩
  · have hpos : 0 < S.length := List.length_pos_iff.2 hS0
    simp only [hS0, if_false, ne_eq, not_false_eq_true, decide_true]
    have HI : Hid (RefIs w base rb lim S R a c raw) := h
    have HF : Hid (Fits S) := hf
    have HT : Hid (S.take S.length = S) := List.take_length
    have hz := hf.2.1
    obtain ⟨M, eM⟩ : ∃ M, M = S.length := ⟨_, rfl⟩
    have EM : Hid (M = S.length) := eM
    rw [← eM] at hz e1 HT hpos
    have q0 : ((M : Int) == 0) = false := by simp; omega
    clear h hf eM hS0
    go_enter Tryz.func34, Tryz.ntmps34
    go_wp2
    go_loopw [5, 6, 7] (fun lo hi i wr => ∃ k : Nat, k ≤ M ∧ i = .int .i64 k ∧ lo = .int .i64 (loS (S.take k)) ∧ hi = .int .i64 (hiS (S.take k)) ∧ wr = w) (fun _ _ i _ => M - (intOf i).toNat)
    case atStart => exact ⟨0, Nat.zero_le _, rfl, rfl, rfl, rfl⟩
    case round =>
      obtain ⟨k, hk, rfl, rfl, rfl, rfl⟩ := hrel
      by_cases hlt : k < M
      · have hi : (k : Int) < (M : Int) := by omega
        obtain ⟨⟨ls, ps⟩, hs⟩ : ∃ s, S[k]? = some s := ⟨_, List.getElem?_eq_getElem (by have := EM.out; omega)⟩
        obtain ⟨b, off, la, lc, pa, pc, rfl, c0, c1, _, rp⟩ := ser_cells HI.out.ser.rd hs
        have hne := HF.out.1.some _ (List.mem_of_getElem? hs)
        have hle := HF.out.2.2 _ (List.mem_of_getElem? hs)
        have HLO : Hid (loS (S.take (k + 1)) = min (loS (S.take k)) (ps.headD (0, 0)).1) := loS_take hs
        have HHI : Hid (hiS (S.take (k + 1)) = max (hiS (S.take k)) (ps.getLastD (0, 0)).1) := hiS_take hs
        simp only at c0 c1 rp hne hle
        obtain ⟨m, hm⟩ : ∃ m, ps.length = m + 1 := ⟨ps.length - 1, by have := List.length_pos_iff.2 hne; omega⟩
        obtain ⟨b2, off2, rfl, k0, _⟩ := pnt_cells (k := 0) (t := (ps.headD (0, 0)).1) (v := (ps.headD (0, 0)).2) rp (by cases ps with | nil => exact absurd rfl hne | cons x r => rfl)
        obtain ⟨b3, off3, ea, k1, _⟩ := pnt_cells (k := m) (t := (ps.getLastD (0, 0)).1) (v := (ps.getLastD (0, 0)).2) rp (by
          have h1 : ps.getLast? = ps[ps.length - 1]? := List.getLast?_eq_getElem? ..
          rw [hm, Nat.add_sub_cancel] at h1
          rw [← h1, List.getLastD_eq_getLast?]
          cases hq : ps.getLast? with
          | none => rw [List.getLast?_eq_none_iff] at hq; exact absurd hq hne
          | some x => rfl)
        cases ea
        rw [hm] at c1 hle
        simp only [Nat.zero_mul, Nat.add_zero] at k0
        generalize loS (S.take k) = lo at HLO ⊢
        generalize hiS (S.take k) = hi2 at HHI ⊢
        generalize (ps.headD (0, 0)).1 = t0 at k0 HLO
        generalize (ps.getLastD (0, 0)).1 = t1 at k1 HHI
        clear hs rp hne hm c0
        go_wp2
        all_goals (
          go_roundw
          case rel => exact ⟨k + 1, by omega, by go_num, by rw [HLO.out], by rw [HHI.out], by trivial⟩
          case measure => simp [intOf]; omega)
      · obtain rfl : k = M := by omega
        have hi : ¬ (k : Int) < (k : Int) := by omega
        rw [HT.out]
        go_wp2
        go_ret3
        exact ⟨rfl, rfl⟩
end Go.Proofs.YtpabbmiibehfjaaGreatDoor

/- The document's head: Select, Cut. -/
namespace Go.Proofs.YtpabbmiibehfjaaGreatDoor
open Go.RowKit Go.Maps
set_option linter.unusedVariables false
set_option maxRecDepth 20000

theorem SerR.bound {w : World} {X : Nat → Prop} {v : Value} {S : List Ser} {raw : List (Sv × Sv)} (h : SerR w X v S raw) : SerR w (fun k => X k ∧ k < w.heap.size) v S raw :=
  ⟨h.own, fun k hk => ⟨h.mem k hk, (SOwn.block h.own k hk).2⟩, fun i r s hr hs => by
    have k := h.ser i r s hr hs
    exact ⟨k.ln, k.pn, k.lab, k.pts, fun x hx => ⟨k.lx x hx, (SOwn.block k.lab x.block (by rw [hx]; rfl)).2⟩, fun x hx => ⟨k.px x hx, (SOwn.block k.pts x.block (by rw [hx]; rfl)).2⟩⟩, h.apart⟩
theorem sel_nil (f t : Int) (S : List Ser) : selS (Mt.saysR []) f t S = keepS (within f t) S := by
  unfold selS
  congr 1
  exact List.filter_eq_self.2 (fun s _ => rfl)
theorem r_select (base rb lim : Nat) (S : List Ser) (R : Nat → Prop) (ma : Option Addr) (ms : List Mt.Mat) (mn mc : Nat) (f t : Int) (w : World) (h : RefAt w base rb lim S R) (hf : Fits S) (hm : SRd Mt.matE w ma ms) (hmn : ms.length = mn) (hml : mn ≤ 3518437208882) (hmv : ∀ m ∈ ms, m.2.2.size ≤ 140737488356000) :
    Calls Tryz.prog 30 #[.pointer (some ⟨rb, 0, none⟩), .slice ma mn mc, .int .i64 f, .int .i64 t] w fun e w' => ∃ v, e = .returned v ∧ (∃ raw', SerR w' (fun k => w.heap.size ≤ k) v (selS (Mt.saysR ms) f t S) raw') ∧ w.grownBy w' none := by
  obtain ⟨a, c, raw, h⟩ := h
  have e1 := h.cells.2
  have HB : Hid (Calls Tryz.prog 55 #[.slice a S.length c, .slice ma mn mc, .int .i64 f, .int .i64 t] w fun e w' => ∃ v, e = .returned v ∧ (∃ raw', SerR w' (fun k => w.heap.size ≤ k) v (selS (Mt.saysR ms) f t S) raw') ∧ w.grownBy w' none) := by
    rw [← hmn]
    exact r_between a raw S c ma ms mc f t w h.ser.rd h.ser.nils hf.bet hm (by omega) hmv
  generalize S.length = M at e1 HB
  clear h hf hm hmv
  go_enter Tryz.func30, Tryz.ntmps30
  go_wp2_with fail
  refine HB.out.mono ?_
  rintro e w1 ⟨v, rfl, ho, hg⟩
  have HO : Hid (∃ raw', SerR w1 (fun k => w.heap.size ≤ k) v (selS (Mt.saysR ms) f t S) raw') := ho
  have HG : Hid (w.grownBy w1 none) := hg
  clear ho hg
  go_wp2
  go_ret
  exact ⟨_, rfl, HO.out, HG.out⟩
def RCutOut (w : World) (base rb lim : Nat) (S : List Ser) (R : Nat → Prop) (b : Int) (e : Ending) (w' : World) : Prop :=
  ∃ v X R', e = .returned v ∧ SerOut w' X v (keepS (lowT b) S) ∧ RefAt w' base rb lim (keepS (highT b) S) R' ∧ Step w w' R R' ∧ ∀ k, X k → w.heap.size ≤ k ∧ ¬ R' k
set_option maxHeartbeats 2000000 in
theorem r_cut (base rb lim : Nat) (S : List Ser) (R : Nat → Prop) (b : Int) (w : World) (h : RefAt w base rb lim S R) (hf : Fits S) (hb2 : b ≤ 9223372036854775807) :
    Calls Tryz.prog 32 #[.pointer (some ⟨rb, 0, none⟩), .int .i64 b] w (RCutOut w base rb lim S R b) := by
  have HH : Hid (RefAt w base rb lim S R) := h
  obtain ⟨a, c, raw, h⟩ := h
  by_cases hb : b ≤ -1099511627776
  · have HL : Hid (keepS (lowT b) S = []) := good_low0 hf.1 hb
    have HU : Hid (keepS (highT b) S = S) := good_high0 hf.1 hb
    clear h hf
    go_enter Tryz.func32, Tryz.ntmps32
    go_wp2
    go_ret
    refine ⟨_, fun _ => False, R, rfl, ?_, ?_, Step.grown R (World.grownBy.refl _ _), fun k hk => hk.elim⟩
    · rw [HL.out]; exact SerOut.nil _ _
    · rw [HU.out]; exact HH.out
  · have e1 := h.cells.2
    have HI : Hid (RefIs w base rb lim S R a c raw) := h
    have hwr : IntKind.i64.wrap (b - 1) = b - 1 := wrap_sub b (by omega) hb2
    have HB1 : Hid (Calls Tryz.prog 55 #[.slice a S.length c, .slice none 0 0, .int .i64 (-1099511627776), .int .i64 (b - 1)] w fun e w' => ∃ v, e = .returned v ∧ (∃ raw', SerR w' (fun k => w.heap.size ≤ k) v (keepS (lowT b) S) raw') ∧ w.grownBy w' none) := by
      have h6 := r_between a raw S c none [] 0 (-1099511627776) (b - 1) w h.ser.rd h.ser.nils hf.bet (SRd.nil _ _) (by simp) (by simp)
      rw [sel_nil, good_below hf.1 b] at h6
      exact h6
    have HB2 : Hid (∀ w1, w.grownBy w1 none → Calls Tryz.prog 55 #[.slice a S.length c, .slice none 0 0, .int .i64 b, .int .i64 1099511627776] w1 fun e w' => ∃ v, e = .returned v ∧ (∃ raw', SerR w' (fun k => w1.heap.size ≤ k) v (keepS (highT b) S) raw') ∧ w1.grownBy w' none) := fun w1 hg => by
      have h6 := r_between a raw S c none [] 0 b 1099511627776 w1 (h.ser.rd.grown hg) h.ser.nils hf.bet (SRd.nil _ _) (by simp) (by simp)
      rw [sel_nil, good_above hf.1 b] at h6
      exact h6
    generalize S.length = M at e1 HB1 HB2
    clear h hf hb2
    go_enter Tryz.func32, Tryz.ntmps32
    go_wp2_with fail
    try rw [hwr]
    refine HB1.out.mono ?_
    rintro e w1 ⟨v1, rfl, ⟨r1, ho1⟩, hg1⟩
    have HO1 : Hid (SerR w1 (fun k => w.heap.size ≤ k) v1 (keepS (lowT b) S) r1) := ho1
    have HG1 : Hid (w.grownBy w1 none) := hg1
    have f1 := hg1.cell e1 (by simp)
    clear ho1 hg1 HB1 hwr
    go_wp2_with fail
    refine (HB2.out w1 HG1.out).mono ?_
    rintro e w2 ⟨v2, rfl, ⟨r2, ho2⟩, hg2⟩
    obtain ⟨a2, c2, rfl⟩ := sown_slice ho2.own
    have HO2 : Hid (SerR w2 (fun k => w1.heap.size ≤ k) (.slice a2 (keepS (highT b) S).length c2) (keepS (highT b) S) r2) := ho2
    have HG2 : Hid (w1.grownBy w2 none) := hg2
    have HI2 : Hid (RefIs w2 base rb lim S R a c raw) := HI.out.grown (HG1.out.trans hg2)
    have g1 := hg2.cell f1 (by simp)
    have fz := HI2.out.row.frozen 1
    clear ho2 hg2 HB2 HI
    generalize hQ : (keepS (highT b) S).length = QL at HO2 ⊢
    have HQ : Hid ((keepS (highT b) S).length = QL) := hQ
    clear hQ
    go_wp2
    go_ret
    have hgs : w2.grownBy (w2.setCell ⟨rb, 1, none⟩ (.slice a2 QL c2)) (some rb) := gb_set rfl
    have hgw := HG1.out.trans HG2.out
    have hTr := rowIs_typed HI2.out.row
    have hne : ∀ {t : TypeId} {k : Nat}, Typed w2 k t → t ≠ 39 → some k ≠ some rb := fun hk ht e => Typed.ne hk hTr ht (Option.some.inj e)
    have hrow := HI2.out.row.set 1 (.slice a2 QL c2)
    have hrlt : rb < w.heap.size := by
      have := HH.out
      obtain ⟨_, _, _, h7⟩ := this
      exact h7.row.lt
    have hst : ∀ {t : TypeId} {k : Nat}, Typed w2 k t → t ≠ 39 → (w2.setCell ⟨rb, 1, none⟩ (.slice a2 QL c2)).heap[k]? = w2.heap[k]? := fun hk ht => hgs.block _ (typed_lt hk) (hne hk ht)
    refine ⟨v1, fun k => w.heap.size ≤ k ∧ k < w1.heap.size, fun k => k = rb ∨ (w1.heap.size ≤ k ∧ k < w2.heap.size), rfl, ?_, ⟨a2, c2, r2, ?_, ?_, .inl rfl, fun k hk => ?_⟩, ⟨?_, fun k hk hR => ?_⟩, fun k hk => ⟨hk.1, fun hR => ?_⟩⟩
    · refine (HO1.out.bound.grown HG2.out).out.stay (fun k hk hX => hgs.block k hk (fun e => ?_)) (fun k hk => hk)
      have := Option.some.inj e
      omega
    · rw [HQ.out]
      refine hrow.congr (fun i hi => ?_)
      match i, hi with
      | 0, _ => rfl
      | 1, _ => rfl
    · rw [HQ.out]
      refine (HO2.out.bound).stay (fun k hk hX => hgs.block k hk (fun e => ?_)) (fun k hk => .inr hk)
      have := Option.some.inj e
      have := HG1.out.size
      omega
    · have hsz : (w2.setCell ⟨rb, 1, none⟩ (.slice a2 QL c2)).heap.size = w2.heap.size := by simp [World.setCell]
      rw [hsz]
      rcases hk with rfl | hk
      · exact HI2.out.lt _ HI2.out.rb
      · have h8 := (HI2.out.lt _ HI2.out.rb).1
        have := HG1.out.size
        omega
    · exact (Kept.of (X := R) hgw (by simp)).trans (Kept.of (X := R) hgs (fun k hk => by cases hk; exact HI2.out.rb)) (fun k _ hk => hk)
    · rcases hR with rfl | hR
      · exact HI2.out.rb
      · have := HG1.out.size
        omega
    · rcases hR with rfl | hR
      · omega
      · omega
end Go.Proofs.YtpabbmiibehfjaaGreatDoor

