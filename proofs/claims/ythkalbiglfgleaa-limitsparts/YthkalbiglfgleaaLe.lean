/- Samples; Check: the program's and the document's. -/
import Derived.Test.YthkalbiglfgleaaLd
namespace Go.Proofs.Ythkalbiglfgleaa
set_option maxRecDepth 20000
open Go.RowKit
set_option linter.unusedVariables false

abbrev Sv := Option Addr × Nat × Nat
def svV (q : Sv) : Value := .slice q.1 q.2.1 q.2.2
abbrev Smp := List Lab × Int × Int
def smpE : Elem (Sv × Int × Int) where
  cells q := [svV q.1, .int .i64 q.2.1, .int .u64 q.2.2]
  size := 3
  pos := by decide
  len _ := rfl
  one q v h := by
    simp only [List.mem_cons, List.mem_nil_iff, or_false] at h
    rcases h with rfl | rfl | rfl <;> rfl
/-- A sample as it lies, and what it is. -/
def OneIs (w : World) (r : Sv × Int × Int) (s : Smp) : Prop := r.1.2.1 = s.1.length ∧ SRd labE w r.1.1 s.1 ∧ (r.1.1 = none → r.1.2.2 = 0) ∧ s.1.length ≤ 4398046511000 ∧ r.2 = s.2
theorem OneIs.grown {w w' : World} {r : Sv × Int × Int} {s : Smp} (h : OneIs w r s) (hg : w.grownBy w' none) : OneIs w' r s := ⟨h.1, h.2.1.grown hg (by simp), h.2.2⟩
/-- Samples that can be read. -/
structure SmpRd (w : World) (a : Option Addr) (raw : List (Sv × Int × Int)) (Q : List Smp) : Prop where
  rd : SRd smpE w a raw
  len : raw.length = Q.length
  smp : ∀ (i : Nat) (r : Sv × Int × Int) (s : Smp), raw[i]? = some r → Q[i]? = some s → OneIs w r s
theorem SmpRd.grown {w w' : World} {a : Option Addr} {raw : List (Sv × Int × Int)} {Q : List Smp} (h : SmpRd w a raw Q) (hg : w.grownBy w' none) : SmpRd w' a raw Q :=
  ⟨h.rd.grown hg (by simp), h.len, fun i r s hr hs => (h.smp i r s hr hs).grown hg⟩
theorem smp_cells {w : World} {a : Option Addr} {raw : List (Sv × Int × Int)} {Q : List Smp} (h : SmpRd w a raw Q) {k : Nat} {ls : List Lab} {T V : Int} (hs : Q[k]? = some (ls, T, V)) :
    ∃ b off la lc, a = some ⟨b, off, none⟩ ∧ w.cell? ⟨b, off + k * 3, none⟩ = some (.slice la ls.length lc) ∧ w.cell? ⟨b, off + k * 3 + 1, none⟩ = some (.int .i64 T) ∧ w.cell? ⟨b, off + k * 3 + 2, none⟩ = some (.int .u64 V) ∧ SRd labE w la ls ∧ (la = none → lc = 0) ∧ ls.length ≤ 4398046511000 := by
  have hk : k < raw.length := by rw [h.len]; exact (List.getElem?_eq_some_iff.1 hs).1
  obtain ⟨⟨⟨la, ln, lc⟩, T', V'⟩, hr⟩ : ∃ r, raw[k]? = some r := ⟨_, List.getElem?_eq_getElem hk⟩
  obtain ⟨b, off, rfl, hc⟩ := h.rd.at (by omega)
  obtain ⟨h1, h2, h3, h4, h5⟩ := h.smp k _ _ hr hs
  simp only at h1 h2 h3 h4 h5
  cases h5
  subst h1
  exact ⟨b, off, la, lc, rfl, hc k _ 0 _ hr rfl, by rw [Nat.add_assoc]; exact hc k _ 1 _ hr rfl, by rw [Nat.add_assoc]; exact hc k _ 2 _ hr rfl, h2, h3, h4⟩

def firstW (m : Int) : List Smp → Nat → Int × Int
  | [], _ => (0, 0)
  | q :: r, k => if wrongR m q.1 q.2.1 ≠ 0 then ((k : Int), wrongR m q.1 q.2.1) else firstW m r (k + 1)
def checkL (s : ByteArray) (Q : List Smp) (m P : Int) : Int × Int := if tenR s = false then (0, 150) else if Q.length < 1 ∨ min P 256 < (Q.length : Int) then (0, 151) else firstW m Q 0
def FwAt (m : Int) (Q : List Smp) (k : Nat) (R : Int × Int) : Prop := firstW m (Q.drop k) k = R
theorem FwAt.next {m : Int} {Q : List Smp} {k : Nat} {R : Int × Int} {q : Smp} (h : FwAt m Q k R) (hq : Q[k]? = some q) : (if wrongR m q.1 q.2.1 ≠ 0 then ((k : Int), wrongR m q.1 q.2.1) else firstW m (Q.drop (k + 1)) (k + 1)) = R := by
  unfold FwAt at h
  obtain ⟨h1, h2⟩ := List.getElem?_eq_some_iff.1 hq
  rw [List.drop_eq_getElem_cons h1, h2, firstW] at h
  exact h
theorem FwAt.done {m : Int} {Q : List Smp} {k : Nat} {R : Int × Int} (h : FwAt m Q k R) (hk : Q.length ≤ k) : ((0 : Int), (0 : Int)) = R := by
  unfold FwAt at h
  rw [List.drop_eq_nil_of_le hk, firstW] at h
  exact h
theorem ret_two {a b c d : Int} (h : (a, b) = (c, d)) : Ending.returned (.tuple #[.int .i64 a, .int .i64 b]) = .returned (.tuple #[.int .i64 c, .int .i64 d]) := by cases h; rfl

set_option maxHeartbeats 1000000 in
theorem f_checkGo (s : ByteArray) (a : Option Addr) (raw : List (Sv × Int × Int)) (Q : List Smp) (L c : Nat) (S m P A C : Int) (H : Bool) (w : World) (hq : SmpRd w a raw Q) (hL : Q.length = L) (hz : L ≤ 3518437208882)
    (ht : tenR s = true) (h1 : 1 ≤ L) (h2 : (L : Int) ≤ P) (h3 : L ≤ 256) (hR : firstW m Q 0 = (A, C)) :
    Calls Try.prog 8 #[.string s, .slice a L c, limV S m P H] w fun e w' => e = .returned (.tuple #[.int .i64 A, .int .i64 C]) ∧ w.grownBy w' none := by
  have HT : Hid (∀ w, Calls Try.prog 10 #[.string s] w fun e w' => e = .returned (.bool true) ∧ w = w') := fun w => ht ▸ f_tenant s w
  obtain ⟨W, hW⟩ : ∃ W, W = w.alloc (.cells #[.int .i64 S, .int .i64 m, .int .i64 P, .bool H] 24) := ⟨_, rfl⟩
  have HG : Hid (w.grownBy W none) := hW ▸ World.grownBy_alloc w _ none
  have HB : Hid (W.cell? ⟨w.heap.size, 0, none⟩ = some (.int .i64 S) ∧ W.cell? ⟨w.heap.size, 1, none⟩ = some (.int .i64 m) ∧ W.cell? ⟨w.heap.size, 2, none⟩ = some (.int .i64 P) ∧ W.cell? ⟨w.heap.size, 3, none⟩ = some (.bool H)) := by
    rw [hW]
    refine ⟨?_, ?_, ?_, ?_⟩
    · rw [cell_of_row _ w.heap.size 0 _ _ _ (heap_alloc_new w _)]; rfl
    · rw [cell_of_row _ w.heap.size 1 _ _ _ (heap_alloc_new w _)]; rfl
    · rw [cell_of_row _ w.heap.size 2 _ _ _ (heap_alloc_new w _)]; rfl
    · rw [cell_of_row _ w.heap.size 3 _ _ _ (heap_alloc_new w _)]; rfl
  have HQ : Hid (SmpRd W a raw Q) := hq.grown HG.out
  have HL : Hid (Q.length = L) := hL
  have H0 : Hid (FwAt m Q 0 (A, C)) := hR
  have HW : Hid (w.alloc (.cells #[.int .i64 S, .int .i64 m, .int .i64 P, .bool H] 24) = W) := hW.symm
  have HQn : Hid (∀ w1, Calls Try.prog 18 #[limV S m P H] w1 fun e w' => ∃ g, e = .returned (.slice (some ⟨g, 0, none⟩) 2 2) ∧ Asked w' g m ∧ w1.grownBy w' none) := g_questions S m P H
  have q1 : decide ((L : Int) < 1) = false := by simp; omega
  clear hq hL hR hW ht
  by_cases hP : 256 < P
  case' pos => have q3 : decide ((256 : Int) < (L : Int)) = false := by simp; omega
  case' neg => have q3 : decide (P < (L : Int)) = false := by simp; omega
  all_goals
    go_enter Try.func8, Try.ntmps8
    go_upto_region 1 with fail
    rw [HW.out]
    obtain ⟨d0, d1, d2, d3⟩ := HB.out
    go_wp2_with (first | (go_at_call 10; refine (HT.out _).mono ?_; rintro e w1 ⟨rfl, rfl⟩) | fail)
    refine (HQn.out _).mono ?_
    rintro e w1 ⟨g, rfl, ha, hg1⟩
    have H1 : Hid (W.grownBy w1 none) := hg1
    have HA : Hid (Asked w1 g m) := ha
    clear ha hg1 d0 d1 d2 d3 q3 h2
    go_wp2
    go_loopw [30] (fun i wr => ∃ k : Nat, k ≤ L ∧ i = .int .i64 k ∧ w1.grownBy wr none ∧ FwAt m Q k (A, C)) (fun i _ => L - (intOf i).toNat)
    case atStart => exact ⟨0, Nat.zero_le _, rfl, World.grownBy.refl _ _, H0.out⟩
    case round =>
      obtain ⟨k, hk, rfl, hg, hc⟩ := hrel
      have HGr : Hid (w1.grownBy wr none) := hg
      have HC : Hid (FwAt m Q k (A, C)) := hc
      clear hg hc H0
      by_cases hlt : k < L
      · have hl := HL.out
        obtain ⟨⟨ls, T, V⟩, ex⟩ : ∃ x, Q[k]? = some x := ⟨_, List.getElem?_eq_getElem (by omega)⟩
        obtain ⟨b, off, la, lc, rfl, a0, a1, a2, hsr, _, hll⟩ := smp_cells ((HQ.out.grown H1.out).grown HGr.out) ex
        have HN : Hid (_ = (A, C)) := HC.out.next ex
        have HF : Hid (∀ w2, wr.grownBy w2 none → Calls Try.prog 19 #[smpV la ls.length lc T V, .slice (some ⟨g, 0, none⟩) 2 2] w2 fun e w' => e = .returned (.int .i64 (wrongR m ls T)) ∧ w2.grownBy w' none) := fun w2 h2 => g_wrong la ls _ lc g T V m w2 (hsr.grown h2 (by simp)) rfl (Nat.le_trans hll (by decide)) ((HA.out.grown HGr.out).grown h2)
        have hi1 : (k : Int) < (L : Int) := by omega
        have HGa : Hid (wr.grownBy (wr.alloc (.cells #[.slice la ls.length lc, .int .i64 T, .int .u64 V] 37)) none) := World.grownBy_alloc wr _ none
        generalize ls.length = n at a0 HF HGa
        clear hsr hll ex hl
        simp only at HN
        generalize wrongR m ls T = f at HF HN
        by_cases hf : f = 0
        · have q4 : (f != 0) = false := by simpa using hf
          have HS : Hid (FwAt m Q (k + 1) (A, C)) := by have h := HN.out; rw [if_neg (by simpa using hf)] at h; exact h
          clear HN hf
          go_wp2_with fail
          refine (HF.out _ HGa.out).mono ?_
          rintro e w2 ⟨rfl, hg2⟩
          have HG2 : Hid (w1.grownBy w2 none) := (HGr.out.trans HGa.out).trans hg2
          clear hg2
          go_wp2
          go_roundw
          case rel => exact ⟨k + 1, by omega, by go_num, HG2.out, HS.out⟩
          case measure => simp [intOf]; omega
        · have q4 : (f != 0) = true := by simpa using hf
          have HS : Hid (((k : Int), f) = (A, C)) := by have h := HN.out; rw [if_pos (by simpa using hf)] at h; exact h
          clear HN hf
          go_wp2_with fail
          refine (HF.out _ HGa.out).mono ?_
          rintro e w2 ⟨rfl, hg2⟩
          have HG2 : Hid (w1.grownBy w2 none) := (HGr.out.trans HGa.out).trans hg2
          clear hg2
          go_wp2
          go_ret2
          exact ⟨ret_two HS.out, (HG.out.trans H1.out).trans HG2.out⟩
      · have HS : Hid (((0 : Int), (0 : Int)) = (A, C)) := HC.out.done (by have := HL.out; omega)
        have hki : ¬ (k : Int) < (L : Int) := by omega
        go_wp2
        go_ret2
        exact ⟨ret_two HS.out, (HG.out.trans H1.out).trans HGr.out⟩
end Go.Proofs.Ythkalbiglfgleaa
