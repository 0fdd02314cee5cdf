/- Lists of byte strings: alike? -/
import Derived.Test.YtbhffjeoakalbaaGreatDoorWy
namespace Go.Proofs.YtbhffjeoakalbaaGreatDoor
open Go.RowKit Go.Maps Go.Sort
set_option linter.unusedVariables false
set_option maxRecDepth 20000

/-- A slice of slices is read as these records. -/
def Reads (w : World) (a : Option Addr) (ts : List Sl) (recs : List (List Int)) : Prop := SRd slE w a ts ∧ ts.length = recs.length ∧ ∀ (i : Nat) (t : Sl) (r : List Int), ts[i]? = some t → recs[i]? = some r → t.2.1 = r.length ∧ Rd w t.1 r ∧ r.length ≤ 140737488355000
theorem Reads.grown {w w' : World} {a : Option Addr} {ts : List Sl} {recs : List (List Int)} (h : Reads w a ts recs) (hg : w.grownBy w' none) : Reads w' a ts recs :=
  ⟨h.1.grown hg (by simp), h.2.1, fun i t r h1 h2 => ⟨(h.2.2 i t r h1 h2).1, (h.2.2 i t r h1 h2).2.1.grown hg (by simp), (h.2.2 i t r h1 h2).2.2⟩⟩
theorem Reads.at {w : World} {a : Option Addr} {ts : List Sl} {recs : List (List Int)} (h : Reads w a ts recs) {i : Nat} (hi : i < recs.length) : ∃ b off t r, a = some ⟨b, off, none⟩ ∧ recs[i]? = some r ∧ w.cell? ⟨b, off + i, none⟩ = some (.slice t.1 t.2.1 t.2.2) ∧ t.2.1 = r.length ∧ Rd w t.1 r ∧ r.length ≤ 140737488355000 ∧ ts[i]? = some t := by
  have hl := h.2.1
  obtain ⟨r, hr⟩ : ∃ r, recs[i]? = some r := ⟨_, List.getElem?_eq_getElem hi⟩
  obtain ⟨t, ht⟩ : ∃ t, ts[i]? = some t := ⟨_, List.getElem?_eq_getElem (by omega)⟩
  obtain ⟨kb, koff, e, hkc⟩ := h.1.at (by omega)
  have a0 := hkc i _ 0 _ ht rfl
  obtain ⟨h1, h2, h3⟩ := h.2.2 i t r ht hr
  exact ⟨kb, koff, t, r, e, hr, by simpa [slE, slV] using a0, h1, h2, h3, ht⟩
theorem recs_take_eq {xs ys : List (List Int)} {i : Nat} {r s : List Int} (hx : xs[i]? = some r) (hy : ys[i]? = some s) (h : xs.take i = ys.take i) (e : r = s) : xs.take (i + 1) = ys.take (i + 1) := by
  rw [List.take_add_one, List.take_add_one, hx, hy, h, e]
set_option maxHeartbeats 8000000 in
theorem l_sameLists (a b : Option Addr) (ts us : List Sl) (xs ys : List (List Int)) (n m c d : Nat) (w : World) (hx : Reads w a ts xs) (hy : Reads w b us ys) (hn : xs.length = n) (hm : ys.length = m) (hn4 : n ≤ 4611686018427387904) :
    Calls Tryz.prog 22 #[.slice a n c, .slice b m d] w fun e w' => e = .returned (.bool (decide (xs = ys))) ∧ w.grownBy w' none := by
  have HX : Hid (Reads w a ts xs) := hx
  have HY : Hid (Reads w b us ys) := hy
  have HN : Hid (xs.length = n) := hn
  have HM : Hid (ys.length = m) := hm
  clear hx hy
  by_cases hnm : n = m
  · subst hnm
    have q0 : ((n : Int) == (n : Int)) = true := by simp
    clear hn hm
    go_enter Tryz.func22, Tryz.ntmps22
    go_wp2_with fail
    go_loopw [5] (fun t5 wr => ∃ i : Nat, i ≤ n ∧ t5 = .int .i64 i ∧ xs.take i = ys.take i ∧ w.grownBy wr none) (fun t5 _ => n - (intOf t5).toNat)
    case atStart => exact ⟨0, Nat.zero_le _, rfl, rfl, World.grownBy.refl _ _⟩
    case round =>
      obtain ⟨i, hi, rfl, heq, hg⟩ := hrel
      have HEQ : Hid (xs.take i = ys.take i) := heq
      have HG : Hid (w.grownBy wr none) := hg
      by_cases hlt : i < n
      · have hii : (i : Int) < (n : Int) := by omega
        obtain ⟨b1, o1, t1, r1, rfl, g1, c1, l1, d1, z1, _⟩ := (HX.out.grown hg).at (i := i) (by rw [HN.out]; exact hlt)
        obtain ⟨b2, o2, t2, r2, rfl, g2, c2, l2, d2, z2, _⟩ := (HY.out.grown hg).at (i := i) (by rw [HM.out]; exact hlt)
        have HTE := fun e => recs_take_eq g1 g2 HEQ.out e
        have HNE : Hid (r1 ≠ r2 → xs ≠ ys) := fun h e => by subst e; rw [g1] at g2; exact h (Option.some.inj g2)
        have HGD : Hid (w.grownBy wr.drew none) := gb_drew hg
        have HSB : Hid (Calls Tryz.prog 56 #[.slice t1.1 t1.2.1 t1.2.2, .slice t2.1 t2.2.1 t2.2.2] wr.drew fun e w' => e = .returned (.bool (decide (r1 = r2))) ∧ wr.drew.grownBy w' none) := same_any t1.1 t2.1 r1 r2 t1.2.1 t2.2.1 t1.2.2 t2.2.2 wr.drew d1 d2 l1.symm l2.symm (by omega)
        clear heq hg g1 g2 l1 l2 d1 d2 z1 z2
        go_wp2_with fail
        go_region_held3 (fun W => W.cell? ⟨b1, o1 + i, none⟩ = some (.slice t1.1 t1.2.1 t1.2.2) ∧ W.cell? ⟨b2, o2 + i, none⟩ = some (.slice t2.1 t2.2.1 t2.2.2)) (go_keep) (first
          | (go_at_call 56; refine HSB.out.mono ?_; rintro e w1 ⟨rfl, hg1⟩; have HG1 : Hid (w.grownBy w1 none) := HGD.out.trans hg1; have c1' : w1.cell? ⟨b1, o1 + i, none⟩ = some (.slice t1.1 t1.2.1 t1.2.2) := hg1.cell c1 (by simp); have c2' : w1.cell? ⟨b2, o2 + i, none⟩ = some (.slice t2.1 t2.2.1 t2.2.2) := hg1.cell c2 (by simp); clear hg1))
        by_cases he : r1 = r2
        · have HT2 := HTE he
          rw [show decide (r1 = r2) = true by simp [he]]
          go_wp2
          go_roundw
          case rel => exact ⟨i + 1, by omega, by go_num, HT2, HG1.out⟩
          case measure => simp [intOf]; omega
        · have HF : Hid (decide (xs = ys) = false) := by show _ = _; simp [HNE.out he]
          rw [show decide (r1 = r2) = false by simp [he]]
          go_wp2
          go_ret
          exact ⟨ret_bool HF.out.symm, HG1.out⟩
      · have hii : ¬ (i : Int) < (n : Int) := by omega
        have HE : Hid (decide (xs = ys) = true) := by
          show _ = _
          have h1 := HEQ.out
          rw [List.take_of_length_le (by rw [HN.out]; omega), List.take_of_length_le (by rw [HM.out]; omega)] at h1
          simp [h1]
        clear heq hg
        go_wp2
        go_ret
        exact ⟨ret_bool HE.out.symm, HG.out⟩
  · have q0 : ((n : Int) == (m : Int)) = false := by simp; omega
    have q1 : ((n : Int) != (m : Int)) = true := by simp; omega
    have HE : Hid (decide (xs = ys) = false) := by
      show _ = _
      simp only [decide_eq_false_iff_not]
      intro e
      subst e
      omega
    clear hn hm
    go_enter Tryz.func22, Tryz.ntmps22
    go_wp2
    go_ret
    exact ⟨ret_bool HE.out.symm, World.grownBy.refl _ _⟩
end Go.Proofs.YtbhffjeoakalbaaGreatDoor
