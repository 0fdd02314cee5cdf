/- The document's form and type of a node are ours. -/
import Derived.Test.YthbodkgcbfplgaaGreatYf
import Derived.Test.YthbodkgcbfplgaaGreatYe
import Derived.Test.YthbodkgcbfplgaaGreatYa
import Derived.Test.YthbodkgcbfplgaaGreatYd1
import Derived.Test.YthbodkgcbfplgaaGreatYd2
import Derived.Test.YthbodkgcbfplgaaGreatYd3
import Derived.Test.YthbodkgcbfplgaaGreatYd4
import Derived.Test.YthbodkgcbfplgaaGreatYd5
import Derived.Test.YthbodkgcbfplgaaGreatYd6
import Derived.Test.YthbodkgcbfplgaaGreatYd7
namespace Go.Proofs.YthbodkgcbfplgaaGreat
open Go.RowKit
set_option linter.unusedVariables false
set_option linter.unusedSimpArgs false
set_option maxRecDepth 20000

theorem z0 (z : Int) : (decide (0 ≤ z) && decide (z ≤ 0)) = (z == 0) := by
  rw [Bool.eq_iff_iff]; simp only [Bool.and_eq_true, decide_eq_true_eq, beq_iff_eq]; omega
theorem z1 (z k : Int) : (z != k) = !(z == k) := rfl
theorem z2 (z k : Int) : decide (z = k) = (z == k) := by rw [Bool.eq_iff_iff]; simp
theorem z5 (z : Int) : (decide (0 ≤ z) && decide (z ≤ 2)) = ((z == 0) || (decide (1 ≤ z) && decide (z ≤ 2))) := by
  rw [Bool.eq_iff_iff]; simp only [Bool.and_eq_true, Bool.or_eq_true, decide_eq_true_eq, beq_iff_eq]; omega
theorem z6 (z : Int) : (decide (3 ≤ z) && decide (z ≤ 4)) = ((z == 3) || (z == 4)) := by
  rw [Bool.eq_iff_iff]; simp only [Bool.and_eq_true, Bool.or_eq_true, decide_eq_true_eq, beq_iff_eq]; omega
theorem fq1 (op wi ba gr pa : Int) (tx : ByteArray) (ms : List Mt) (ns : List ByteArray) (bo : Bool) : (!(pa != 0) && (ns.all nameB && (!(gr == 0 && decide (0 < ns.length)) && (!decide (0 < ms.length) && (!(ba != 0) && (!(wi != 0) && (!bo && (!(gr != 0) && (op == 0 && numB (sInts tx)))))))))) = formB ⟨1, op, tx, ms, wi, ba, gr, ns, bo, pa⟩ := by
  have htx : decide (tx = ⟨#[]⟩) = tx.toList.isEmpty := (str_none tx).symm
  have hnt := numT_eq tx
  generalize htt : tx.toList.isEmpty = te at *
  generalize isNumT tx = nt at *
  generalize hnn : numB (sInts tx) = nb at *
  subst hnt
  have hF : formB ⟨1, op, tx, ms, wi, ba, gr, ns, bo, pa⟩ = (true && foB (foOf 1) ⟨1, op, tx, ms, wi, ba, gr, ns, bo, pa⟩) := rfl
  rw [hF]
  have hT : textB (foOf 1) tx = nt := by unfold textB; exact (numT_eq tx).trans hnn
  unfold foB
  simp only [hT]
  rw [Bool.eq_iff_iff]
  by_cases hg : gr = 0
  · subst hg
    cases ns with
    | nil => cases ms <;> cases bo <;> simp [foOf, noneF, inB, grpB, cmpT] <;> (try omega) <;> grind
    | cons y r => cases ms <;> cases bo <;> simp [foOf, noneF, inB, grpB, cmpT]
  · cases ns with
    | nil => cases ms <;> cases bo <;> simp [foOf, noneF, inB, grpB, cmpT, hg] <;> (try omega) <;> grind
    | cons y r =>
      unfold grpB
      generalize (y :: r).all nameB = N
      cases N <;> cases ms <;> cases bo <;> simp [foOf, noneF, inB, cmpT, hg] <;> (try omega) <;> grind
theorem fq2 (op wi ba gr pa : Int) (tx : ByteArray) (ms : List Mt) (ns : List ByteArray) (bo : Bool) : (!(pa != 0) && (ns.all nameB && (!(gr == 0 && decide (0 < ns.length)) && (!(wi != 0) && (!(!tx.toList.isEmpty) && (!bo && (!(gr != 0) && (op == 0 && inB (0, 2147483647) ba)))))))) = formB ⟨2, op, tx, ms, wi, ba, gr, ns, bo, pa⟩ := by
  have htx : decide (tx = ⟨#[]⟩) = tx.toList.isEmpty := (str_none tx).symm
  have hnt := numT_eq tx
  generalize htt : tx.toList.isEmpty = te at *
  generalize isNumT tx = nt at *
  generalize hnn : numB (sInts tx) = nb at *
  subst hnt
  have hF : formB ⟨2, op, tx, ms, wi, ba, gr, ns, bo, pa⟩ = (true && foB (foOf 2) ⟨2, op, tx, ms, wi, ba, gr, ns, bo, pa⟩) := rfl
  rw [hF]
  have hT : textB (foOf 2) tx = te := by rw [← htx]; rfl
  unfold foB
  simp only [hT]
  rw [Bool.eq_iff_iff]
  by_cases hg : gr = 0
  · subst hg
    cases ns with
    | nil => cases ms <;> cases bo <;> simp [foOf, noneF, inB, grpB, cmpT] <;> (try omega) <;> grind
    | cons y r => cases ms <;> cases bo <;> simp [foOf, noneF, inB, grpB, cmpT]
  · cases ns with
    | nil => cases ms <;> cases bo <;> simp [foOf, noneF, inB, grpB, cmpT, hg] <;> (try omega) <;> grind
    | cons y r =>
      unfold grpB
      generalize (y :: r).all nameB = N
      cases N <;> cases ms <;> cases bo <;> simp [foOf, noneF, inB, cmpT, hg] <;> (try omega) <;> grind
theorem fq3 (op wi ba gr pa : Int) (tx : ByteArray) (ms : List Mt) (ns : List ByteArray) (bo : Bool) : (!(pa != 0) && (ns.all nameB && (!(gr == 0 && decide (0 < ns.length)) && (!(!tx.toList.isEmpty) && (!bo && (!(gr != 0) && (op == 0 && (inB (0, 2147483647) ba && inB (1, 2147483647) wi)))))))) = formB ⟨3, op, tx, ms, wi, ba, gr, ns, bo, pa⟩ := by
  have htx : decide (tx = ⟨#[]⟩) = tx.toList.isEmpty := (str_none tx).symm
  have hnt := numT_eq tx
  generalize htt : tx.toList.isEmpty = te at *
  generalize isNumT tx = nt at *
  generalize hnn : numB (sInts tx) = nb at *
  subst hnt
  have hF : formB ⟨3, op, tx, ms, wi, ba, gr, ns, bo, pa⟩ = (true && foB (foOf 3) ⟨3, op, tx, ms, wi, ba, gr, ns, bo, pa⟩) := rfl
  rw [hF]
  have hT : textB (foOf 3) tx = te := by rw [← htx]; rfl
  unfold foB
  simp only [hT]
  rw [Bool.eq_iff_iff]
  by_cases hg : gr = 0
  · subst hg
    cases ns with
    | nil => cases ms <;> cases bo <;> simp [foOf, noneF, inB, grpB, cmpT] <;> (try omega) <;> grind
    | cons y r => cases ms <;> cases bo <;> simp [foOf, noneF, inB, grpB, cmpT]
  · cases ns with
    | nil => cases ms <;> cases bo <;> simp [foOf, noneF, inB, grpB, cmpT, hg] <;> (try omega) <;> grind
    | cons y r =>
      unfold grpB
      generalize (y :: r).all nameB = N
      cases N <;> cases ms <;> cases bo <;> simp [foOf, noneF, inB, cmpT, hg] <;> (try omega) <;> grind
theorem fq4 (op wi ba gr pa : Int) (tx : ByteArray) (ms : List Mt) (ns : List ByteArray) (bo : Bool) : (!(pa != 1) && (ns.all nameB && (!(gr == 0 && decide (0 < ns.length)) && (!decide (0 < ms.length) && (!(ba != 0) && (!(wi != 0) && (!(!tx.toList.isEmpty) && (!bo && (!(gr != 0) && (decide (1 ≤ op) && decide (op ≤ 12))))))))))) = formB ⟨4, op, tx, ms, wi, ba, gr, ns, bo, pa⟩ := by
  have htx : decide (tx = ⟨#[]⟩) = tx.toList.isEmpty := (str_none tx).symm
  have hnt := numT_eq tx
  generalize htt : tx.toList.isEmpty = te at *
  generalize isNumT tx = nt at *
  generalize hnn : numB (sInts tx) = nb at *
  subst hnt
  have hF : formB ⟨4, op, tx, ms, wi, ba, gr, ns, bo, pa⟩ = (true && foB (foOf 4) ⟨4, op, tx, ms, wi, ba, gr, ns, bo, pa⟩) := rfl
  rw [hF]
  have hT : textB (foOf 4) tx = te := by rw [← htx]; rfl
  unfold foB
  simp only [hT]
  rw [Bool.eq_iff_iff]
  by_cases hg : gr = 0
  · subst hg
    cases ns with
    | nil => cases ms <;> cases bo <;> simp [foOf, noneF, inB, grpB, cmpT] <;> (try omega) <;> grind
    | cons y r => cases ms <;> cases bo <;> simp [foOf, noneF, inB, grpB, cmpT]
  · cases ns with
    | nil => cases ms <;> cases bo <;> simp [foOf, noneF, inB, grpB, cmpT, hg] <;> (try omega) <;> grind
    | cons y r =>
      unfold grpB
      generalize (y :: r).all nameB = N
      cases N <;> cases ms <;> cases bo <;> simp [foOf, noneF, inB, cmpT, hg] <;> (try omega) <;> grind
theorem fq5 (op wi ba gr pa : Int) (tx : ByteArray) (ms : List Mt) (ns : List ByteArray) (bo : Bool) : (!(pa != 1) && (ns.all nameB && (!(gr == 0 && decide (0 < ns.length)) && (!decide (0 < ms.length) && (!(ba != 0) && (!(wi != 0) && (!(!tx.toList.isEmpty) && (!bo && (decide (1 ≤ op) && (decide (op ≤ 5) && (decide (0 ≤ gr) && decide (gr ≤ 2)))))))))))) = formB ⟨5, op, tx, ms, wi, ba, gr, ns, bo, pa⟩ := by
  have htx : decide (tx = ⟨#[]⟩) = tx.toList.isEmpty := (str_none tx).symm
  have hnt := numT_eq tx
  generalize htt : tx.toList.isEmpty = te at *
  generalize isNumT tx = nt at *
  generalize hnn : numB (sInts tx) = nb at *
  subst hnt
  have hF : formB ⟨5, op, tx, ms, wi, ba, gr, ns, bo, pa⟩ = (true && foB (foOf 5) ⟨5, op, tx, ms, wi, ba, gr, ns, bo, pa⟩) := rfl
  rw [hF]
  have hT : textB (foOf 5) tx = te := by rw [← htx]; rfl
  unfold foB
  simp only [hT]
  rw [Bool.eq_iff_iff]
  by_cases hg : gr = 0
  · subst hg
    cases ns with
    | nil => cases ms <;> cases bo <;> simp [foOf, noneF, inB, grpB, cmpT] <;> (try omega) <;> grind
    | cons y r => cases ms <;> cases bo <;> simp [foOf, noneF, inB, grpB, cmpT]
  · cases ns with
    | nil => cases ms <;> cases bo <;> simp [foOf, noneF, inB, grpB, cmpT, hg] <;> (try omega) <;> grind
    | cons y r =>
      unfold grpB
      generalize (y :: r).all nameB = N
      cases N <;> cases ms <;> cases bo <;> simp [foOf, noneF, inB, cmpT, hg] <;> (try omega) <;> grind
theorem fq6 (op wi ba gr pa : Int) (tx : ByteArray) (ms : List Mt) (ns : List ByteArray) (bo : Bool) : (!(pa != 2) && (ns.all nameB && (!(gr == 0 && decide (0 < ns.length)) && (!decide (0 < ms.length) && (!(ba != 0) && (!(wi != 0) && (!(!tx.toList.isEmpty) && (decide (1 ≤ op) && (decide (op ≤ 13) && ((gr == 0 || (gr == 3 || gr == 4)) && ((decide (5 ≤ op) && decide (op ≤ 10)) || !bo))))))))))) = formB ⟨6, op, tx, ms, wi, ba, gr, ns, bo, pa⟩ := by
  have htx : decide (tx = ⟨#[]⟩) = tx.toList.isEmpty := (str_none tx).symm
  have hnt := numT_eq tx
  generalize htt : tx.toList.isEmpty = te at *
  generalize isNumT tx = nt at *
  generalize hnn : numB (sInts tx) = nb at *
  subst hnt
  have hF : formB ⟨6, op, tx, ms, wi, ba, gr, ns, bo, pa⟩ = (true && foB (foOf 6) ⟨6, op, tx, ms, wi, ba, gr, ns, bo, pa⟩) := rfl
  rw [hF]
  have hT : textB (foOf 6) tx = te := by rw [← htx]; rfl
  unfold foB
  simp only [hT]
  rw [Bool.eq_iff_iff]
  by_cases hg : gr = 0
  · subst hg
    cases ns with
    | nil => cases ms <;> cases bo <;> simp [foOf, noneF, inB, grpB, cmpT] <;> (try omega) <;> grind
    | cons y r => cases ms <;> cases bo <;> simp [foOf, noneF, inB, grpB, cmpT]
  · cases ns with
    | nil => cases ms <;> cases bo <;> simp [foOf, noneF, inB, grpB, cmpT, hg] <;> (try omega) <;> grind
    | cons y r =>
      unfold grpB
      generalize (y :: r).all nameB = N
      cases N <;> cases ms <;> cases bo <;> simp [foOf, noneF, inB, cmpT, hg] <;> (try omega) <;> grind
theorem fq7 (op wi ba gr pa : Int) (tx : ByteArray) (ms : List Mt) (ns : List ByteArray) (bo : Bool) : (!(pa != 1) && (ns.all nameB && (!(gr == 0 && decide (0 < ns.length)) && (!decide (0 < ms.length) && (!(ba != 0) && (!(wi != 0) && (!(!tx.toList.isEmpty) && (!bo && (!(gr != 0) && (op == 0)))))))))) = formB ⟨7, op, tx, ms, wi, ba, gr, ns, bo, pa⟩ := by
  have htx : decide (tx = ⟨#[]⟩) = tx.toList.isEmpty := (str_none tx).symm
  have hnt := numT_eq tx
  generalize htt : tx.toList.isEmpty = te at *
  generalize isNumT tx = nt at *
  generalize hnn : numB (sInts tx) = nb at *
  subst hnt
  have hF : formB ⟨7, op, tx, ms, wi, ba, gr, ns, bo, pa⟩ = (true && foB (foOf 7) ⟨7, op, tx, ms, wi, ba, gr, ns, bo, pa⟩) := rfl
  rw [hF]
  have hT : textB (foOf 7) tx = te := by rw [← htx]; rfl
  unfold foB
  simp only [hT]
  rw [Bool.eq_iff_iff]
  by_cases hg : gr = 0
  · subst hg
    cases ns with
    | nil => cases ms <;> cases bo <;> simp [foOf, noneF, inB, grpB, cmpT] <;> (try omega) <;> grind
    | cons y r => cases ms <;> cases bo <;> simp [foOf, noneF, inB, grpB, cmpT]
  · cases ns with
    | nil => cases ms <;> cases bo <;> simp [foOf, noneF, inB, grpB, cmpT, hg] <;> (try omega) <;> grind
    | cons y r =>
      unfold grpB
      generalize (y :: r).all nameB = N
      cases N <;> cases ms <;> cases bo <;> simp [foOf, noneF, inB, cmpT, hg] <;> (try omega) <;> grind
theorem r_form (x : Nd) (ma na : Option Addr) (mc nc : Nat) (w : World) (h : NdRd w (x, (ma, x.mat.length, mc), (na, x.names.length, nc))) (ht : x.text.size ≤ 9223372036854775807) (hk : kindB x.kind = true) :
    Calls Tryz.prog 15 #[.agg (ndA x (ma, x.mat.length, mc) (na, x.names.length, nc))] w fun e w' => e = .returned (.bool (formB x)) ∧ w.grownBy w' none := by
  obtain ⟨kd, op, tx, ms, wi, ba, gr, ns, bo, pa⟩ := x
  have HNM : Hid (∀ W, w.grownBy W none → Calls Tryz.prog 26 #[.slice na ns.length nc] W fun e w' => e = .returned (.bool (ns.all nameB)) ∧ W = w') := fun W hg => r_names na nc ns W (h.nam.grown hg (by simp)) h.nz
  have HNB : Hid (∀ W, Calls Tryz.prog 27 #[.string tx] W fun e w' => e = .returned (.bool (numB (sInts tx))) ∧ W = w') := fun W => r_number tx W ht
  have HSP : ∀ v l, Hid (∀ W, Calls Tryz.prog 28 #[.int .i64 v, .int .i64 l] W fun e w' => e = .returned (.bool (inB (l, 2147483647) v)) ∧ W = w') := fun v l W => r_spn v l W
  have hk2 : kd = 1 ∨ kd = 2 ∨ kd = 3 ∨ kd = 4 ∨ kd = 5 ∨ kd = 6 ∨ kd = 7 := by
    unfold kindB at hk
    simp only [Bool.and_eq_true, decide_eq_true_eq] at hk
    omega
  clear h ht hk
  rcases hk2 with rfl | rfl | rfl | rfl | rfl | rfl | rfl
  · have h0 := rf_1 op wi ba gr pa tx ma na ms.length mc ns.length nc _ (ns.all nameB) _ _ _ _ _ (!tx.toList.isEmpty) bo _ _ (numB (sInts tx)) false false false false false false false false false false w rfl HNM rfl rfl rfl rfl rfl (by simp) rfl rfl HNB
    refine h0.mono fun e w' h => ⟨?_, h.2⟩
    rw [h.1, ← fq1]
  · have h0 := rf_2 op wi ba gr pa tx ma na ms.length mc ns.length nc _ (ns.all nameB) _ _ _ _ _ (!tx.toList.isEmpty) bo _ _ false (inB (0, 2147483647) ba) false false false false false false false false false w rfl HNM rfl rfl rfl rfl rfl (by simp) rfl rfl (HSP ba 0)
    refine h0.mono fun e w' h => ⟨?_, h.2⟩
    rw [h.1, ← fq2]
  · have h0 := rf_3 op wi ba gr pa tx ma na ms.length mc ns.length nc _ (ns.all nameB) _ _ _ _ _ (!tx.toList.isEmpty) bo _ _ false (inB (0, 2147483647) ba) (inB (1, 2147483647) wi) false false false false false false false false w rfl HNM rfl rfl rfl rfl rfl (by simp) rfl rfl (HSP ba 0) (HSP wi 1)
    refine h0.mono fun e w' h => ⟨?_, h.2⟩
    rw [h.1, ← fq3]
  · have h0 := rf_4 op wi ba gr pa tx ma na ms.length mc ns.length nc _ (ns.all nameB) _ _ _ _ _ (!tx.toList.isEmpty) bo _ false false false false _ _ false false false false false false w rfl HNM rfl rfl rfl rfl rfl (by simp) rfl rfl rfl
    refine h0.mono fun e w' h => ⟨?_, h.2⟩
    rw [h.1, ← fq4]
  · have h0 := rf_5 op wi ba gr pa tx ma na ms.length mc ns.length nc _ (ns.all nameB) _ _ _ _ _ (!tx.toList.isEmpty) bo _ false false false false _ _ _ _ false false false false w rfl HNM rfl rfl rfl rfl rfl (by simp) rfl rfl rfl rfl rfl
    refine h0.mono fun e w' h => ⟨?_, h.2⟩
    rw [h.1, ← fq5]
  · have h0 := rf_6 op wi ba gr pa tx ma na ms.length mc ns.length nc _ (ns.all nameB) _ _ _ _ _ (!tx.toList.isEmpty) bo _ false false false false _ _ false false _ _ _ _ w rfl HNM rfl rfl rfl rfl rfl (by simp) rfl rfl rfl rfl rfl rfl rfl
    refine h0.mono fun e w' h => ⟨?_, h.2⟩
    rw [h.1, ← fq6]
  · have h0 := rf_7 op wi ba gr pa tx ma na ms.length mc ns.length nc _ (ns.all nameB) _ _ _ _ _ (!tx.toList.isEmpty) bo _ _ false false false false false false false false false false false w rfl HNM rfl rfl rfl rfl rfl (by simp) rfl rfl
    refine h0.mono fun e w' h => ⟨?_, h.2⟩
    rw [h.1, ← fq7]

/-- What of answers. -/
def ofC (x : Nd) (ps : List Int) : Int := if wantsB x ps = true then 0 else if x.kind = 6 then 192 else 191
def ofT (x : Nd) (ps : List Int) : Int := if ofC x ps = 0 then kindT x ps else 0
end Go.Proofs.YthbodkgcbfplgaaGreat
