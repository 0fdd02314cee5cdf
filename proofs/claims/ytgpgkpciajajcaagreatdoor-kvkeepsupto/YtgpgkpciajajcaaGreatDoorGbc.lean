/- Several texts in one: Le, Lf, Lg, Ka. -/
import Derived.Test.YtgpgkpciajajcaaGreatDoorGaz
import Derived.Test.YtgpgkpciajajcaaGreatDoorGbb
import Derived.Test.YtgpgkpciajajcaaGreatDoorGaw
import Derived.Test.YtgpgkpciajajcaaGreatDoorGba
import Derived.Test.YtgpgkpciajajcaaGreatDoorGay
import Derived.Test.YtgpgkpciajajcaaGreatDoorGai
import Derived.Lib.ConvBytes
/- Package wal: cut, where the power goes at the old checkpoint. -/
namespace Go.Proofs.YtgpgkpciajajcaaGreatDoor
open Go.RowKit Go.Maps Go.Sort
set_option linter.unusedVariables false
set_option maxRecDepth 20000

set_option maxHeartbeats 8000000 in
/-- cut, where the power goes when the old checkpoint is deleted. -/
theorem w_cutPC (base d mb n : Nat) (x : DSt) (p : Nat) (dir cp : ByteArray) (segs : List Nat) (op : Nat) (A B : Nat → Prop) (fv : Value) (w : World) (hdir : dirB dir = true) (ht : Tab w) (h : LogAt w base d mb n x p dir cp segs op A B) (hop : op < 99999998) (X3 : DSt) (hpt : ∀ w1, w.grownBy w1 none → Calls Tryz.prog 140 #[.pointer (some ⟨p, 0, none⟩), .string (cpN dir op), fv] w1 fun e w' => e = .returned (.tuple #[]) ∧ ∃ n' B', n' ≤ n + 2 ∧ LogAt w' base d mb n' X3 p dir cp segs op A B' ∧ Step2 w1 w' A B A B') (hcp0 : cp ≠ ⟨#[]⟩) (hnm : nameB cp = true) (hyo : X3.ok) (y : DSt) (hy : X3.delete cp = (60, y)) :
    Calls Tryz.prog 107 #[.pointer (some ⟨p, 0, none⟩), fv] w fun e w' => e = .panicked (thrown 60) ∧ CutEnd w base d mb (n + 2) y A B w' := by
  have hds : dir.size ≤ 32 := by simp only [dirB, Bool.and_eq_true, decide_eq_true_eq] at hdir; exact hdir.2
  have HDP := fun w => w_doneP 60 (by decide) w
  have HY : Hid (X3.delete cp = (60, y)) := hy
  have HYO : Hid X3.ok := hyo
  have HNM : Hid (nameB cp = true) := hnm
  obtain ⟨a, c, hW, _⟩ := h.wal
  have c4 := hW.cells.2.2.2.2
  have HCN : Hid (Calls Tryz.prog 139 #[.pointer (some ⟨p, 0, none⟩), .int .i64 (op : Int)] w fun e w' => e = .returned (.string (cpN dir op)) ∧ w.grownBy w' none) := w_cpoint p d dir cp _ _ op (by omega) w (by omega) ht hW
  have HPT : Hid (∀ w1, w.grownBy w1 none → Calls Tryz.prog 140 #[.pointer (some ⟨p, 0, none⟩), .string (cpN dir op), fv] w1 fun e w' => e = .returned (.tuple #[]) ∧ ∃ n' B', n' ≤ n + 2 ∧ LogAt w' base d mb n' X3 p dir cp segs op A B' ∧ Step2 w w' A B A B') := fun w1 hg => by
    refine (hpt w1 hg).mono ?_
    rintro e w' ⟨rfl, n', B', h1, h2, h3⟩
    exact ⟨rfl, n', B', h1, h2, (Step2.grown A B hg).trans h3⟩
  have q0 : cp.toList.isEmpty = false := by rw [str_none]; simp [hcp0]
  clear h hW ht hdir hpt hy hyo hnm
  go_enter Tryz.func107, Tryz.ntmps107
  go_wp2_with fail
  refine HCN.out.mono ?_
  rintro e w1 ⟨rfl, hg1⟩
  go_wp2_with fail
  refine (HPT.out _ hg1).mono ?_
  rintro e w2 ⟨rfl, n2, B2, hn2, hL2, hS2⟩
  obtain ⟨a2, k2, hW2, _⟩ := hL2.wal
  have y4 := hW2.cells.2.2.2.2
  have z4 := hW2.frozen 4
  have hSO := hL2.setOpen (op + 1) ((op : Int) + 1) (by omega)
  obtain ⟨aa, ac, hC3⟩ := hSO.1.cutAt (hS2.trans hSO.2)
  have HC3 : Hid (CutAt w (w2.setCell ⟨p, 4, none⟩ (.int .i64 ((op : Int) + 1))) base d mb n2 X3 p dir cp segs (op + 1) A B B2 aa ac) := hC3
  obtain ⟨a3, k3, hW3, _⟩ := hSO.1.wal
  have y2 := hW3.cells.2.2.1
  have y0 := hW3.cells.1
  clear hg1 hL2 hS2 hW2 hSO hW3 HCN HPT hC3
  go_upto_if 26 with fail
  obtain ⟨wq, ewq⟩ : ∃ wq, wq = w2.setCell ⟨p, 4, none⟩ (.int .i64 ((op : Int) + 1)) := ⟨_, rfl⟩
  rw [← ewq] at HC3 y2 y0 ⊢
  have HDL : Hid (Calls Tryz.prog 141 #[.pointer (some ⟨d, 0, none⟩), .string cp] wq.drew fun e w' => e = .returned (.int .i64 60) ∧ ∃ n' B', n' ≤ n2 ∧ CutAt w w' base d mb n' y p dir cp segs (op + 1) A B B' aa ac) := by
    have h1 := HC3.out.grown (gb_drew (World.grownBy.refl wq none))
    refine (x_deleteN base d mb n2 _ B2 cp wq.drew h1.disk HYO.out HNM.out).mono ?_
    rintro e w' ⟨rfl, n', B', hn', hd', hst⟩
    rw [HY.out] at hd' ⊢
    obtain ⟨B'', h2⟩ := h1.write hd' hst
    exact ⟨rfl, n', B'', hn', h2⟩
  clear ewq
  go_wp2_with fail
  refine wp_region_held_drew (S := fun W => W.cell? ⟨p, 0, none⟩ = some (.pointer (some ⟨d, 0, none⟩)) ∧ W.cell? ⟨p, 2, none⟩ = some (.string cp)) (by kernel_rfl) (by go_keep) (fun hHeld => ?_)
  refine wpAnyH_take (i := 0) (v := .pointer (some ⟨p, 0, none⟩)) rfl (by kernel_rfl) (by kernel_rfl) (by kernel_rfl) (fun _ _ _ h => h) (Or.inl ⟨by rfl, fun w hSw => ?_⟩) (by assumption) ?_
  · go_simp
  refine wpAnyH_take (i := 1) (v := .pointer (some ⟨p, 0, none⟩)) rfl (by kernel_rfl) (by kernel_rfl) (by kernel_rfl) (fun _ _ _ h => h) (Or.inl ⟨by rfl, fun w hSw => ?_⟩) (by assumption) ?_
  · go_simp
  refine wpAnyH_take (i := 2) (v := .pointer (some ⟨p, 0, none⟩)) rfl (by kernel_rfl) (by kernel_rfl) (by kernel_rfl) (fun _ _ _ h => h) (Or.inl ⟨by rfl, fun w hSw => ?_⟩) (by assumption) ?_
  · go_simp
  refine wpAnyH_take (i := 3) (v := .pointer (some ⟨d, 0, none⟩)) rfl (by kernel_rfl) (by kernel_rfl) (by kernel_rfl) (fun _ _ _ h => h) (Or.inl ⟨by rfl, fun w hSw => ?_⟩) (by assumption) ?_
  · go_simp
  refine wpAnyH_take (i := 4) (v := .pointer (some ⟨p, 0, none⟩)) rfl (by kernel_rfl) (by kernel_rfl) (by kernel_rfl) (fun _ _ _ h => h) (Or.inl ⟨by rfl, fun w hSw => ?_⟩) (by assumption) ?_
  · go_simp
  refine wpAnyH_take (i := 5) (v := .pointer (some ⟨p, 0, none⟩)) rfl (by kernel_rfl) (by kernel_rfl) (by kernel_rfl) (fun _ _ _ h => h) (Or.inl ⟨by rfl, fun w hSw => ?_⟩) (by assumption) ?_
  · go_simp
  refine wpAnyH_take (i := 6) (v := .pointer (some ⟨p, 2, none⟩)) rfl (by kernel_rfl) (by kernel_rfl) (by kernel_rfl) (fun _ _ _ h => h) (Or.inl ⟨by rfl, fun w hSw => ?_⟩) (by assumption) ?_
  · go_simp
  refine wpAnyH_take (i := 7) (v := .string cp) rfl (by kernel_rfl) (by kernel_rfl) (by kernel_rfl) (fun _ _ _ h => h) (Or.inl ⟨by rfl, fun w hSw => ?_⟩) (by assumption) ?_
  · go_simp
  refine wpAnyH_ready (rs := [8]) (by kernel_rfl) (by simp) (AllReadyH.cons (i := 8) rfl (fun K hK => ?_) AllReadyH.nil)
  go_simp
  refine HDL.out.mono ?_
  rintro e w5 ⟨rfl, n5, B5, hn5, hC5⟩
  have HC5 : Hid (CutAt w w5 base d mb n5 y p dir cp segs (op + 1) A B B5 aa ac) := hC5
  obtain ⟨hW6, _⟩ := hC5.row
  have x0' := hW6.cells.1
  have x2' := hW6.cells.2.2.1
  clear hC5 hW6
  refine hK.out _ _ (by go_keep) (fun hHeld => ?_)
  clear hK K
  refine wpAnyH_ready (rs := [9]) (by kernel_rfl) (by simp) (AllReadyH.cons (i := 9) rfl (fun K hK => ?_) AllReadyH.nil)
  go_simp
  refine (HDP _).mono ?_
  rintro e w6 ⟨rfl, rfl⟩
  exact ⟨rfl, rfl, n5, B5, by omega, HC5.out.disk, HC5.out.step, HC5.out.apart, HC5.out.ltB⟩
end Go.Proofs.YtgpgkpciajajcaaGreatDoor

/- Cut of a log with a checkpoint, over a disk that may be armed. -/
namespace Go.Proofs.YtgpgkpciajajcaaGreatDoor
open Go.RowKit Go.Maps Go.Sort
set_option linter.unusedVariables false
set_option maxRecDepth 20000

/-- What stands behind a Cut in which the power went. -/
def CutVK (V : Cont) (dir : ByteArray) (K : Kp) (Ls : Sg) (recs : List (List Int)) : Prop := DraftK V dir K Ls ∨ (∃ segs, OldLog V dir (openN K Ls, recs) segs ∧ segs.length ≤ Ls.length) ∨ ∃ k0, OldTwo V dir k0 (openN K Ls, recs) (Ls.map Prod.fst)
def LostCutK (y : DSt) (x : DSt) (dir : ByteArray) (K : Kp) (Ls : Sg) (recs : List (List Int)) : Prop := ∃ V wn, y = ⟨true, false, 0, 0, wn, V⟩ ∧ x.wn ≤ wn ∧ wn ≤ x.wn + 4 + Ls.length ∧ CutVK V dir K Ls recs
/-- What Cut deletes ahead of the segments. -/
def oldD (dir : ByteArray) (K : Kp) : List ByteArray := if cpName dir K = ⟨#[]⟩ then [] else [cpName dir K]
theorem oldD_eq {dir : ByteArray} (hdir : dirB dir = true) (K : Kp) : oldD dir K = (cpNums K).map (cpN dir) := by
  unfold oldD
  cases K with
  | none => rfl
  | some q =>
    have hne : cpN dir q.1 ≠ ⟨#[]⟩ := fun e => by
      have := cp_name hdir q.1
      rw [e] at this
      exact absurd this (by decide)
    rw [if_neg (show cpName dir (some q) ≠ ⟨#[]⟩ from hne)]
    rfl
inductive CutCaseK (x : DSt) (dir : ByteArray) (K : Kp) (Ls : Sg) (recs : List (List Int)) : Prop
  | p1 (y : DSt) (ey : x.append (newN dir) (logB frameR recs) = (60, y)) (hl : LostCutK y x dir K Ls recs) : CutCaseK x dir K Ls recs
  | p2 (x1 : DSt) (ex1 : x.append (newN dir) (logB frameR recs) = (0, x1)) (hok1 : x1.ok) (y : DSt) (ey : x1.sync (newN dir) = (60, y)) (hl : LostCutK y x dir K Ls recs) : CutCaseK x dir K Ls recs
  | p3 (x1 : DSt) (ex1 : x.append (newN dir) (logB frameR recs) = (0, x1)) (hok1 : x1.ok) (x2 : DSt) (ex2 : x1.sync (newN dir) = (0, x2)) (hok2 : x2.ok) (y : DSt) (ey : x2.rename (newN dir) (cpN dir (openN K Ls)) = (60, y)) (hl : LostCutK y x dir K Ls recs) : CutCaseK x dir K Ls recs
  | pc (x1 : DSt) (ex1 : x.append (newN dir) (logB frameR recs) = (0, x1)) (hok1 : x1.ok) (x2 : DSt) (ex2 : x1.sync (newN dir) = (0, x2)) (hok2 : x2.ok) (x3 : DSt) (ex3 : x2.rename (newN dir) (cpN dir (openN K Ls)) = (0, x3)) (hok3 : x3.ok) (hcp0 : cpName dir K ≠ ⟨#[]⟩) (hnm : nameB (cpName dir K) = true) (y : DSt) (ey : x3.delete (cpName dir K) = (60, y)) (hl : LostCutK y x dir K Ls recs) : CutCaseK x dir K Ls recs
  | del (x1 : DSt) (ex1 : x.append (newN dir) (logB frameR recs) = (0, x1)) (hok1 : x1.ok) (x2 : DSt) (ex2 : x1.sync (newN dir) = (0, x2)) (hok2 : x2.ok) (x3 : DSt) (ex3 : x2.rename (newN dir) (cpN dir (openN K Ls)) = (0, x3)) (j kj : Nat) (hj : (Ls.map Prod.fst)[j]? = some kj) (hdel : DelOk x3 (oldD dir K ++ ((Ls.map Prod.fst).take j).map (segN dir))) (hok3 : (delAll x3 (oldD dir K ++ ((Ls.map Prod.fst).take j).map (segN dir))).ok) (y : DSt) (ey : (delAll x3 (oldD dir K ++ ((Ls.map Prod.fst).take j).map (segN dir))).delete (segN dir kj) = (60, y)) (hl : LostCutK y x dir K Ls recs) : CutCaseK x dir K Ls recs
  | done (x1 : DSt) (ex1 : x.append (newN dir) (logB frameR recs) = (0, x1)) (hok1 : x1.ok) (x2 : DSt) (ex2 : x1.sync (newN dir) = (0, x2)) (hok2 : x2.ok) (x3 : DSt) (ex3 : x2.rename (newN dir) (cpN dir (openN K Ls)) = (0, x3)) (hdel : DelOk x3 (oldD dir K ++ (Ls.map Prod.fst).map (segN dir))) (hon : (delAll x3 (oldD dir K ++ (Ls.map Prod.fst).map (segN dir))).off = false) (hok : (delAll x3 (oldD dir K ++ (Ls.map Prod.fst).map (segN dir))).ok) (hwn : x.wn ≤ (delAll x3 (oldD dir K ++ (Ls.map Prod.fst).map (segN dir))).wn ∧ (delAll x3 (oldD dir K ++ (Ls.map Prod.fst).map (segN dir))).wn ≤ x.wn + 4 + Ls.length) (hl : Log (delAll x3 (oldD dir K ++ (Ls.map Prod.fst).map (segN dir))).V dir (some (openN K Ls, recs)) [] ∧ CpSy (delAll x3 (oldD dir K ++ (Ls.map Prod.fst).map (segN dir))).V dir (some (openN K Ls, recs))) : CutCaseK x dir K Ls recs
theorem log_of_old {V : Cont} {dir : ByteArray} {q : Nat × List (List Int)} (h : OldLog (lostV 0 V) dir q []) (hV : V (cpN dir q.1) = some (logB frameR q.2, (logB frameR q.2).length)) : Log V dir (some q) [] ∧ CpSy V dir (some q) :=
  ⟨⟨⟨h.folder.cpr, h.folder.segr, fun s => by rw [← lost_isSome 0]; exact h.folder.mem s⟩, ⟨rfl, ⟨_, hV⟩, h.cp.2.2⟩, fun p hp => (by cases hp), fun p hp => (by cases hp), h.cp.2.2.2⟩, fun q' hq => by cases hq; exact hV⟩
/-- The old checkpoint is gone. -/
noncomputable def gone (dir : ByteArray) (K : Kp) (V : Cont) : Cont := fun t => @ite _ (t ∈ (cpNums K).map (cpN dir)) (Classical.propDecidable _) none (V t)
theorem cut_caseK {x : DSt} {dir : ByteArray} {K : Kp} {Ls : Sg} {recs : List (List Int)} (h : Log x.V dir K Ls) (hcs : CpSy x.V dir K) (hs : AllSy x.V dir Ls) (hdir : dirB dir = true) (hon : x.off = false) (hok : x.ok) (hw : x.wn + Ls.length ≤ 999999900) (hr : ∀ r ∈ recs, r.length ≤ 65536) (hop : openN K Ls < 99999998) : CutCaseK x dir K Ls recs := by
  have hnew := h.noNew
  have hgt := last_lt_open h
  have e0 : oldV x.V (newN dir) = ([], 0) := by unfold oldV; rw [hnew]; rfl
  have ha : x.append (newN dir) (logB frameR recs) = x.wr true (setV x.V (newN dir) (some (logB frameR recs, 0))) := by
    unfold DSt.append
    rw [hon, e0, List.nil_append]
    rfl
  have hd1 : ∀ kp q, DraftK (lostV kp (setV x.V (newN dir) (some q))) dir K Ls := fun kp q => draft_ofK kp h hcs hs (fun t ht => setV_other _ _ ht) ⟨q, setV_same _ _ _⟩
  rcases wr_cases x hon hok (by omega) true (setV x.V (newN dir) (some (logB frameR recs, 0))) with ⟨x1, e1, a1, a2, a3, a4⟩ | e1
  case inr => exact .p1 _ (ha.trans e1) ⟨_, _, rfl, by omega, by omega, .inl (hd1 _ _)⟩
  have hsy : x1.sync (newN dir) = x1.wr false (setV x1.V (newN dir) (some (logB frameR recs, (logB frameR recs).length))) := by
    unfold DSt.sync
    rw [a2, a1, setV_same]
    rfl
  have eV2 : setV x1.V (newN dir) (some (logB frameR recs, (logB frameR recs).length)) = setV x.V (newN dir) (some (logB frameR recs, (logB frameR recs).length)) := by
    rw [a1]
    funext t
    unfold setV
    split <;> rfl
  rcases wr_cases x1 a2 a3 (by omega) false (setV x1.V (newN dir) (some (logB frameR recs, (logB frameR recs).length))) with ⟨x2, e2, b1, b2, b3, b4⟩ | e2
  case inr => exact .p2 x1 (ha.trans e1) a3 _ (hsy.trans e2) ⟨_, _, rfl, by omega, by omega, .inl (by rw [if_neg (by simp), a1]; exact hd1 _ _)⟩
  rw [eV2] at b1
  have hrn : x2.rename (newN dir) (cpN dir (openN K Ls)) = x2.wr false (setV (setV x2.V (newN dir) none) (cpN dir (openN K Ls)) (some (logB frameR recs, (logB frameR recs).length))) := by
    unfold DSt.rename
    rw [b2, b1, setV_same]
    rfl
  rcases wr_cases x2 b2 b3 (by omega) false (setV (setV x2.V (newN dir) none) (cpN dir (openN K Ls)) (some (logB frameR recs, (logB frameR recs).length))) with ⟨x3, e3, c1, c2, c3, c4⟩ | e3
  case inr => exact .p3 x1 (ha.trans e1) a3 x2 (hsy.trans e2) b3 _ (hrn.trans e3) ⟨_, _, rfl, by omega, by omega, .inl (by rw [if_neg (by simp), b1]; exact hd1 _ _)⟩
  have v1 : x3.V (newN dir) = none := by
    rw [c1, setV_other _ _ (fun e => cp_ne_new dir _ e.symm), setV_same]
  have v2 : x3.V (cpN dir (openN K Ls)) = some (logB frameR recs, (logB frameR recs).length) := by rw [c1, setV_same]
  have v3 : ∀ t, t ≠ newN dir → t ≠ cpN dir (openN K Ls) → x3.V t = x.V t := fun t ht1 ht2 => by
    rw [c1, setV_other _ _ ht2, setV_other _ _ ht1, b1, setV_other _ _ ht1]
  have hcpne : ∀ k ∈ cpNums K, cpN dir k ≠ cpN dir (openN K Ls) := fun k hk e => by
    have h8 := h.folder.cpr.2 k hk
    have e2 := cp_inj dir h8 (by omega) e
    cases K with
    | none => cases hk
    | some q =>
      have hkq : k = q.1 := by simpa [cpNums] using hk
      have : lastN (some q) = q.1 := rfl
      omega
  have hD : oldD dir K = (cpNums K).map (cpN dir) := oldD_eq hdir K
  have hDl : (oldD dir K).length ≤ 1 := by rw [hD]; cases K <;> simp [cpNums]
  obtain ⟨l, el⟩ : ∃ l, l = oldD dir K ++ (Ls.map Prod.fst).map (segN dir) := ⟨_, rfl⟩
  have eln : l = namesL dir (cpNums K) false (Ls.map Prod.fst) := by rw [el, hD]; simp [namesL]
  have hlen : l.length = (oldD dir K).length + Ls.length := by rw [el]; simp
  have hnd : l.Nodup := by rw [eln]; exact (names_lt dir false h.folder.cpr h.folder.segr).imp (fun hab => ba_ne hab)
  have hmem : ∀ s ∈ l, (x3.V s).isSome = true ∧ nameB s = true := fun s hs1 => by
    have hin : s ∈ namesL dir (cpNums K) false (Ls.map Prod.fst) := by rw [← eln]; exact hs1
    have hsn := h.seen hin
    unfold namesL at hin
    simp only [Bool.false_eq_true, if_false, List.nil_append, List.mem_append, List.mem_map] at hin
    rcases hin with ⟨k, hk, rfl⟩ | ⟨k, hk, rfl⟩
    · exact ⟨by rw [v3 _ (cp_ne_new dir k) (hcpne k hk)]; exact hsn, cp_name hdir k⟩
    · exact ⟨by rw [v3 _ (fun e => new_ne_seg dir k e.symm) (fun e => cp_ne_seg dir _ _ e.symm)]; exact hsn, seg_name hdir k⟩
  -- the files once the old checkpoint and the first j segments are gone
  have hg1 : gone dir K x3.V (newN dir) = none := by
    unfold gone
    split
    · rfl
    · exact v1
  have hg2 : gone dir K x3.V (cpN dir (openN K Ls)) = some (logB frameR recs, (logB frameR recs).length) := by
    unfold gone
    rw [if_neg (fun hin => by obtain ⟨k, hk, e⟩ := List.mem_map.1 hin; exact hcpne k hk e)]
    exact v2
  have hg3 : ∀ t, t ≠ newN dir → t ≠ cpN dir (openN K Ls) → t ∉ (cpNums K).map (cpN dir) → gone dir K x3.V t = x.V t := fun t h1 h2 h3 => by
    unfold gone
    rw [if_neg h3]
    exact v3 t h1 h2
  have hg4 : ∀ k ∈ cpNums K, gone dir K x3.V (cpN dir k) = none ∧ cpN dir k ≠ cpN dir (openN K Ls) := fun k hk => ⟨by unfold gone; rw [if_pos (List.mem_map.2 ⟨k, hk, rfl⟩)], hcpne k hk⟩
  have hold : ∀ (kp : Int) (j : Nat) (V : Cont), (∀ t, (t ∈ oldD dir K ++ ((Ls.map Prod.fst).map (segN dir)).take j → V t = none) ∧ (t ∉ oldD dir K ++ ((Ls.map Prod.fst).map (segN dir)).take j → V t = x3.V t)) → OldLog (lostV kp V) dir (openN K Ls, recs) ((Ls.map Prod.fst).drop j) := fun kp j V hV =>
    old_ofK (V4 := V) kp j h hs hr (by omega) hg1 hg2 hg3 hg4 (fun t => ⟨fun ht => (hV t).1 (List.mem_append.2 (.inr ht)), fun ht => by
      unfold gone
      by_cases hc : t ∈ (cpNums K).map (cpN dir)
      · rw [if_pos hc]
        exact (hV t).1 (List.mem_append.2 (.inl (by rw [hD]; exact hc)))
      · rw [if_neg hc]
        exact (hV t).2 (fun hin => (List.mem_append.1 hin).elim (fun h5 => hc (by rw [← hD]; exact h5)) ht)⟩)
  rcases del_armed l x3 c2 c3 (by omega) hnd hmem with ⟨i1, i2, i3, i4, i5⟩ | ⟨j, s, kp, wn, V, i1, i2, i3, i4, i5, i6, i7⟩
  · rw [el] at i1 i2 i3 i4 i5
    refine .done x1 (ha.trans e1) a3 x2 (hsy.trans e2) b3 x3 (hrn.trans e3) i1 i2 i3 (by rw [i4, ← el]; omega) ?_
    have ho := hold 0 ((Ls.map Prod.fst).map (segN dir)).length _ (fun t => by rw [List.take_length]; exact i5 t)
    rw [List.length_map, List.drop_length] at ho
    refine log_of_old ho ?_
    rw [(i5 _).2 (fun hin => ?_)]
    · exact v2
    · rcases List.mem_append.1 hin with h5 | h5
      · rw [hD] at h5
        obtain ⟨k, hk, e⟩ := List.mem_map.1 h5
        exact hcpne k hk e
      · obtain ⟨k, _, e⟩ := List.mem_map.1 h5
        exact cp_ne_seg dir _ _ e.symm
  · have hwn : wn ≤ x.wn + 4 + Ls.length := by omega
    by_cases hjD : j < (oldD dir K).length
    · have hj0 : j = 0 := by omega
      subst hj0
      cases K with
      | none => rw [hD] at hjD; exact absurd hjD (by simp [cpNums])
      | some q0 =>
        have hs0 : s = cpN dir q0.1 := by
          rw [el, hD] at i1
          simpa [cpNums] using i1.symm
        subst hs0
        have hVx : V = x3.V := funext fun t => (i7 t).2 (by simp)
        subst hVx
        have hne : cpN dir q0.1 ≠ ⟨#[]⟩ := fun e => by
          have := cp_name hdir q0.1
          rw [e] at this
          exact absurd this (by decide)
        exact .pc x1 (ha.trans e1) a3 x2 (hsy.trans e2) b3 x3 (hrn.trans e3) c3 hne (cp_name hdir _) _ i4 ⟨_, _, rfl, by omega, hwn, .inr (.inr ⟨_, two_of kp h hr (by omega) hgt v1 v2 v3⟩)⟩
    · obtain ⟨j', ej⟩ : ∃ j', j = (oldD dir K).length + j' := ⟨j - (oldD dir K).length, by omega⟩
      have htk : l.take j = oldD dir K ++ ((Ls.map Prod.fst).map (segN dir)).take j' := by rw [el, ej, List.take_length_add_append]
      rw [el, ej, List.getElem?_append_right (by omega), Nat.add_sub_cancel_left, List.getElem?_map] at i1
      obtain ⟨kj, hkj, rfl⟩ := Option.map_eq_some_iff.1 i1
      have et : ((Ls.map Prod.fst).map (segN dir)).take j' = ((Ls.map Prod.fst).take j').map (segN dir) := by rw [List.map_take]
      rw [htk] at i2 i3 i4 i7
      have hol := hold kp j' V i7
      rw [et] at i2 i3 i4
      exact .del x1 (ha.trans e1) a3 x2 (hsy.trans e2) b3 x3 (hrn.trans e3) j' kj hkj i2 i3 _ i4 ⟨_, _, rfl, by omega, hwn, .inr (.inl ⟨_, hol, by simp⟩)⟩
end Go.Proofs.YtgpgkpciajajcaaGreatDoor

/- Cut, of a log with a checkpoint over a disk that may be armed. -/
namespace Go.Proofs.YtgpgkpciajajcaaGreatDoor
open Go.RowKit Go.Maps Go.Sort
set_option linter.unusedVariables false
set_option maxRecDepth 20000

/-- A disk. -/
structure Cd (W w' : World) (d mb n' : Nat) (y : DSt) (B' : Nat → Prop) : Prop where
  disk : DS w' W.heap.size d mb n' y B'
  from_ : W.grownBy w' none
  low : ∀ k, B' k → W.heap.size ≤ k
  ltB : ∀ k, B' k → k < w'.heap.size
theorem cutK_cd {W w w' : World} {d mb n : Nat} {x y : DSt} {p : Nat} {dir : ByteArray} {K : Kp} {Ls : Sg} {safe : Nat} {A B : Nat → Prop} (h : SbK W w d mb n x p dir K Ls safe A B) (hc : CutEnd w W.heap.size d mb (n + 2) y A B w') : ∃ n' B', n' ≤ n + 2 ∧ Cd W w' d mb n' y B' ∧ Step2 w w' A B A B' := by
  obtain ⟨n', B', h1, h2, h3, h4, h5⟩ := hc
  exact ⟨n', B', h1, ⟨h2, h3.from_ h.from_ h.low, fun k hk => h3.low h.from_ h.low k (.inr hk), h5⟩, h3⟩
theorem sbK_cut {W w : World} {d mb n : Nat} {x : DSt} {p : Nat} {dir : ByteArray} {K : Kp} {Ls : Sg} {safe : Nat} {A B : Nat → Prop} (h : SbK W w d mb n x p dir K Ls safe A B) (hdir : dirB dir = true) (hsy : AllSy x.V dir Ls) (ka : Option Addr) (kn kc : Nat) (ts : List Sl) (recs : List (List Int)) (hw : x.wn + Ls.length ≤ 999999900) (hop : openN K Ls < 99999998) (hn : n < 1048576) (hsg : Ls.length ≤ 4194304) (hk : KeepIs w ka ts recs) (hkn : recs.length = kn) (hk4 : kn ≤ 4194304) (hlen : (logB frameR recs).length ≤ 4194304) (hr : ∀ r ∈ recs, r.length ≤ 65536) :
    Calls Tryz.prog 76 #[.pointer (some ⟨p, 0, none⟩), .slice ka kn kc] w fun e w' => (e = .returned (.int .i64 0) ∧ ∃ n' x' B', n' ≤ n + 2 ∧ x'.wn ≤ x.wn + 4 + Ls.length ∧ SbK W w' d mb n' x' p dir (some (openN K Ls, recs)) [] 0 A B' ∧ Step2 w w' A B A B') ∨ (e = .returned (.int .i64 60) ∧ ∃ n' y B', n' ≤ n + 2 ∧ Cd W w' d mb n' y B' ∧ 0 ≤ y.wn ∧ y.wn ≤ x.wn + 4 + Ls.length ∧ (∃ V, y = ⟨true, false, 0, 0, y.wn, V⟩) ∧ CutVK y.V dir K Ls recs ∧ Step2 w w' A B A B') := by
  have hfar := h.far
  have hw0 := h.ok.1.1
  have hnew := h.log.noNew
  have hcpn : nameB (cpN dir (openN K Ls)) = true := cp_name hdir _
  have hsg' : (Ls.map Prod.fst).length ≤ 4194304 := by rw [List.length_map]; exact hsg
  have hs8 : ∀ k ∈ Ls.map Prod.fst, k < 100000000 := h.log.folder.segr.2
  have hcp : (cpName dir K).size ≤ 64 := by
    cases K with
    | none => exact (show (0 : Nat) ≤ 64 by omega)
    | some q => exact nameB_size (cp_name hdir q.1)
  have lost : ∀ (y : DSt) (hl : LostCutK y x dir K Ls recs) (e : Ending) (w' : World), e = .returned (.int .i64 60) ∧ CutEnd w W.heap.size d mb (n + 2) y A B w' → (e = .returned (.int .i64 0) ∧ ∃ n' x' B', n' ≤ n + 2 ∧ x'.wn ≤ x.wn + 4 + Ls.length ∧ SbK W w' d mb n' x' p dir (some (openN K Ls, recs)) [] 0 A B' ∧ Step2 w w' A B A B') ∨ (e = .returned (.int .i64 60) ∧ ∃ n' y B', n' ≤ n + 2 ∧ Cd W w' d mb n' y B' ∧ 0 ≤ y.wn ∧ y.wn ≤ x.wn + 4 + Ls.length ∧ (∃ V, y = ⟨true, false, 0, 0, y.wn, V⟩) ∧ CutVK y.V dir K Ls recs ∧ Step2 w w' A B A B') := by
    rintro y ⟨V, wn, rfl, l1, l2, l3⟩ e w' ⟨rfl, hc⟩
    obtain ⟨n', B', h1, h2, h3⟩ := cutK_cd h hc
    exact .inr ⟨rfl, n', _, B', h1, h2, by dsimp only; omega, l2, ⟨V, rfl⟩, l3, h3⟩
  have putP : ∀ y, LostCutK y x dir K Ls recs → (∀ W4 fv, w.grownBy W4 none → AppsTo W4 W.heap.size d mb n x B (newN dir) fv (logB frameR recs) → ∀ w1, W4.grownBy w1 none → Calls Tryz.prog 140 #[.pointer (some ⟨p, 0, none⟩), .string (cpN dir (openN K Ls)), fv] w1 fun e w' => e = .panicked (thrown 60) ∧ ∃ n' B', n' ≤ n + 2 ∧ LogAt w' W.heap.size d mb n' y p dir (cpName dir K) (Ls.map Prod.fst) (openN K Ls) A B' ∧ Step2 w1 w' A B A B') → Calls Tryz.prog 76 #[.pointer (some ⟨p, 0, none⟩), .slice ka kn kc] w fun e w' => (e = .returned (.int .i64 0) ∧ ∃ n' x' B', n' ≤ n + 2 ∧ x'.wn ≤ x.wn + 4 + Ls.length ∧ SbK W w' d mb n' x' p dir (some (openN K Ls, recs)) [] 0 A B' ∧ Step2 w w' A B A B') ∨ (e = .returned (.int .i64 60) ∧ ∃ n' y B', n' ≤ n + 2 ∧ Cd W w' d mb n' y B' ∧ 0 ≤ y.wn ∧ y.wn ≤ x.wn + 4 + Ls.length ∧ (∃ V, y = ⟨true, false, 0, 0, y.wn, V⟩) ∧ CutVK y.V dir K Ls recs ∧ Step2 w w' A B A B') := fun y hl hp =>
    (w_cutCQ W.heap.size d mb n x y p dir (cpName dir K) (Ls.map Prod.fst) (openN K Ls) A B ka kn kc ts recs w hdir h.at_ h.ok hn hnew (fun W4 fv hg hap => w_cutPP W.heap.size d mb n x p dir (cpName dir K) (Ls.map Prod.fst) (openN K Ls) A B fv W4 hdir (hfar.1.grown hg) (h.at_.grown hg) hop y (hp W4 fv hg hap)) hk hkn hk4 hlen h.from_.size).mono (lost y hl)
  cases cut_caseK h.log h.sy.1 hsy hdir h.on h.ok hw hr hop with
  | p1 y ey hl => exact putP y hl (fun W4 fv hg hap w1 hg1 => w_putP1 W.heap.size d mb n x p dir (cpName dir K) (cpN dir (openN K Ls)) (Ls.map Prod.fst) (openN K Ls) A B fv (logB frameR recs) w1 hdir (h.at_.grown (hg.trans hg1)) (fun w2 hg2 => hap w2 (hg1.trans hg2)) h.ok hn hcpn y ey)
  | p2 x1 ex1 hok1 y ey hl => exact putP y hl (fun W4 fv hg hap w1 hg1 => w_putP2 W.heap.size d mb n x p dir (cpName dir K) (cpN dir (openN K Ls)) (Ls.map Prod.fst) (openN K Ls) A B fv (logB frameR recs) w1 hdir (h.at_.grown (hg.trans hg1)) (fun w2 hg2 => hap w2 (hg1.trans hg2)) h.ok hn hcpn x1 ex1 hok1 y ey)
  | p3 x1 ex1 hok1 x2 ex2 hok2 y ey hl => exact putP y hl (fun W4 fv hg hap w1 hg1 => w_putP3 W.heap.size d mb n x p dir (cpName dir K) (cpN dir (openN K Ls)) (Ls.map Prod.fst) (openN K Ls) A B fv (logB frameR recs) w1 hdir (h.at_.grown (hg.trans hg1)) (fun w2 hg2 => hap w2 (hg1.trans hg2)) h.ok hn hcpn x1 ex1 hok1 x2 ex2 hok2 y ey)
  | pc x1 ex1 hok1 x2 ex2 hok2 x3 ex3 hok3 hcp0 hnm y ey hl =>
    refine (w_cutCQ W.heap.size d mb n x y p dir (cpName dir K) (Ls.map Prod.fst) (openN K Ls) A B ka kn kc ts recs w hdir h.at_ h.ok hn hnew (fun W4 fv hg hap => ?_) hk hkn hk4 hlen h.from_.size).mono (lost y hl)
    exact w_cutPC W.heap.size d mb n x p dir (cpName dir K) (Ls.map Prod.fst) (openN K Ls) A B fv W4 hdir (hfar.1.grown hg) (h.at_.grown hg) hop x3 (fun w1 hg1 => w_putG W.heap.size d mb n x p dir (cpName dir K) (cpN dir (openN K Ls)) (Ls.map Prod.fst) (openN K Ls) A B fv (logB frameR recs) w1 hdir (h.at_.grown (hg.trans hg1)) (fun w2 hg2 => hap w2 (hg1.trans hg2)) h.ok hn hcpn x1 ex1 hok1 x2 ex2 hok2 x3 ex3) hcp0 hnm hok3 y ey
  | del x1 ex1 hok1 x2 ex2 hok2 x3 ex3 j kj hj hdel hok3 y ey hl =>
    refine (w_cutCQ W.heap.size d mb n x y p dir (cpName dir K) (Ls.map Prod.fst) (openN K Ls) A B ka kn kc ts recs w hdir h.at_ h.ok hn hnew (fun W4 fv hg hap => ?_) hk hkn hk4 hlen h.from_.size).mono (lost y hl)
    exact w_cutPD W.heap.size d mb n x p dir (cpName dir K) (Ls.map Prod.fst) (openN K Ls) A B fv W4 hdir (hfar.1.grown hg) hfar.2 (h.at_.grown hg) hop x3 (fun w1 hg1 => w_putG W.heap.size d mb n x p dir (cpName dir K) (cpN dir (openN K Ls)) (Ls.map Prod.fst) (openN K Ls) A B fv (logB frameR recs) w1 hdir (h.at_.grown (hg.trans hg1)) (fun w2 hg2 => hap w2 (hg1.trans hg2)) h.ok hn hcpn x1 ex1 hok1 x2 ex2 hok2 x3 ex3) hsg' hs8 hcp j kj hj hdel y ey hok3 (seg_name hdir kj) (Nat.le_trans h.from_.size hg.size)
  | done x1 ex1 hok1 x2 ex2 hok2 x3 ex3 hdel hon hok hwn hl =>
    refine (w_cutCG W.heap.size d mb n x (delAll x3 (oldD dir K ++ (Ls.map Prod.fst).map (segN dir))) p dir (cpName dir K) (Ls.map Prod.fst) (openN K Ls) A B ka kn kc ts recs w hdir h.at_ h.ok hn hnew (fun W4 fv hg hap => ?_) hk hkn hk4 hlen h.from_.size).mono ?_
    · exact w_cutG W.heap.size d mb n x p dir (cpName dir K) (Ls.map Prod.fst) (openN K Ls) A B fv W4 hdir (hfar.1.grown hg) hfar.2 (h.at_.grown hg) hop x3 _ rfl (fun w1 hg1 => w_putG W.heap.size d mb n x p dir (cpName dir K) (cpN dir (openN K Ls)) (Ls.map Prod.fst) (openN K Ls) A B fv (logB frameR recs) w1 hdir (h.at_.grown (hg.trans hg1)) (fun w2 hg2 => hap w2 (hg1.trans hg2)) h.ok hn hcpn x1 ex1 hok1 x2 ex2 hok2 x3 ex3) hsg' hs8 hcp hdel (Nat.le_trans h.from_.size hg.size)
    · rintro e w' ⟨rfl, hc, hwal⟩
      obtain ⟨n', B', h1, h2, h3, h4, h5⟩ := hc
      exact .inl ⟨rfl, n', _, B', h1, hwn.2, ⟨⟨h2, hwal, h4, h5, fun k ha => Nat.lt_of_lt_of_le (h.at_.ltA k ha) h3.kept.size⟩, hl.1, ⟨hl.2, .inl ⟨rfl, rfl⟩⟩, hon, hok, h3.from_ h.from_ h.low, h3.low h.from_ h.low, h.tab⟩, h3⟩
end Go.Proofs.YtgpgkpciajajcaaGreatDoor

/- Package codec: numbers and texts, put and read. -/
namespace Go.Proofs.YtgpgkpciajajcaaGreatDoor
open Go.RowKit
set_option linter.unusedVariables false
set_option maxRecDepth 20000

theorem read_u (r : Nat) (V : Value) (q e3 : Int) (w : World) (Q : World → Prop) (HC : Calls Tryz.prog 156 #[.pointer (some ⟨r, 0, none⟩)] w fun e w' => e = .returned (.tuple #[V, .int .i64 e3]) ∧ Q w')
    (hq : ∀ w', Q w' → e3 = 0 → w'.cell? ⟨r, 1, none⟩ = some (.int .i64 q)) (hd : ∀ w' n, Q w' → Q (w'.drewN n)) :
    Calls Tryz.prog 155 #[.pointer (some ⟨r, 0, none⟩), .func (.func 156) #[.pointer (some ⟨r, 0, none⟩)] #[]] w fun e w' => e = .returned (.tuple #[if e3 = 0 then V else .int .u64 0, .int .i64 (if e3 = 0 then q else 0), .int .i64 e3]) ∧ Q w' := by
  have HQ : Hid (∀ w', Q w' → e3 = 0 → w'.cell? ⟨r, 1, none⟩ = some (.int .i64 q)) := hq
  have HD : Hid (∀ w' n, Q w' → Q (w'.drewN n)) := hd
  have HCC : Hid (Calls Tryz.prog 156 #[.pointer (some ⟨r, 0, none⟩)] w fun e w' => e = .returned (.tuple #[V, .int .i64 e3]) ∧ Q w') := HC
  clear hq hd HC
  by_cases h3 : e3 = 0
  · rw [if_pos h3, if_pos h3]
    have HE : Hid (e3 = 0) := h3
    have hb3 : (e3 != 0) = false := by simpa using h3
    clear h3
    go_enter Tryz.func155, Tryz.ntmps155
    go_wp2_with fail
    refine HCC.out.mono ?_
    rintro e w1 ⟨rfl, hw1⟩
    have HW : Hid (Q w1) := hw1
    have hc := HQ.out w1 hw1 HE.out
    clear hw1
    go_wp2
    go_quiet (fail)
    go_wp2
    go_ret3
    exact ⟨by rw [HE.out]; rfl, HD.out _ _ HW.out⟩
  · rw [if_neg h3, if_neg h3]
    have hb3 : (e3 != 0) = true := by simpa using h3
    clear h3
    go_enter Tryz.func155, Tryz.ntmps155
    go_wp2_with fail
    refine HCC.out.mono ?_
    rintro e w1 ⟨rfl, hw1⟩
    have HW : Hid (Q w1) := hw1
    clear hw1
    go_wp2
    go_ret3
    exact ⟨rfl, HW.out⟩
theorem read_s (r : Nat) (V : Value) (q e3 : Int) (w : World) (Q : World → Prop) (HC : Calls Tryz.prog 154 #[.pointer (some ⟨r, 0, none⟩)] w fun e w' => e = .returned (.tuple #[V, .int .i64 e3]) ∧ Q w')
    (hq : ∀ w', Q w' → e3 = 0 → w'.cell? ⟨r, 1, none⟩ = some (.int .i64 q)) (hd : ∀ w' n, Q w' → Q (w'.drewN n)) :
    Calls Tryz.prog 153 #[.pointer (some ⟨r, 0, none⟩), .func (.func 154) #[.pointer (some ⟨r, 0, none⟩)] #[]] w fun e w' => e = .returned (.tuple #[if e3 = 0 then V else .string ⟨#[]⟩, .int .i64 (if e3 = 0 then q else 0), .int .i64 e3]) ∧ Q w' := by
  have HQ : Hid (∀ w', Q w' → e3 = 0 → w'.cell? ⟨r, 1, none⟩ = some (.int .i64 q)) := hq
  have HD : Hid (∀ w' n, Q w' → Q (w'.drewN n)) := hd
  have HCC : Hid (Calls Tryz.prog 154 #[.pointer (some ⟨r, 0, none⟩)] w fun e w' => e = .returned (.tuple #[V, .int .i64 e3]) ∧ Q w') := HC
  clear hq hd HC
  by_cases h3 : e3 = 0
  · rw [if_pos h3, if_pos h3]
    have HE : Hid (e3 = 0) := h3
    have hb3 : (e3 != 0) = false := by simpa using h3
    clear h3
    go_enter Tryz.func153, Tryz.ntmps153
    go_wp2_with fail
    refine HCC.out.mono ?_
    rintro e w1 ⟨rfl, hw1⟩
    have HW : Hid (Q w1) := hw1
    have hc := HQ.out w1 hw1 HE.out
    clear hw1
    go_wp2
    go_quiet (fail)
    go_wp2
    go_ret3
    exact ⟨by rw [HE.out]; rfl, HD.out _ _ HW.out⟩
  · rw [if_neg h3, if_neg h3]
    have hb3 : (e3 != 0) = true := by simpa using h3
    clear h3
    go_enter Tryz.func153, Tryz.ntmps153
    go_wp2_with fail
    refine HCC.out.mono ?_
    rintro e w1 ⟨rfl, hw1⟩
    have HW : Hid (Q w1) := hw1
    clear hw1
    go_wp2
    go_ret3
    exact ⟨rfl, HW.out⟩
theorem f_uint (a : Option Addr) (zs : List Int) (L cap : Nat) (p r1 r2 r3 : Int) (w : World) (hr : Rd w a zs) (hL : zs.length = L) (hcap : L ≤ cap) (hz : (L : Int) ≤ 140737488355000) (hR : uintR zs p = (r1, r2, r3)) :
    Calls Tryz.prog 123 #[.slice a L cap, .int .i64 p] w fun e w' => e = .returned (.tuple #[.int .u64 r1, .int .i64 r2, .int .i64 r3]) ∧ w.grownBy w' none := by
  have hmf : ∀ (fn : Fn) (first cap : Array Value) (w : World), (Instr.makeFunc fn first cap).run Tryz.prog w = .ok (.func fn first cap) w := fun _ _ _ _ => rfl
  have HN := g_num w.heap.size a zs L cap p r1 r2 r3 (w.alloc (.cells #[.slice a L cap, .int .i64 p] 174)) (at_new w a L cap p) (hr.grown (World.grownBy_alloc w _ none) (by simp)) hL hcap hz hR
  have HC : Hid (Calls Tryz.prog 155 #[.pointer (some ⟨w.heap.size, 0, none⟩), .func (.func 156) #[.pointer (some ⟨w.heap.size, 0, none⟩)] #[]] (w.alloc (.cells #[.slice a L cap, .int .i64 p] 174)) fun e w' => e = .returned (.tuple #[.int .u64 r1, .int .i64 r2, .int .i64 r3]) ∧ w.grownBy w' none) := by
    refine (read_u w.heap.size _ r2 r3 _ _ HN (fun w' h h3 => (h.2 h3).place) (fun w' n h => ⟨gb_drewR h.1 n, fun h3 => (h.2 h3).draw n⟩)).mono ?_
    rintro e w' ⟨rfl, h, _⟩
    refine ⟨?_, gb_reader h⟩
    by_cases h3 : r3 = 0
    · rw [if_pos h3, if_pos h3]
    · rw [if_neg h3, if_neg h3, (uintR_err hR h3).1, (uintR_err hR h3).2]
  clear HN hr hL hR
  go_enter Tryz.func123, Tryz.ntmps123
  go_wp2_with fail
  refine HC.out.mono ?_
  rintro e w' ⟨rfl, hg⟩
  have HG : Hid (w.grownBy w' none) := hg
  clear hg
  go_wp2
  go_ret3
  exact ⟨rfl, HG.out⟩
theorem f_putuint (a : Option Addr) (zs : List Int) (L cap : Nat) (v : Int) (w : World) (hr : Rd w a zs) (hL : zs.length = L) (hnil : a = none → cap = 0) (hz : L ≤ 140737488355000) (hv : 0 ≤ v ∧ v ≤ 18446744073709551615) :
    Calls Tryz.prog 72 #[.slice a L cap, .int .u64 v] w fun e w' => ∃ g c N, e = .returned (.slice (some ⟨g, 0, none⟩) N c) ∧ Own w' w.heap.size g N c (zs ++ enc v.toNat) ∧ w.grownBy w' none := by
  have HC := g_number v w hv
  have HY : Hid ((enc v.toNat).length ≤ 10 ∧ 1 ≤ (enc v.toNat).length) := ⟨enc_len v.toNat (by omega), enc_len_pos _⟩
  generalize enc v.toNat = Y at HC HY ⊢
  have HJ : Hid (∀ g1 c1 N1 w1, Own w1 w.heap.size g1 N1 c1 Y → w.grownBy w1 none → ∀ t, Calls Tryz.prog 70 #[.slice (some ⟨w1.heap.size, 0, none⟩) 2 2] (w1.alloc (.cells #[.slice a L cap, .slice (some ⟨g1, 0, none⟩) N1 c1] t)) fun e w' => ∃ g c N, e = .returned (.slice (some ⟨g, 0, none⟩) N c) ∧ Own w' w.heap.size g N c (zs ++ Y) ∧ w.grownBy w' none) := by
    intro g1 c1 N1 w1 ho hg t
    have hl := ho.len
    have hy := HY.out
    refine (g_join [⟨a, L, cap, zs⟩, ⟨some ⟨g1, 0, none⟩, N1, c1, Y⟩] 2 w1 t _ rfl rfl (by omega) ?_ (by simp [total]; omega) (by simp [total]; omega)).mono ?_
    · intro p hp
      simp only [List.mem_cons, List.mem_nil_iff, or_false] at hp
      rcases hp with rfl | rfl
      · exact ⟨hr.grown hg (by simp), hL, hnil⟩
      · exact ⟨ho.rd, ho.len, by simp⟩
    · rintro e w' ⟨g, c, N, rfl, ho', hg'⟩
      refine ⟨g, c, N, rfl, ?_, hg.trans hg'⟩
      have := ho'.base hg.size
      simpa [joined] using this
  clear hr hL hnil HY
  go_enter Tryz.func72, Tryz.ntmps72
  go_wp2_with fail
  refine HC.mono ?_
  rintro e w1 ⟨g1, c1, N1, rfl, ho1, hg1⟩
  have HO1 : Hid (Own w1 w.heap.size g1 N1 c1 Y) := ho1
  have HG1 : Hid (w.grownBy w1 none) := hg1
  clear ho1 hg1
  go_wp2_with (go_at_call 70; refine (HJ.out _ _ _ _ HO1.out HG1.out _).mono ?_; rintro e w2 ⟨g2, c2, N2, rfl, ho2, hg2⟩)
  go_ret
  exact ⟨g2, c2, N2, rfl, ho2, hg2⟩
theorem f_puttext (a : Option Addr) (zs : List Int) (L cap : Nat) (s : ByteArray) (w : World) (hr : Rd w a zs) (hL : zs.length = L) (hnil : a = none → cap = 0) (hz : L + s.size ≤ 140737488355000) :
    Calls Tryz.prog 71 #[.slice a L cap, .string s] w fun e w' => ∃ g c N, e = .returned (.slice (some ⟨g, 0, none⟩) N c) ∧ Own w' w.heap.size g N c (zs ++ enc s.size ++ sInts s) ∧ w.grownBy w' none := by
  have HC := g_number (s.size : Int) w (by omega)
  rw [Int.toNat_natCast] at HC
  have HY : Hid ((enc s.size).length ≤ 10 ∧ 1 ≤ (enc s.size).length) := ⟨enc_len s.size (by omega), enc_len_pos _⟩
  generalize enc s.size = Y at HC HY ⊢
  have HJ : Hid (∀ g1 c1 N1 w1 c2 w2, Own w1 w.heap.size g1 N1 c1 Y → w.grownBy w1 none → w1.grownBy w2 none → Rd w2 (some ⟨w1.heap.size, 0, none⟩) (sInts s) → ∀ t, Calls Tryz.prog 70 #[.slice (some ⟨w2.heap.size, 0, none⟩) 3 3] (w2.alloc (.cells #[.slice a L cap, .slice (some ⟨g1, 0, none⟩) N1 c1, .slice (some ⟨w1.heap.size, 0, none⟩) s.size c2] t)) fun e w' => ∃ g c N, e = .returned (.slice (some ⟨g, 0, none⟩) N c) ∧ Own w' w.heap.size g N c (zs ++ Y ++ sInts s) ∧ w.grownBy w' none) := by
    intro g1 c1 N1 w1 c2 w2 ho hg hg12 hrd t
    have hl := ho.len
    have hy := HY.out
    have hgg := hg.trans hg12
    refine (g_join [⟨a, L, cap, zs⟩, ⟨some ⟨g1, 0, none⟩, N1, c1, Y⟩, ⟨some ⟨w1.heap.size, 0, none⟩, s.size, c2, sInts s⟩] 3 w2 t _ rfl rfl (by omega) ?_ (by simp [total]; omega) (by simp [total]; omega)).mono ?_
    · intro p hp
      simp only [List.mem_cons, List.mem_nil_iff, or_false] at hp
      rcases hp with rfl | rfl | rfl
      · exact ⟨hr.grown hgg (by simp), hL, hnil⟩
      · exact ⟨ho.rd.grown hg12 (by simp), ho.len, by simp⟩
      · exact ⟨hrd, sInts_len s, by simp⟩
    · rintro e w' ⟨g, c, N, rfl, ho', hg'⟩
      refine ⟨g, c, N, rfl, ?_, hgg.trans hg'⟩
      have := ho'.base hgg.size
      simpa [joined] using this
  clear hr hL hnil HY
  go_enter Tryz.func71, Tryz.ntmps71
  go_wp2_with fail
  refine HC.mono ?_
  rintro e w1 ⟨g1, c1, N1, rfl, ho1, hg1⟩
  have HO1 : Hid (Own w1 w.heap.size g1 N1 c1 Y) := ho1
  have HG1 : Hid (w.grownBy w1 none) := hg1
  obtain ⟨C, w2, hcv, hrd, hg12⟩ := conv_text w1 s
  have HRD : Hid (Rd w2 (some ⟨w1.heap.size, 0, none⟩) (sInts s)) := hrd
  have HG12 : Hid (w1.grownBy w2 none) := hg12
  clear ho1 hg1 hrd hg12
  go_wp2_with (go_at_call 70; refine (HJ.out _ _ _ _ _ _ HO1.out HG1.out HG12.out HRD.out _).mono ?_; rintro e w3 ⟨g2, c2, N2, rfl, ho2, hg2⟩)
  go_ret
  exact ⟨g2, c2, N2, rfl, ho2, hg2⟩
theorem g_text (r : Nat) (a : Option Addr) (zs : List Int) (L cap : Nat) (p : Int) (s : ByteArray) (r2 r3 : Int) (w : World) (h : At w r a L cap p) (hr : Rd w a zs) (hne : 0 < L → ∀ x, a = some x → x.block ≠ r) (hL : zs.length = L) (hcap : L ≤ cap) (hz : (L : Int) ≤ 140737488355000) (hR : textR zs p = (s, r2, r3)) :
    Calls Tryz.prog 154 #[.pointer (some ⟨r, 0, none⟩)] w fun e w' => e = .returned (.tuple #[.string s, .int .i64 r3]) ∧ w.grownBy w' (some r) ∧ (r3 = 0 → At w' r a L cap r2) := by
  obtain ⟨u1, u2, u3, hU⟩ : ∃ u1 u2 u3, uintR zs p = (u1, u2, u3) := ⟨_, _, _, rfl⟩
  have HC := g_num r a zs L cap p u1 u2 u3 w h hr hL hcap hz hU
  unfold textR at hR
  rw [hU] at hR
  by_cases h3 : u3 = 0
  · subst h3
    have hok := uintR_ok hr.byte hU
    obtain ⟨k, rfl⟩ := Int.eq_ofNat_of_zero_le (show 0 ≤ u2 by omega)
    obtain ⟨n, rfl⟩ := Int.eq_ofNat_of_zero_le (show 0 ≤ u1 by omega)
    simp only [if_true] at hR
    have HRG : Hid (∀ w1, w.grownBy w1 (some r) → Rd w1 a zs) := fun w1 hg => hr.grown hg (fun x hx e => hne (by omega) x hx (Option.some.inj e))
    by_cases hlt : (zs.length : Int) - (k : Int) < (n : Int)
    · rw [if_pos hlt] at hR
      simp only [Prod.mk.injEq] at hR
      obtain ⟨rfl, rfl, rfl⟩ := hR
      have HN : Hid (∀ w1, At w1 r a L cap k → Calls Tryz.prog 175 #[.pointer (some ⟨r, 0, none⟩), .int .u64 n] w1 fun e w' => e = .returned (.tuple #[.slice none 0 0, .int .i64 20]) ∧ w1.grownBy w' none) := fun w1 ha => next_end r a L cap k n w1 ha hz (by omega) (by omega) (by omega)
      have hcv : ∀ w, (convert 37 9 (.slice none 0 0)).run Tryz.prog w = .ok (.string ⟨#[]⟩) w := fun w => conv_rd w none [] 0 0 ⟨.inl rfl, by simp⟩ rfl
      clear hlt hok hr hU hL h hne
      go_enter Tryz.func154, Tryz.ntmps154
      go_wp2_with fail
      refine HC.mono ?_
      rintro e w1 ⟨rfl, hg, ha⟩
      have HG : Hid (w.grownBy w1 (some r)) := hg
      have HA : Hid (At w1 r a L cap k) := (show At w1 r a L cap k by simpa using ha)
      clear ha hg
      go_wp2_with fail
      refine (HN.out w1 HA.out).mono ?_
      rintro e w2 ⟨rfl, hg2⟩
      have HG2 : Hid (w.grownBy w2 (some r)) := gb_trans HG.out hg2 (by simp)
      clear hg2
      go_wp2
      go_ret2
      exact ⟨rfl, HG2.out, fun h => by omega⟩
    · rw [if_neg hlt] at hR
      simp only [Prod.mk.injEq, Int.toNat_natCast] at hR
      obtain ⟨rfl, rfl, rfl⟩ := hR
      have HN : Hid (∀ w1, At w1 r a L cap k → w.grownBy w1 (some r) → Calls Tryz.prog 175 #[.pointer (some ⟨r, 0, none⟩), .int .u64 n] w1 fun e w' => ∃ v, e = .returned (.tuple #[.slice v n (cap - k), .int .i64 0]) ∧ Rd w' v ((zs.drop k).take n) ∧ w1.grownBy w' (some r) ∧ At w' r a L cap (k + n : Nat)) := fun w1 ha hg => next_ok r a zs L cap k n w1 ha (HRG.out w1 hg) (hne (by omega)) hL hcap hz (by omega)
      have HLn : Hid (((zs.drop k).take n).length = n) := by show _ = _; rw [List.length_take, List.length_drop]; omega
      generalize (zs.drop k).take n = X at HN HLn ⊢
      clear hlt hok hr hU hL h hne HRG
      go_enter Tryz.func154, Tryz.ntmps154
      go_wp2_with fail
      refine HC.mono ?_
      rintro e w1 ⟨rfl, hg, ha⟩
      have HG : Hid (w.grownBy w1 (some r)) := hg
      have HA : Hid (At w1 r a L cap k) := (show At w1 r a L cap k by simpa using ha)
      clear ha hg
      go_wp2_with fail
      refine (HN.out w1 HA.out HG.out).mono ?_
      rintro e w2 ⟨v, rfl, hrd, hg2, ha2⟩
      have HG2 : Hid (w.grownBy w2 (some r)) := gb_trans HG.out hg2 (fun k hk => .inr hk)
      have HA2 : Hid (At w2 r a L cap (k + n : Nat)) := ha2
      have hcv := conv_rd w2 v X n (cap - k) hrd HLn.out
      clear hg2 ha2 hrd
      go_wp2
      go_ret2
      exact ⟨rfl, HG2.out, fun _ => by have := HA2.out; rwa [Int.natCast_add] at this⟩
  · rw [if_neg h3] at hR
    simp only [Prod.mk.injEq] at hR
    obtain ⟨rfl, rfl, rfl⟩ := hR
    have hb3 : (u3 != 0) = true := by simpa using h3
    have HE : Hid (u3 ≠ 0) := h3
    clear hr hL hU h3 h
    go_enter Tryz.func154, Tryz.ntmps154
    go_wp2_with fail
    refine HC.mono ?_
    rintro e w1 ⟨rfl, hg, _⟩
    have HG : Hid (w.grownBy w1 (some r)) := hg
    clear hg
    go_wp2
    go_ret2
    exact ⟨rfl, HG.out, fun h => absurd h HE.out⟩
theorem f_text (a : Option Addr) (zs : List Int) (L cap : Nat) (p : Int) (s : ByteArray) (r2 r3 : Int) (w : World) (hr : Rd w a zs) (hL : zs.length = L) (hcap : L ≤ cap) (hz : (L : Int) ≤ 140737488355000) (hR : textR zs p = (s, r2, r3)) :
    Calls Tryz.prog 122 #[.slice a L cap, .int .i64 p] w fun e w' => e = .returned (.tuple #[.string s, .int .i64 r2, .int .i64 r3]) ∧ w.grownBy w' none := by
  have hmf : ∀ (fn : Fn) (first cap : Array Value) (w : World), (Instr.makeFunc fn first cap).run Tryz.prog w = .ok (.func fn first cap) w := fun _ _ _ _ => rfl
  have HN := g_text w.heap.size a zs L cap p s r2 r3 (w.alloc (.cells #[.slice a L cap, .int .i64 p] 174)) (at_new w a L cap p) (hr.grown (World.grownBy_alloc w _ none) (by simp)) (fresh_ne hr hL) hL hcap hz hR
  have HC : Hid (Calls Tryz.prog 153 #[.pointer (some ⟨w.heap.size, 0, none⟩), .func (.func 154) #[.pointer (some ⟨w.heap.size, 0, none⟩)] #[]] (w.alloc (.cells #[.slice a L cap, .int .i64 p] 174)) fun e w' => e = .returned (.tuple #[.string s, .int .i64 r2, .int .i64 r3]) ∧ w.grownBy w' none) := by
    refine (read_s w.heap.size _ r2 r3 _ _ HN (fun w' h h3 => (h.2 h3).place) (fun w' n h => ⟨gb_drewR h.1 n, fun h3 => (h.2 h3).draw n⟩)).mono ?_
    rintro e w' ⟨rfl, h, _⟩
    refine ⟨?_, gb_reader h⟩
    by_cases h3 : r3 = 0
    · rw [if_pos h3, if_pos h3]
    · rw [if_neg h3, if_neg h3, (textR_err hR h3).1, (textR_err hR h3).2]
  clear HN hr hL hR
  go_enter Tryz.func122, Tryz.ntmps122
  go_wp2_with fail
  refine HC.out.mono ?_
  rintro e w' ⟨rfl, hg⟩
  have HG : Hid (w.grownBy w' none) := hg
  clear hg
  go_wp2
  go_ret3
  exact ⟨rfl, HG.out⟩
end Go.Proofs.YtgpgkpciajajcaaGreatDoor

