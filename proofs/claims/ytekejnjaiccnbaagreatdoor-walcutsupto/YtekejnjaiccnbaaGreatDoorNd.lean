/- Several texts in one: Za, Zb, Zc. -/
import Derived.Test.YtekejnjaiccnbaaGreatDoorNc
/- A log's files, when the power goes. (No program's numbers.) -/
namespace Go.Proofs.YtekejnjaiccnbaaGreatDoor
open Go.RowKit Go.Maps Go.Sort
set_option linter.unusedVariables false
set_option maxRecDepth 20000

/-- What is synced of a log: all segments but the last one, and of that its first j records; so safe records at least. -/
def Sy (V : Cont) (dir : ByteArray) (Ls : Sg) (safe : Nat) : Prop := (Ls = [] ∧ safe = 0) ∨ ∃ (L0 : Sg) (k : Nat) (rl : List (List Int)) (j : Nat), Ls = L0 ++ [(k, rl)] ∧ (∀ q ∈ L0, V (segN dir q.1) = some (logB frameR q.2, (logB frameR q.2).length)) ∧ V (segN dir k) = some (logB frameR rl, (logB frameR (rl.take j)).length) ∧ j ≤ rl.length ∧ safe ≤ (recsOf L0).length + j
/-- A beginning of a file is some records, and a part of a frame. -/
theorem log_part : ∀ (rl : List (List Int)) (j m : Nat), (logB frameR (rl.take j)).length ≤ m → m ≤ (logB frameR rl).length → j ≤ rl.length →
    ∃ i, j ≤ i ∧ i ≤ rl.length ∧ ((logB frameR rl).take m = logB frameR (rl.take i) ∨ ∃ r ∈ rl, ∃ t, 0 < t ∧ t < (frameR r).length ∧ (logB frameR rl).take m = logB frameR (rl.take i) ++ (frameR r).take t)
  | [], j, m, hj, hm, hl => by
    have h0 : m = 0 := by simpa [logB] using hm
    subst h0
    exact ⟨0, by simpa using hl, Nat.le_refl _, .inl (by simp [logB])⟩
  | r :: rl, j, m, hj, hm, hl => by
    have hp := framing.pos r
    rw [logB_cons, List.length_append] at hm
    by_cases hlt : m < (frameR r).length
    · have hj0 : j = 0 := by
        rcases Nat.eq_zero_or_pos j with h | h
        · exact h
        · exfalso
          obtain ⟨j', rfl⟩ : ∃ j', j = j' + 1 := ⟨j - 1, by omega⟩
          rw [List.take_succ_cons, logB_cons, List.length_append] at hj
          omega
      subst hj0
      refine ⟨0, Nat.le_refl _, Nat.zero_le _, ?_⟩
      by_cases h0 : m = 0
      · subst h0
        exact .inl (by simp [logB])
      · refine .inr ⟨r, by simp, m, by omega, hlt, ?_⟩
        rw [logB_cons, List.take_append_of_le_length (by omega)]
        simp [logB]
    · have e1 : (frameR r ++ logB frameR rl).take m = frameR r ++ (logB frameR rl).take (m - (frameR r).length) := by
        rw [List.take_append, List.take_of_length_le (by omega)]
      have hj1 : (logB frameR (rl.take (j - 1))).length ≤ m - (frameR r).length := by
        rcases Nat.eq_zero_or_pos j with h | h
        · subst h; simp [logB]
        · obtain ⟨j', rfl⟩ : ∃ j', j = j' + 1 := ⟨j - 1, by omega⟩
          rw [List.take_succ_cons, logB_cons, List.length_append] at hj
          simp only [Nat.add_sub_cancel]
          omega
      obtain ⟨i, h1, h2, h3⟩ := log_part rl (j - 1) (m - (frameR r).length) hj1 (by omega) (by simp at hl; omega)
      refine ⟨i + 1, by omega, by simp; omega, ?_⟩
      rw [logB_cons, e1, List.take_succ_cons, logB_cons]
      rcases h3 with h3 | ⟨r', hr', t, ht0, ht1, h3⟩
      · exact .inl (by rw [h3])
      · exact .inr ⟨r', by simp [hr'], t, ht0, ht1, by rw [h3, List.append_assoc]⟩
/-- The files behind a power cut. -/
def lostV (kp : Int) (V : Cont) : Cont := fun t => (V t).map (cutV kp)
theorem lost_isSome (kp : Int) (V : Cont) (t : ByteArray) : (lostV kp V t).isSome = (V t).isSome := by
  unfold lostV
  cases V t <;> rfl
theorem lost_folder {V : Cont} {dir : ByteArray} {cps segs : List Nat} {draft : Bool} (kp : Int) (h : Folder V dir cps draft segs) : Folder (lostV kp V) dir cps draft segs :=
  ⟨h.cpr, h.segr, fun t => by rw [lost_isSome]; exact h.mem t⟩
theorem lost_synced {V : Cont} {s : ByteArray} {z : List Int} (kp : Int) (h : V s = some (z, z.length)) : lostV kp V s = some (z, z.length) := by
  unfold lostV
  rw [h]
  have h1 := keptN_le kp (z.length - z.length)
  have h2 : keptN kp (z.length - z.length) = 0 := by omega
  show some (cutV kp (z, z.length)) = _
  unfold cutV
  simp only [h2, Nat.add_zero, List.take_length]
theorem lost_none {V : Cont} {s : ByteArray} (kp : Int) (h : V s = none) : lostV kp V s = none := by
  unfold lostV
  rw [h]
  rfl
/-- What stands in a folder behind a power cut: it is whole, or its last segment is torn. -/
def PowerLog (V : Cont) (dir : ByteArray) (rs : List (List Int)) (M : Nat) : Prop :=
  (∃ LL : Sg, Log V dir none LL ∧ recsOf LL = rs ∧ LL.length ≤ M) ∨ ∃ (Ls0 LL : Sg) (kl : Nat) (rl : List (List Int)) (tl : List Int) (sl : Nat), TornLog V dir none Ls0 LL kl rl tl sl ∧ tl ≠ [] ∧ (logB frameR rl).length ≤ 69639 ∧ recsOf LL = rs ∧ LL.length ≤ M
theorem logB_take_len (rl : List (List Int)) (i : Nat) : (logB frameR (rl.take i)).length ≤ (logB frameR rl).length := by
  conv => rhs; rw [← List.take_append_drop i rl, logB_app, List.length_append]
  omega
theorem power_log {V : Cont} {dir : ByteArray} {Ls : Sg} {safe : Nat} (kp : Int) (h : Log V dir none Ls) (hs : Sy V dir Ls safe) (hg : ∀ q ∈ Ls, Good q) : ∃ R, safe ≤ R ∧ R ≤ (recsOf Ls).length ∧ PowerLog (lostV kp V) dir ((recsOf Ls).take R) Ls.length := by
  rcases hs with ⟨rfl, rfl⟩ | ⟨L0, k, rl, j, rfl, h0, h1, hj, hsafe⟩
  · refine ⟨0, Nat.le_refl _, Nat.zero_le _, .inl ⟨[], ⟨lost_folder kp h.folder, rfl, (fun q hq => by cases hq), (fun q hq => by cases hq), h.big⟩, rfl, Nat.le_refl _⟩⟩
  · have hw := h.whole (k, rl) (by simp)
    have hrise := h.rise
    have hlen := (hg (k, rl) (by simp)).2
    dsimp only at hw hlen
    obtain ⟨m, em⟩ : ∃ m, m = (logB frameR (rl.take j)).length + keptN kp ((logB frameR rl).length - (logB frameR (rl.take j)).length) := ⟨_, rfl⟩
    have hk := keptN_le kp ((logB frameR rl).length - (logB frameR (rl.take j)).length)
    have hjl := logB_take_len rl j
    obtain ⟨i, hi1, hi2, hi3⟩ := log_part rl j m (by omega) (by omega) hj
    have hV : lostV kp V (segN dir k) = some ((logB frameR rl).take m, m) := by
      unfold lostV
      rw [h1, em]
      rfl
    have hw0 : Whole (lostV kp V) dir L0 := fun q hq => by
      have := h.whole q (by simp [hq])
      exact ⟨⟨_, lost_synced kp (h0 q hq)⟩, this.2.1, this.2.2⟩
    have hri : ∀ r ∈ rl.take i, r.length ≤ 65536 := fun r hr => hw.2.1 r (List.mem_of_mem_take hr)
    have hmap : (L0 ++ [(k, rl.take i)]).map Prod.fst = (L0 ++ [(k, rl)]).map Prod.fst := by simp
    have hfold : Folder (lostV kp V) dir (cpNums none) false ((L0 ++ [(k, rl.take i)]).map Prod.fst) := by
      rw [hmap]
      exact lost_folder kp h.folder
    have habove : ∀ q ∈ L0 ++ [(k, rl.take i)], lastN none < q.1 := fun q hq => by
      rcases List.mem_append.1 hq with hq | hq
      · exact h.above q (by simp [hq])
      · simp only [List.mem_singleton] at hq
        subst hq
        exact h.above (k, rl) (by simp)
    have hrec : recsOf (L0 ++ [(k, rl.take i)]) = (recsOf (L0 ++ [(k, rl)])).take ((recsOf L0).length + i) := by
      unfold recsOf
      rw [List.flatMap_append, List.flatMap_append]
      simp only [List.flatMap_cons, List.flatMap_nil, List.append_nil]
      rw [List.take_length_add_append]
    have hlenR : (recsOf (L0 ++ [(k, rl)])).length = (recsOf L0).length + rl.length := by
      unfold recsOf
      rw [List.flatMap_append]
      simp
    refine ⟨(recsOf L0).length + i, by omega, by rw [hlenR]; omega, ?_⟩
    rw [← hrec]
    rcases hi3 with hi3 | ⟨r, hr, t, ht0, ht1, hi3⟩
    · refine .inl ⟨L0 ++ [(k, rl.take i)], ⟨hfold, rfl, fun q hq => ?_, habove, h.big⟩, rfl, by simp⟩
      rcases List.mem_append.1 hq with hq | hq
      · exact hw0 q hq
      · simp only [List.mem_singleton] at hq
        subst hq
        exact ⟨⟨m, by rw [hV, hi3]⟩, hri, hw.2.2⟩
    · have htl : (frameR r).take t ≠ [] := fun e => by
        have := congrArg List.length e
        rw [List.length_take] at this
        simp only [List.length_nil] at this
        omega
      refine .inr ⟨L0, L0 ++ [(k, rl.take i)], k, rl.take i, (frameR r).take t, m, ⟨rfl, hfold, rfl, hw0, by rw [hV, hi3], FileRecs.torn _ r t hri (hw.2.1 r hr) ht1, habove, h.big, hw.2.2, lost_none kp h.noNew⟩, htl, Nat.le_trans (logB_take_len rl i) hlen, rfl, by simp⟩
/-- A write of a disk that is on: it is done, or the power goes. -/
theorem wr_cases (x : DSt) (hon : x.off = false) (hok : x.ok) (hw : x.wn ≤ 999999990) (l : Bool) (V : Cont) :
    (∃ y : DSt, x.wr l V = (0, y) ∧ y.V = V ∧ y.off = false ∧ y.ok ∧ y.wn = x.wn + 1) ∨ x.wr l V = (60, ⟨true, false, 0, 0, x.wn + 1, lostV x.kp (if l = true then V else x.V)⟩) := by
  obtain ⟨h1, h2, h3⟩ := hok
  unfold DSt.wr
  by_cases hs : x.set = false
  · rw [if_pos hs]
    exact .inl ⟨_, rfl, rfl, hon, ⟨by dsimp only; omega, by dsimp only; rw [hs]; simp, h3⟩, rfl⟩
  · rw [if_neg hs]
    have hs' : x.set = true := by simpa using hs
    have h4 := h2 hs'
    by_cases h0 : x.ah = 0
    · rw [if_pos h0]
      exact .inr rfl
    · rw [if_neg h0]
      exact .inl ⟨_, rfl, rfl, hon, ⟨by dsimp only; omega, fun _ => by dsimp only; omega, h3⟩, rfl⟩
/-- The same disk, not armed. -/
def DSt.calmed (x : DSt) : DSt := { x with off := false, set := false }
theorem calmed_calm (x : DSt) (h : x.ok) : x.calmed.Calm := ⟨rfl, rfl, ⟨h.1, (fun h => by cases h), h.2.2⟩⟩
end Go.Proofs.YtekejnjaiccnbaaGreatDoor

/- An armed disk's log: what Append and Sync make of it. (No program's numbers.) -/
namespace Go.Proofs.YtekejnjaiccnbaaGreatDoor
open Go.RowKit Go.Maps Go.Sort
set_option linter.unusedVariables false
set_option maxRecDepth 20000

theorem take_logB {rl : List (List Int)} {j : Nat} (h : j ≤ rl.length) (r : List Int) : (rl ++ [r]).take j = rl.take j := List.take_append_of_le_length h
theorem sy_add {x : DSt} {dir : ByteArray} {Ls : Sg} {rec : List Int} {safe : Nat} (h : Log x.V dir none Ls) (hc : x.Calm) (hw : x.wn ≤ 999999980) (hop : openN none Ls < 99999998) (hs : Sy x.V dir Ls safe) : Sy (appX x dir (openN none Ls) rec).V dir (addL none Ls rec) safe := by
  rcases hs with ⟨rfl, rfl⟩ | ⟨L0, k, rl, j, rfl, h0, h1, hj, hsafe⟩
  · have hopn : openN none ([] : Sg) = 1 := rfl
    have hV : x.V (segN dir 1) = none := by
      cases hV : x.V (segN dir 1) with
      | none => rfl
      | some v =>
        exfalso
        have := (h.folder.mem (segN dir 1)).1 ⟨by rw [hV]; rfl, seg_in dir _⟩
        unfold namesL at this
        simp [cpNums] at this
    have hroll : rollX x dir 1 = (x, 1) := by unfold rollX; rw [hV]
    have happ : (appX x dir 1 rec).V = setV x.V (segN dir 1) (some (frameR rec, 0)) := by
      unfold appX
      rw [hroll, calm_app x hc]
      have : oldV x.V (segN dir 1) = ([], 0) := by unfold oldV; rw [hV]; rfl
      rw [this, List.nil_append]
    rw [hopn, happ]
    exact .inr ⟨[], 1, [rec], 0, rfl, fun q hq => (by cases hq), by rw [setV_same, logB_one]; rfl, Nat.zero_le _, Nat.zero_le _⟩
  · have hopn : openN none (L0 ++ [(k, rl)]) = k := openN_snoc none L0 (k, rl)
    rw [hopn] at hop ⊢
    have hw8 := (h.whole (k, rl) (by simp)).2.2
    dsimp only at hw8
    have hlow := h.rise
    have hlast : (L0 ++ [(k, rl)]).getLast? = some (k, rl) := by simp
    have hne : ∀ q ∈ L0, segN dir q.1 ≠ segN dir k := fun q hq e => by
      have h8 := (h.whole q (by simp [hq])).2.2
      have := hlow q hq
      have := seg_inj dir h8 hw8 e
      dsimp only at *
      omega
    by_cases hbig : 4096 ≤ (logB frameR rl).length
    · have hsy := calm_sync x hc (segN dir k) _ h1
      have hroll : rollX x dir k = ({ x with wn := x.wn + 1, V := setV x.V (segN dir k) (some (logB frameR rl, (logB frameR rl).length)) }, k + 1) := by
        unfold rollX
        rw [h1]
        dsimp only
        rw [if_pos hbig, hsy]
      have hc1 := calm_next x hc (by omega) (setV x.V (segN dir k) (some (logB frameR rl, (logB frameR rl).length)))
      have hne1 : segN dir (k + 1) ≠ segN dir k := fun e => by have := seg_inj dir (by omega) (by omega) e; omega
      have hne2 : ∀ q ∈ L0, segN dir q.1 ≠ segN dir (k + 1) := fun q hq e => by
        have h8 := (h.whole q (by simp [hq])).2.2
        have := hlow q hq
        have := seg_inj dir h8 (by omega) e
        dsimp only at *
        omega
      have hV2 : setV x.V (segN dir k) (some (logB frameR rl, (logB frameR rl).length)) (segN dir (k + 1)) = none := by
        rw [setV_other _ _ hne1]
        cases hV3 : x.V (segN dir (k + 1)) with
        | none => rfl
        | some v =>
          exfalso
          have := (h.folder.mem (segN dir (k + 1))).1 ⟨by rw [hV3]; rfl, seg_in dir _⟩
          unfold namesL at this
          simp only [cpNums, List.map_nil, Bool.false_eq_true, if_false, List.nil_append, List.mem_map] at this
          obtain ⟨i, hi, e⟩ := this
          obtain ⟨p, hp, rfl⟩ := hi
          rcases List.mem_append.1 hp with hp | hp
          · exact hne2 p hp e
          · simp only [List.mem_singleton] at hp
            subst hp
            exact hne1 e.symm
      have hold : oldV (setV x.V (segN dir k) (some (logB frameR rl, (logB frameR rl).length))) (segN dir (k + 1)) = ([], 0) := by unfold oldV; rw [hV2]; rfl
      have happ : (appX x dir k rec).V = setV (setV x.V (segN dir k) (some (logB frameR rl, (logB frameR rl).length))) (segN dir (k + 1)) (some (frameR rec, 0)) := by
        unfold appX
        rw [hroll]
        dsimp only
        rw [calm_app _ hc1, hold, List.nil_append]
      have hadd : addL none (L0 ++ [(k, rl)]) rec = (L0 ++ [(k, rl)]) ++ [(k + 1, [rec])] := by unfold addL; rw [hlast]; exact if_pos hbig
      rw [happ, hadd]
      refine .inr ⟨L0 ++ [(k, rl)], k + 1, [rec], 0, rfl, fun q hq => ?_, by rw [setV_same, logB_one]; rfl, Nat.zero_le _, ?_⟩
      · rcases List.mem_append.1 hq with hq | hq
        · rw [setV_other _ _ (hne2 q hq), setV_other _ _ (hne q hq)]
          exact h0 q hq
        · simp only [List.mem_singleton] at hq
          subst hq
          rw [setV_other _ _ hne1.symm, setV_same]
      · have : (recsOf (L0 ++ [(k, rl)])).length = (recsOf L0).length + rl.length := by
          unfold recsOf
          rw [List.flatMap_append]
          simp
        omega
    · have hroll : rollX x dir k = (x, k) := by
        unfold rollX
        rw [h1]
        exact if_neg hbig
      have hold : oldV x.V (segN dir k) = (logB frameR rl, (logB frameR (rl.take j)).length) := by unfold oldV; rw [h1]; rfl
      have happ : (appX x dir k rec).V = setV x.V (segN dir k) (some (logB frameR (rl ++ [rec]), (logB frameR (rl.take j)).length)) := by
        unfold appX
        rw [hroll]
        dsimp only
        rw [calm_app _ hc, hold, logB_app, logB_one]
      have hadd : addL none (L0 ++ [(k, rl)]) rec = L0 ++ [(k, rl ++ [rec])] := by
        unfold addL
        rw [hlast]
        dsimp only
        rw [if_neg hbig]
        simp
      rw [happ, hadd]
      refine .inr ⟨L0, k, rl ++ [rec], j, rfl, fun q hq => ?_, by rw [setV_same, take_logB hj], by simp; omega, hsafe⟩
      rw [setV_other _ _ (hne q hq)]
      exact h0 q hq
/-- What rolls as if nothing were armed. -/
theorem roll_calmed (x : DSt) (dir : ByteArray) (op : Nat) : (rollX x dir op).2 = (rollX x.calmed dir op).2 := by
  unfold rollX
  show (match x.V (segN dir op) with | none => (x, op) | some q => if 4096 ≤ q.1.length then ((x.sync (segN dir op)).2, op + 1) else (x, op)).2 = (match x.V (segN dir op) with | none => (x.calmed, op) | some q => if 4096 ≤ q.1.length then ((x.calmed.sync (segN dir op)).2, op + 1) else (x.calmed, op)).2
  cases x.V (segN dir op) with
  | none => rfl
  | some q =>
    dsimp only
    split <;> rfl
/-- What Append comes to, on a disk that may be armed. -/
inductive AppCase (x : DSt) (dir : ByteArray) (Ls : Sg) (rec : List Int) (safe : Nat) : Prop
  /-- The power goes when the full segment is synced. -/
  | roll (q : List Int × Nat) (hV : x.V (segN dir (openN none Ls)) = some q) (hbig : 4096 ≤ q.1.length) (hs : x.sync (segN dir (openN none Ls)) = (60, ⟨true, false, 0, 0, x.wn + 1, lostV x.kp x.V⟩)) : AppCase x dir Ls rec safe
  /-- It goes when the record is written, or doesn't. -/
  | write (c : Int) (y : DSt) (hsy : ∀ q, x.V (segN dir (openN none Ls)) = some q → 4096 ≤ q.1.length → (x.sync (segN dir (openN none Ls))).1 = 0) (hon : (rollX x dir (openN none Ls)).1.off = false) (hok : (rollX x dir (openN none Ls)).1.ok) (hap : (rollX x dir (openN none Ls)).1.append (segN dir (rollX x dir (openN none Ls)).2) (frameR rec) = (c, y))
      (hy : (c = 0 ∧ y.off = false ∧ y.ok ∧ Log y.V dir none (addL none Ls rec) ∧ Sy y.V dir (addL none Ls rec) safe) ∨ (c = 60 ∧ ∃ kp V wn, y = ⟨true, false, 0, 0, wn, lostV kp V⟩ ∧ Log V dir none (addL none Ls rec) ∧ Sy V dir (addL none Ls rec) safe)) (hwn : x.wn ≤ y.wn ∧ y.wn ≤ x.wn + 2)
      (segs : segsX (Ls.map Prod.fst) (rollX x dir (openN none Ls)).2 = (addL none Ls rec).map Prod.fst) (op : (rollX x dir (openN none Ls)).2 = openN none (addL none Ls rec)) (room : (oldV (rollX x dir (openN none Ls)).1.V (segN dir (rollX x dir (openN none Ls)).2)).1.length < 4096) : AppCase x dir Ls rec safe
theorem app_case {x : DSt} {dir : ByteArray} {Ls : Sg} {rec : List Int} {safe : Nat} (h : Log x.V dir none Ls) (hon : x.off = false) (hok : x.ok) (hw : x.wn ≤ 999999980) (hr : rec.length ≤ 65536) (hop : openN none Ls < 99999998) (hs : Sy x.V dir Ls safe) : AppCase x dir Ls rec safe := by
  have hcc := calmed_calm x hok
  have hA := log_add (x := x.calmed) (rec := rec) h hcc hw hr hop
  have hS := sy_add (x := x.calmed) (rec := rec) h hcc hw hop hs
  have hR2 := roll_calmed x dir (openN none Ls)
  have hseg := hA.segs
  have hopA := hA.op
  rw [← hR2] at hseg hopA
  -- behind the roll
  have key : ∀ (hsy : ∀ q, x.V (segN dir (openN none Ls)) = some q → 4096 ≤ q.1.length → (x.sync (segN dir (openN none Ls))).1 = 0) (h1 : (rollX x dir (openN none Ls)).1.off = false) (h2 : (rollX x dir (openN none Ls)).1.ok) (h3 : x.wn ≤ (rollX x dir (openN none Ls)).1.wn ∧ (rollX x dir (openN none Ls)).1.wn ≤ x.wn + 1) (h4 : (rollX x dir (openN none Ls)).1.V = (rollX x.calmed dir (openN none Ls)).1.V) (h5 : (rollX x.calmed dir (openN none Ls)).1.Calm), AppCase x dir Ls rec safe := by
    intro hsy h1 h2 h3 h4 h5
    have hroom := hA.room
    rw [← h4, ← hR2] at hroom
    have eV : (appX x.calmed dir (openN none Ls) rec).V = setV (rollX x dir (openN none Ls)).1.V (segN dir (rollX x dir (openN none Ls)).2) (some ((oldV (rollX x dir (openN none Ls)).1.V (segN dir (rollX x dir (openN none Ls)).2)).1 ++ frameR rec, (oldV (rollX x dir (openN none Ls)).1.V (segN dir (rollX x dir (openN none Ls)).2)).2)) := by
      unfold appX
      rw [calm_app _ h5, ← h4, ← hR2]
    have hlog := hA.log
    rw [eV] at hlog hS
    obtain ⟨V1, eV1⟩ : ∃ V1, V1 = setV (rollX x dir (openN none Ls)).1.V (segN dir (rollX x dir (openN none Ls)).2) (some ((oldV (rollX x dir (openN none Ls)).1.V (segN dir (rollX x dir (openN none Ls)).2)).1 ++ frameR rec, (oldV (rollX x dir (openN none Ls)).1.V (segN dir (rollX x dir (openN none Ls)).2)).2)) := ⟨_, rfl⟩
    rw [← eV1] at hlog hS
    have hap : (rollX x dir (openN none Ls)).1.append (segN dir (rollX x dir (openN none Ls)).2) (frameR rec) = (rollX x dir (openN none Ls)).1.wr true V1 := by
      unfold DSt.append
      rw [h1, eV1]
      rfl
    rcases wr_cases _ h1 h2 (by omega) true V1 with ⟨y, e, y1, y2, y3, y4⟩ | e
    · exact .write 0 y hsy h1 h2 (hap.trans e) (.inl ⟨rfl, y2, y3, by rw [y1]; exact hlog, by rw [y1]; exact hS⟩) (by omega) hseg hopA hroom
    · exact .write 60 _ hsy h1 h2 (hap.trans e) (.inr ⟨rfl, _, V1, _, rfl, hlog, hS⟩) (by dsimp only; omega) hseg hopA hroom
  cases hV : x.V (segN dir (openN none Ls)) with
  | none =>
    have e1 : rollX x dir (openN none Ls) = (x, openN none Ls) := by unfold rollX; rw [hV]
    have e2 : rollX x.calmed dir (openN none Ls) = (x.calmed, openN none Ls) := by unfold rollX; rw [show x.calmed.V (segN dir (openN none Ls)) = none from hV]
    refine key (fun q hq => by rw [hV] at hq; cases hq) (by rw [e1]; exact hon) (by rw [e1]; exact hok) (by rw [e1]; dsimp only; omega) (by rw [e1, e2]; rfl) (by rw [e2]; exact hcc)
  | some q =>
    by_cases hbig : 4096 ≤ q.1.length
    · have hsync : x.sync (segN dir (openN none Ls)) = x.wr false (setV x.V (segN dir (openN none Ls)) (some (q.1, q.1.length))) := by
        unfold DSt.sync
        rw [hon, hV]
        rfl
      have e1 : rollX x dir (openN none Ls) = ((x.sync (segN dir (openN none Ls))).2, openN none Ls + 1) := by unfold rollX; rw [hV]; exact if_pos hbig
      have hcs := calm_sync x.calmed hcc (segN dir (openN none Ls)) q hV
      have e2 : rollX x.calmed dir (openN none Ls) = ((x.calmed.sync (segN dir (openN none Ls))).2, openN none Ls + 1) := by unfold rollX; rw [show x.calmed.V (segN dir (openN none Ls)) = some q from hV]; exact if_pos hbig
      rcases wr_cases x hon hok (by omega) false (setV x.V (segN dir (openN none Ls)) (some (q.1, q.1.length))) with ⟨y, e, y1, y2, y3, y4⟩ | e
      · rw [e] at hsync
        refine key (fun _ _ _ => by rw [hsync]) (by rw [e1, hsync]; exact y2) (by rw [e1, hsync]; exact y3) (by rw [e1, hsync]; dsimp only; omega) (by rw [e1, e2, hsync, hcs]; exact y1) (by rw [e2, hcs]; exact calm_next x.calmed hcc (by show x.wn ≤ _; omega) _)
      · exact .roll q hV hbig (hsync.trans e)
    · have e1 : rollX x dir (openN none Ls) = (x, openN none Ls) := by unfold rollX; rw [hV]; exact if_neg hbig
      have e2 : rollX x.calmed dir (openN none Ls) = (x.calmed, openN none Ls) := by unfold rollX; rw [show x.calmed.V (segN dir (openN none Ls)) = some q from hV]; exact if_neg hbig
      exact key (fun q' hq' hb => by rw [hV] at hq'; cases hq'; exact absurd hb hbig) (by rw [e1]; exact hon) (by rw [e1]; exact hok) (by rw [e1]; dsimp only; omega) (by rw [e1, e2]; rfl) (by rw [e2]; exact hcc)
/-- What Sync comes to. -/
theorem sync_case {x : DSt} {dir : ByteArray} {Ls : Sg} {safe : Nat} (h : Log x.V dir none Ls) (hon : x.off = false) (hok : x.ok) (hw : x.wn ≤ 999999980) (hs : Sy x.V dir Ls safe) :
    ((isOpen (Ls.map Prod.fst) (openN none Ls) = true → (x.sync (segN dir (openN none Ls))).1 = 0) ∧ (syncX x dir (Ls.map Prod.fst) (openN none Ls)).off = false ∧ (syncX x dir (Ls.map Prod.fst) (openN none Ls)).ok ∧ Log (syncX x dir (Ls.map Prod.fst) (openN none Ls)).V dir none Ls ∧ Sy (syncX x dir (Ls.map Prod.fst) (openN none Ls)).V dir Ls (recsOf Ls).length ∧ (syncX x dir (Ls.map Prod.fst) (openN none Ls)).wn ≤ x.wn + 1 ∧ x.wn ≤ (syncX x dir (Ls.map Prod.fst) (openN none Ls)).wn) ∨
    (isOpen (Ls.map Prod.fst) (openN none Ls) = true ∧ x.sync (segN dir (openN none Ls)) = (60, ⟨true, false, 0, 0, x.wn + 1, lostV x.kp x.V⟩)) := by
  rcases hs with ⟨rfl, rfl⟩ | ⟨L0, k, rl, j, rfl, h0, h1, hj, hsafe⟩
  · have e : isOpen ([] : List Nat) (openN none []) = false := by simp [isOpen]
    left
    unfold syncX
    rw [List.map_nil, e]
    simp only [Bool.false_eq_true, if_false, false_implies, true_and]
    exact ⟨hon, hok, h, .inl ⟨rfl, rfl⟩, by omega, by omega⟩
  · have hopn : openN none (L0 ++ [(k, rl)]) = k := openN_snoc none L0 (k, rl)
    have hmap : (L0 ++ [(k, rl)]).map Prod.fst = L0.map Prod.fst ++ [k] := by simp
    have hio : isOpen ((L0 ++ [(k, rl)]).map Prod.fst) k = true := by rw [hmap]; exact isOpen_snoc _ _
    have hcc := calmed_calm x hok
    have hls := log_sync (x := x.calmed) h hcc hw
    rw [hopn] at hls ⊢
    have hsync : x.sync (segN dir k) = x.wr false (setV x.V (segN dir k) (some (logB frameR rl, (logB frameR rl).length))) := by
      unfold DSt.sync
      rw [hon, h1]
      rfl
    have hcs := calm_sync x.calmed hcc (segN dir k) _ h1
    have hlog : Log (setV x.V (segN dir k) (some (logB frameR rl, (logB frameR rl).length))) dir none (L0 ++ [(k, rl)]) := by
      have := hls.1
      unfold syncX at this
      rw [if_pos hio, hcs] at this
      exact this
    have hlow := h.rise
    have hw8 := (h.whole (k, rl) (by simp)).2.2
    rcases wr_cases x hon hok (by omega) false (setV x.V (segN dir k) (some (logB frameR rl, (logB frameR rl).length))) with ⟨y, e, y1, y2, y3, y4⟩ | e
    · left
      rw [e] at hsync
      unfold syncX
      rw [if_pos hio, hsync]
      refine ⟨fun _ => rfl, y2, y3, by rw [y1]; exact hlog, ?_, by dsimp only; omega, by dsimp only; omega⟩
      rw [y1]
      refine .inr ⟨L0, k, rl, rl.length, rfl, fun q hq => ?_, by rw [setV_same, List.take_length], Nat.le_refl _, ?_⟩
      · rw [setV_other _ _ (fun e' => ?_)]
        · exact h0 q hq
        · have h8 := (h.whole q (by simp [hq])).2.2
          have := hlow q hq
          have := seg_inj dir h8 hw8 e'
          dsimp only at *
          omega
      · unfold recsOf
        rw [List.flatMap_append]
        simp
    · exact .inr ⟨hio, hsync.trans e⟩
end Go.Proofs.YtekejnjaiccnbaaGreatDoor

/- Package wal: what is thrown is caught, where something is thrown. -/
namespace Go.Proofs.YtekejnjaiccnbaaGreatDoor
open Go.RowKit Go.Maps Go.Sort
set_option linter.unusedVariables false
set_option maxRecDepth 20000

/-- done throws that. -/
def thrown (c : Int) : List PanicEntry := [{ v := .iface 37 (.int .i64 c), recovered := false }]
theorem w_doneP (c : Int) (hc : c ≠ 0) (w : World) : Calls Tryz.prog 52 #[.int .i64 c] w fun e w' => e = .panicked (thrown c) ∧ w = w' := by
  have q0 : (c != 0) = true := by simp [hc]
  go_enter Tryz.func52, Tryz.ntmps52
  go_wp2
  exact ⟨rfl, rfl, rfl⟩
set_option maxHeartbeats 4000000 in
theorem w_catch (c : Nat) (x : Int) (older : List PanicEntry) (w : World) (hc : w.cell? ⟨c, 0, none⟩ = some (.int .i64 0)) (hz : w.frozen? ⟨c, 0, none⟩ = false) :
    CallsD Tryz.prog 89 #[.pointer (some ⟨c, 0, none⟩)] (.panicking ({ v := .iface 37 (.int .i64 x), recovered := false } :: older)) w fun e u' w' =>
      e = .returned (.tuple #[]) ∧ u' = .panicking ({ v := .iface 37 (.int .i64 x), recovered := true } :: older) ∧ w' = w.setCell ⟨c, 0, none⟩ (.int .i64 x) := by
  refine callsD_of_wpS Tryz.func89 rfl fun c₀ cs hu => ?_
  have hta := run_thrown x
  apply wpS_seq
  apply wpS_region
  simp [wpOpsS, go_sem, recoverD, hu, Tryz.ntmps89, Exit.thenS]
  refine wpS_of_wp ?_
  refine wp_block ?_
  go_wp2
  cases c₀
  simp_all [bodyPostS, results, Tryz.results89]
set_option maxHeartbeats 4000000 in
theorem w_caughtP47 (caps : Array Value) (x : Int) (P : World → Prop) (w : World)
    (hcl : Calls Tryz.prog 47 caps (w.alloc (.cells #[.int .i64 0] 37)) fun e w' => e = .panicked (thrown x) ∧ P w' ∧ w'.cell? ⟨w.heap.size, 0, none⟩ = some (.int .i64 0) ∧ w'.frozen? ⟨w.heap.size, 0, none⟩ = false) :
    Calls Tryz.prog 43 #[.func (.func 47) #[] caps] w fun e w' => e = .returned (.int .i64 x) ∧ ∃ w1, P w1 ∧ w' = w1.setCell ⟨w.heap.size, 0, none⟩ (.int .i64 x) := by
  have hmf : ∀ (fn : Fn) (first cap : Array Value) (w : World), (Instr.makeFunc fn first cap).run Tryz.prog w = .ok (.func fn first cap) w := fun _ _ _ _ => rfl
  go_enter_defers Tryz.func43, Tryz.ntmps43
  go_wp2_with fail
  refine hcl.mono ?_
  rintro e w1 ⟨rfl, hp, hc, hz⟩
  have HP : Hid (P w1) := hp
  clear hp hcl
  unfold thrown
  go_wp2
  refine leaves_cons (f := 89) (args := #[.pointer (some ⟨w.heap.size, 0, none⟩)]) (by simp) (by simp [go_sem]) ?_
  refine (w_catch w.heap.size x [] _ hc hz).mono ?_
  rintro e u' w'' ⟨rfl, rfl, rfl⟩
  have hcs : (w1.setCell ⟨w.heap.size, 0, none⟩ (.int .i64 x)).cell? ⟨w.heap.size, 0, none⟩ = some (.int .i64 x) := World.cell?_setCell_same' w1 _ _ (by rw [hc]; rfl)
  simp [Go.Leaves, settle, results, Tryz.results43, go_sem, hcs]
  exact ⟨w1, HP.out, rfl⟩
end Go.Proofs.YtekejnjaiccnbaaGreatDoor

