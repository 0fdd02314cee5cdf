/- What Cut makes of a log's folder. (No program's numbers.) -/
import Derived.Test.YtbhffjeoakalbaaGreatDoorWx
namespace Go.Proofs.YtbhffjeoakalbaaGreatDoor
open Go.RowKit Go.Maps Go.Sort
set_option linter.unusedVariables false
set_option maxRecDepth 20000

theorem del_all : ∀ (l : List ByteArray) (x : DSt), x.Calm → x.wn + l.length ≤ 999999990 → l.Nodup → (∀ s ∈ l, (x.V s).isSome = true ∧ nameB s = true) →
    DelOk x l ∧ (delAll x l).Calm ∧ (delAll x l).wn = x.wn + l.length ∧ ∀ t, (t ∈ l → (delAll x l).V t = none) ∧ (t ∉ l → (delAll x l).V t = x.V t)
  | [], x, hc, _, _, _ => ⟨trivial, hc, by simp [delAll], fun t => ⟨fun h => absurd h (by simp), fun _ => rfl⟩⟩
  | s :: l, x, hc, hw, hn, hs => by
    obtain ⟨h1, h2⟩ := hs s (by simp)
    obtain ⟨q, hq⟩ := Option.isSome_iff_exists.1 h1
    have hd := calm_del x hc s q hq
    have hc1 := calm_next x hc (by simp at hw; omega) (setV x.V s none)
    rw [List.nodup_cons] at hn
    have ih := del_all l { x with wn := x.wn + 1, V := setV x.V s none } hc1 (by simp at hw ⊢; omega) hn.2 (fun t ht => by
      have hne : t ≠ s := fun e => hn.1 (by rw [← e]; exact ht)
      refine ⟨?_, (hs t (by simp [ht])).2⟩
      show (setV x.V s none t).isSome = true
      rw [setV_other _ _ hne]
      exact (hs t (by simp [ht])).1)
    have e : delAll x (s :: l) = delAll { x with wn := x.wn + 1, V := setV x.V s none } l := by
      show delAll (x.delete s).2 l = _
      rw [hd]
    rw [e]
    refine ⟨⟨by rw [hd], hc.ok, h2, by rw [hd]; exact ih.1⟩, ih.2.1, ?_, fun t => ⟨fun ht => ?_, fun ht => ?_⟩⟩
    · rw [ih.2.2.1]; simp; omega
    · by_cases htl : t ∈ l
      · exact (ih.2.2.2 t).1 htl
      · have hts : t = s := by simpa [htl] using ht
        rw [(ih.2.2.2 t).2 htl, hts]
        exact setV_same _ _ _
    · simp only [List.mem_cons, not_or] at ht
      rw [(ih.2.2.2 t).2 ht.2]
      exact setV_other _ _ ht.1
theorem Log.noNew {V : Cont} {dir : ByteArray} {K : Option (Nat × List (List Int))} {Ls : List (Nat × List (List Int))} (h : Log V dir K Ls) : V (newN dir) = none := by
  cases hV : V (newN dir) with
  | none => rfl
  | some v =>
    exfalso
    have := (h.folder.mem (newN dir)).1 ⟨by rw [hV]; rfl, new_in dir⟩
    unfold namesL at this
    simp only [Bool.false_eq_true, if_false, List.nil_append, List.mem_append, List.mem_map] at this
    rcases this with ⟨j, _, e⟩ | ⟨j, _, e⟩
    · exact cp_ne_new dir _ e
    · exact new_ne_seg dir _ e.symm
theorem Log.seen {V : Cont} {dir : ByteArray} {K : Option (Nat × List (List Int))} {Ls : List (Nat × List (List Int))} (h : Log V dir K Ls) {s : ByteArray} (hs : s ∈ namesL dir (cpNums K) false (Ls.map Prod.fst)) : (V s).isSome = true := ((h.folder.mem s).2 hs).1
/-- What a cut deletes: the older checkpoint and the segments. -/
theorem olds_eq (dir : ByteArray) (K : Option (Nat × List (List Int))) (Ls : List (Nat × List (List Int))) : (if cpName dir K = ⟨#[]⟩ then [] else [cpName dir K]) ++ (Ls.map Prod.fst).map (segN dir) = namesL dir (cpNums K) false (Ls.map Prod.fst) := by
  unfold namesL
  cases K with
  | none => simp [cpName, cpNums]
  | some q =>
    have hne : cpN dir q.1 ≠ ⟨#[]⟩ := fun e => by
      have := congrArg ByteArray.size e
      rw [cpN, bN_size] at this
      simp [d8_len] at this
      have h2 : ByteArray.size ⟨#[]⟩ = 0 := rfl
      omega
    simp [cpName, cpNums, hne]
theorem openN_gt {V : Cont} {dir : ByteArray} {K : Option (Nat × List (List Int))} {Ls : List (Nat × List (List Int))} (h : Log V dir K Ls) : lastN K < openN K Ls := by
  rcases List.eq_nil_or_concat Ls with rfl | ⟨L0, q, rfl⟩
  · exact Nat.lt_succ_self _
  · rw [List.concat_eq_append] at *
    rw [openN_snoc]
    exact h.above q (by simp)
theorem log_cut {x : DSt} {dir : ByteArray} {K : Option (Nat × List (List Int))} {Ls : List (Nat × List (List Int))} {recs : List (List Int)} (h : Log x.V dir K Ls) (hdir : dirB dir = true) (hc : x.Calm) (hw : x.wn + Ls.length ≤ 999999900) (hr : ∀ r ∈ recs, r.length ≤ 65536) (hop : openN K Ls < 99999998) :
    DelOk (putX x dir (cpN dir (openN K Ls)) (logB frameR recs)) ((if cpName dir K = ⟨#[]⟩ then [] else [cpName dir K]) ++ (Ls.map Prod.fst).map (segN dir)) ∧ Log (cutX x dir (cpName dir K) (Ls.map Prod.fst) (openN K Ls) (logB frameR recs)).V dir (some (openN K Ls, recs)) [] ∧ (cutX x dir (cpName dir K) (Ls.map Prod.fst) (openN K Ls) (logB frameR recs)).Calm ∧ (cutX x dir (cpName dir K) (Ls.map Prod.fst) (openN K Ls) (logB frameR recs)).wn ≤ x.wn + 4 + Ls.length ∧ ∀ t, Lib.hasPrefix t.data.toList (inN dir).data.toList = false → (cutX x dir (cpName dir K) (Ls.map Prod.fst) (openN K Ls) (logB frameR recs)).V t = x.V t := by
  have hput := putX_eq x hc (by omega) dir (cpN dir (openN K Ls)) (logB frameR recs) h.noNew
  have hgt := openN_gt h
  have hl := names_lt dir false h.folder.cpr h.folder.segr
  have hnd : (namesL dir (cpNums K) false (Ls.map Prod.fst)).Nodup := hl.imp (fun hab => ba_ne hab)
  have hlen : (namesL dir (cpNums K) false (Ls.map Prod.fst)).length ≤ 1 + Ls.length := by
    rw [names_len]
    cases K <;> simp [cpNums, dl]
  -- none of what is deleted is the new checkpoint, nor the draft
  have hnm : ∀ s ∈ namesL dir (cpNums K) false (Ls.map Prod.fst), s ≠ cpN dir (openN K Ls) ∧ s ≠ newN dir ∧ nameB s = true := by
    intro s hs
    unfold namesL at hs
    simp only [Bool.false_eq_true, if_false, List.nil_append, List.mem_append, List.mem_map] at hs
    rcases hs with ⟨j, hj, rfl⟩ | ⟨j, _, rfl⟩
    · refine ⟨fun e => ?_, cp_ne_new dir j, cp_name hdir j⟩
      have h8 := h.folder.cpr.2 j hj
      have e2 := cp_inj dir h8 (by omega) e
      cases K with
      | none => cases hj
      | some q =>
        have hjq : j = q.1 := by simpa [cpNums] using hj
        have : lastN (some q) = q.1 := rfl
        omega
    · exact ⟨(cp_ne_seg dir _ _).symm, (new_ne_seg dir j).symm, seg_name hdir j⟩
  obtain ⟨y, ey⟩ : ∃ y, y = putX x dir (cpN dir (openN K Ls)) (logB frameR recs) := ⟨_, rfl⟩
  have hyc : y.Calm := by
    rw [ey, hput]
    obtain ⟨h1, h2, h3⟩ := hc.ok
    exact ⟨hc.on, hc.free, ⟨by dsimp only; omega, h2, h3⟩⟩
  have hyw : y.wn = x.wn + 3 := by rw [ey, hput]
  have hyV : ∀ t, t ≠ cpN dir (openN K Ls) → t ≠ newN dir → y.V t = x.V t := by
    intro t h1 h2
    rw [ey, hput]
    show setV (setV x.V _ _) _ _ t = _
    rw [setV_other _ _ h1, setV_other _ _ h2]
  have hyc2 : y.V (cpN dir (openN K Ls)) = some (logB frameR recs, (logB frameR recs).length) := by
    rw [ey, hput]
    exact setV_same _ _ _
  have hyn : y.V (newN dir) = none := by
    rw [ey, hput]
    show setV (setV x.V _ _) _ _ _ = _
    rw [setV_other _ _ (cp_ne_new dir _).symm, setV_same]
  obtain ⟨d1, d2, d3, d4⟩ := del_all (namesL dir (cpNums K) false (Ls.map Prod.fst)) y hyc (by rw [hyw]; omega) hnd (fun s hs => ⟨by rw [hyV s (hnm s hs).1 (hnm s hs).2.1]; exact h.seen hs, (hnm s hs).2.2⟩)
  have hcut : cutX x dir (cpName dir K) (Ls.map Prod.fst) (openN K Ls) (logB frameR recs) = delAll y (namesL dir (cpNums K) false (Ls.map Prod.fst)) := by
    unfold cutX
    rw [olds_eq, ey]
  rw [olds_eq, ← ey, hcut]
  have hcpin : cpN dir (openN K Ls) ∉ namesL dir (cpNums K) false (Ls.map Prod.fst) := fun hin => (hnm _ hin).1 rfl
  have hV1 : (delAll y (namesL dir (cpNums K) false (Ls.map Prod.fst))).V (cpN dir (openN K Ls)) = some (logB frameR recs, (logB frameR recs).length) := by rw [(d4 _).2 hcpin]; exact hyc2
  refine ⟨d1, ⟨⟨?_, ?_, fun s => ?_⟩, ?_, ?_, ?_, ?_⟩, d2, by rw [d3, hyw]; omega, fun t ht => ?_⟩
  · exact ⟨by simp [cpNums], fun k hk => by simp [cpNums] at hk; omega⟩
  · exact ⟨by simp, fun k hk => by cases hk⟩
  · constructor
    · rintro ⟨hs, hp⟩
      by_cases hin : s ∈ namesL dir (cpNums K) false (Ls.map Prod.fst)
      · rw [(d4 s).1 hin] at hs; cases hs
      · rw [(d4 s).2 hin] at hs
        by_cases e1 : s = cpN dir (openN K Ls)
        · subst e1; simp [namesL, cpNums]
        · exfalso
          by_cases e2 : s = newN dir
          · subst e2; rw [hyn] at hs; cases hs
          · rw [hyV s e1 e2] at hs
            exact hin ((h.folder.mem s).1 ⟨hs, hp⟩)
    · intro hs
      have e1 : s = cpN dir (openN K Ls) := by simpa [namesL, cpNums] using hs
      subst e1
      exact ⟨by rw [hV1]; rfl, cp_in dir _⟩
  · exact ⟨rfl, ⟨_, hV1⟩, hr, by dsimp only; omega⟩
  · intro p hp; cases hp
  · intro p hp; cases hp
  · show openN K Ls < 100000000
    omega
  · have h1 : t ∉ namesL dir (cpNums K) false (Ls.map Prod.fst) := fun hin => by
      have := ((h.folder.mem t).2 hin).2
      rw [ht] at this
      cases this
    rw [(d4 t).2 h1]
    refine hyV t (fun e => ?_) (fun e => ?_)
    · rw [e, cp_in] at ht; cases ht
    · rw [e, new_in] at ht; cases ht
end Go.Proofs.YtbhffjeoakalbaaGreatDoor
