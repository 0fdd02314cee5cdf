/- A log's folder, as its calls change it. (No program's numbers.) -/
import Derived.Test.YtbhffjeoakalbaaGreatDoorWv
namespace Go.Proofs.YtbhffjeoakalbaaGreatDoor
open Go.RowKit Go.Maps Go.Sort
set_option linter.unusedVariables false
set_option maxRecDepth 20000

theorem setV_isSome (V : Cont) (s : ByteArray) (q : List Int × Nat) (hs : (V s).isSome = true) (t : ByteArray) : (setV V s (some q) t).isSome = (V t).isSome := by
  by_cases e : t = s
  · subst e; rw [setV_same, hs]; rfl
  · rw [setV_other V _ e]
theorem Folder.set {V : Cont} {dir : ByteArray} {cps segs : List Nat} {draft : Bool} (h : Folder V dir cps draft segs) {s : ByteArray} (q : List Int × Nat) (hs : (V s).isSome = true) : Folder (setV V s (some q)) dir cps draft segs :=
  ⟨h.cpr, h.segr, fun t => by rw [setV_isSome V s q hs t]; exact h.mem t⟩
theorem rising_snoc {l : List Nat} {k : Nat} (h : Rising l) (hk : ∀ j ∈ l, j < k) (h8 : k < 100000000) : Rising (l ++ [k]) := by
  refine ⟨?_, fun j hj => ?_⟩
  · rw [List.pairwise_append]
    exact ⟨h.1, by simp, fun a ha b hb => by simp at hb; subst hb; exact hk a ha⟩
  · rcases List.mem_append.1 hj with h1 | h1
    · exact h.2 j h1
    · simp at h1; omega
theorem Folder.add {V : Cont} {dir : ByteArray} {cps segs : List Nat} {draft : Bool} (h : Folder V dir cps draft segs) {k : Nat} (q : List Int × Nat) (hk : ∀ j ∈ segs, j < k) (h8 : k < 100000000) : Folder (setV V (segN dir k) (some q)) dir cps draft (segs ++ [k]) := by
  refine ⟨h.cpr, rising_snoc h.segr hk h8, fun t => ?_⟩
  have e : namesL dir cps draft (segs ++ [k]) = namesL dir cps draft segs ++ [segN dir k] := by unfold namesL; simp
  rw [e, List.mem_append, ← h.mem t, List.mem_singleton]
  by_cases et : t = segN dir k
  · subst et
    rw [setV_same]
    simp [seg_in]
  · rw [setV_other V _ et]
    simp [et]
/-- A record more. -/
def addL (K : Option (Nat × List (List Int))) (Ls : List (Nat × List (List Int))) (rec : List Int) : List (Nat × List (List Int)) := match Ls.getLast? with
  | none => [(lastN K + 1, [rec])]
  | some q => if 4096 ≤ (logB frameR q.2).length then Ls ++ [(q.1 + 1, [rec])] else Ls.dropLast ++ [(q.1, q.2 ++ [rec])]
theorem recsOf_add (K : Option (Nat × List (List Int))) (Ls : List (Nat × List (List Int))) (rec : List Int) : recsOf (addL K Ls rec) = recsOf Ls ++ [rec] := by
  unfold addL
  cases h : Ls.getLast? with
  | none =>
    have : Ls = [] := List.getLast?_eq_none_iff.1 h
    subst this
    rfl
  | some q =>
    have e : Ls = Ls.dropLast ++ [q] := by
      obtain ⟨l, rfl⟩ := List.getLast?_eq_some_iff.1 h
      simp
    dsimp only
    split
    · unfold recsOf; rw [List.flatMap_append]; simp
    · conv => rhs; rw [e]
      unfold recsOf
      rw [List.flatMap_append, List.flatMap_append]
      simp
theorem logB_one (r : List Int) : logB frameR [r] = frameR r := by simp [logB]
/-- What Append does to a whole folder. -/
structure Added (x : DSt) (dir : ByteArray) (K : Option (Nat × List (List Int))) (Ls : List (Nat × List (List Int))) (rec : List Int) : Prop where
  log : Log (appX x dir (openN K Ls) rec).V dir K (addL K Ls rec)
  segs : segsX (Ls.map Prod.fst) (rollX x dir (openN K Ls)).2 = (addL K Ls rec).map Prod.fst
  op : (rollX x dir (openN K Ls)).2 = openN K (addL K Ls rec)
  room : (oldV (rollX x dir (openN K Ls)).1.V (segN dir (rollX x dir (openN K Ls)).2)).1.length < 4096
  calm : (appX x dir (openN K Ls) rec).Calm
  wn : (appX x dir (openN K Ls) rec).wn ≤ x.wn + 2
theorem Whole.other {V : Cont} {dir : ByteArray} {L : List (Nat × List (List Int))} (h : Whole V dir L) {k : Nat} (hk : k < 100000000) (q : List Int × Nat) (hne : ∀ p ∈ L, p.1 ≠ k) : Whole (setV V (segN dir k) (some q)) dir L := fun p hp => by
  obtain ⟨⟨syn, h1⟩, h2, h3⟩ := h p hp
  refine ⟨⟨syn, ?_⟩, h2, h3⟩
  rw [setV_other V _ (fun e => hne p hp (seg_inj dir h3 hk e))]
  exact h1
theorem CpIs.other {V : Cont} {dir cp : ByteArray} {K : Option (Nat × List (List Int))} (h : CpIs V dir cp K) (k : Nat) (q : List Int × Nat) : CpIs (setV V (segN dir k) (some q)) dir cp K := by
  cases K with
  | none => exact h
  | some p =>
    obtain ⟨h1, ⟨syn, h2⟩, h3⟩ := h
    exact ⟨h1, ⟨syn, by rw [setV_other V _ (cp_ne_seg dir _ _)]; exact h2⟩, h3⟩
theorem Log.rise {V : Cont} {dir : ByteArray} {K : Option (Nat × List (List Int))} {L0 : List (Nat × List (List Int))} {q : Nat × List (List Int)} (h : Log V dir K (L0 ++ [q])) : ∀ p ∈ L0, p.1 < q.1 := by
  have h1 := h.folder.segr.1
  rw [List.map_append, List.pairwise_append] at h1
  intro p hp
  exact h1.2.2 p.1 (List.mem_map.2 ⟨p, hp, rfl⟩) q.1 (by simp)
theorem openN_snoc (K : Option (Nat × List (List Int))) (L : List (Nat × List (List Int))) (q : Nat × List (List Int)) : openN K (L ++ [q]) = q.1 := by
  unfold openN
  simp
theorem isOpen_snoc (l : List Nat) (k : Nat) : isOpen (l ++ [k]) k = true := by simp [isOpen]
theorem log_add {x : DSt} {dir : ByteArray} {K : Option (Nat × List (List Int))} {Ls : List (Nat × List (List Int))} {rec : List Int} (h : Log x.V dir K Ls) (hc : x.Calm) (hw : x.wn ≤ 999999980) (hr : rec.length ≤ 65536) (hop : openN K Ls < 99999998) : Added x dir K Ls rec := by
  rcases List.eq_nil_or_concat Ls with rfl | ⟨L0, q, rfl⟩
  · -- no segment yet
    have hopn : openN K [] = lastN K + 1 := rfl
    rw [hopn] at hop
    have hV : x.V (segN dir (lastN K + 1)) = none := by
      cases hV : x.V (segN dir (lastN K + 1)) with
      | none => rfl
      | some v =>
        exfalso
        have := (h.folder.mem (segN dir (lastN K + 1))).1 ⟨by rw [hV]; rfl, seg_in dir _⟩
        unfold namesL at this
        simp only [List.map_nil, Bool.false_eq_true, if_false, List.append_nil, List.mem_map] at this
        obtain ⟨j, _, e⟩ := this
        exact cp_ne_seg dir _ _ e
    have hroll : rollX x dir (lastN K + 1) = (x, lastN K + 1) := by unfold rollX; rw [hV]
    have happ : appX x dir (lastN K + 1) rec = { x with wn := x.wn + 1, V := setV x.V (segN dir (lastN K + 1)) (some (frameR rec, 0)) } := by
      unfold appX
      rw [hroll, calm_app x hc]
      have : oldV x.V (segN dir (lastN K + 1)) = ([], 0) := by unfold oldV; rw [hV]; rfl
      rw [this, List.nil_append]
    have hadd : addL K [] rec = [(lastN K + 1, [rec])] := rfl
    refine ⟨?_, ?_, ?_, ?_, ?_, ?_⟩
    · rw [hopn, happ, hadd]
      refine ⟨h.folder.add _ (by simp) (by omega), h.cp.other _ _, ?_, ?_, h.big⟩
      · intro p hp
        simp only [List.mem_singleton] at hp
        subst hp
        refine ⟨⟨0, ?_⟩, fun r hr' => by simp at hr'; subst hr'; exact hr, by dsimp only; omega⟩
        show setV x.V _ _ _ = _
        rw [setV_same, logB_one]
      · intro p hp
        simp only [List.mem_singleton] at hp
        subst hp
        dsimp only
        omega
    · rw [hopn, hroll, hadd]; rfl
    · rw [hopn, hroll, hadd]; rfl
    · rw [hopn, hroll]
      have : oldV x.V (segN dir (lastN K + 1)) = ([], 0) := by unfold oldV; rw [hV]; rfl
      rw [this]
      decide
    · rw [hopn, happ]; exact calm_next x hc (by omega) _
    · rw [hopn, happ]; dsimp only; omega
  · rw [List.concat_eq_append] at *
    have hopn : openN K (L0 ++ [q]) = q.1 := openN_snoc K L0 q
    rw [hopn] at hop
    obtain ⟨⟨syn, hV⟩, hqr, hq8⟩ := h.whole q (by simp)
    have hlow := h.rise
    have hlast : (L0 ++ [q]).getLast? = some q := by simp
    have hmap : (L0 ++ [q]).map Prod.fst = L0.map Prod.fst ++ [q.1] := by simp
    by_cases hbig : 4096 ≤ (logB frameR q.2).length
    · have hsy := calm_sync x hc (segN dir q.1) _ hV
      have hroll : rollX x dir q.1 = ({ x with wn := x.wn + 1, V := setV x.V (segN dir q.1) (some (logB frameR q.2, (logB frameR q.2).length)) }, q.1 + 1) := by
        unfold rollX
        rw [hV]
        dsimp only
        rw [if_pos hbig, hsy]
      have hc1 := calm_next x hc (by omega) (setV x.V (segN dir q.1) (some (logB frameR q.2, (logB frameR q.2).length)))
      have hne : segN dir (q.1 + 1) ≠ segN dir q.1 := fun e => by have := seg_inj dir (by omega) (by omega) e; omega
      have hV2 : setV x.V (segN dir q.1) (some (logB frameR q.2, (logB frameR q.2).length)) (segN dir (q.1 + 1)) = none := by
        rw [setV_other _ _ hne]
        cases hV3 : x.V (segN dir (q.1 + 1)) with
        | none => rfl
        | some v =>
          exfalso
          have := (h.folder.mem (segN dir (q.1 + 1))).1 ⟨by rw [hV3]; rfl, seg_in dir _⟩
          unfold namesL at this
          simp only [Bool.false_eq_true, if_false, List.nil_append, List.mem_append, List.mem_map] at this
          rcases this with ⟨j, _, e⟩ | ⟨j, ⟨p, hp, rfl⟩, e⟩
          · exact cp_ne_seg dir _ _ e
          · have h8 := h.folder.segr.2 p.1 (List.mem_map.2 ⟨p, by simpa using hp, rfl⟩)
            have e2 := seg_inj dir h8 (by omega) e
            rcases hp with hp | hp
            · have := hlow p hp; omega
            · simp at hp; subst hp; omega
      have hold : oldV (setV x.V (segN dir q.1) (some (logB frameR q.2, (logB frameR q.2).length))) (segN dir (q.1 + 1)) = ([], 0) := by unfold oldV; rw [hV2]; rfl
      have happ : appX x dir q.1 rec = { x with wn := x.wn + 1 + 1, V := setV (setV x.V (segN dir q.1) (some (logB frameR q.2, (logB frameR q.2).length))) (segN dir (q.1 + 1)) (some (frameR rec, 0)) } := by
        unfold appX
        rw [hroll]
        dsimp only
        rw [calm_app _ hc1, hold, List.nil_append]
      have hadd : addL K (L0 ++ [q]) rec = (L0 ++ [q]) ++ [(q.1 + 1, [rec])] := by unfold addL; rw [hlast]; exact if_pos hbig
      have hall : ∀ j ∈ (L0 ++ [q]).map Prod.fst, j < q.1 + 1 := by
        intro j hj
        obtain ⟨p, hp, rfl⟩ := List.mem_map.1 hj
        rcases List.mem_append.1 hp with hp | hp
        · have := hlow p hp; omega
        · simp at hp; subst hp; omega
      have hw1 : Whole (setV x.V (segN dir q.1) (some (logB frameR q.2, (logB frameR q.2).length))) dir (L0 ++ [q]) := by
        intro p hp
        obtain ⟨⟨s', h1⟩, h2, h3⟩ := h.whole p hp
        by_cases e : p.1 = q.1
        · have e2 : p = q := by
            rcases List.mem_append.1 hp with hp | hp
            · have := hlow p hp; omega
            · simpa using hp
          subst e2
          exact ⟨⟨_, setV_same _ _ _⟩, h2, h3⟩
        · exact ⟨⟨s', by rw [setV_other _ _ (fun e' => e (seg_inj dir h3 hq8 e'))]; exact h1⟩, h2, h3⟩
      refine ⟨?_, ?_, ?_, ?_, ?_, ?_⟩
      · rw [hopn, happ, hadd]
        refine ⟨?_, (h.cp.other _ _).other _ _, ?_, ?_, h.big⟩
        · have h5 := (h.folder.set (logB frameR q.2, (logB frameR q.2).length) (s := segN dir q.1) (by rw [hV]; rfl)).add (k := q.1 + 1) (frameR rec, 0) hall (by omega)
          rw [show ((L0 ++ [q]) ++ [(q.1 + 1, [rec])]).map Prod.fst = (L0 ++ [q]).map Prod.fst ++ [q.1 + 1] by simp]
          exact h5
        · intro p hp
          rcases List.mem_append.1 hp with hp | hp
          · exact hw1.other (k := q.1 + 1) (by omega) _ (fun p' hp' => by have := hall p'.1 (List.mem_map.2 ⟨p', hp', rfl⟩); omega) p hp
          · simp only [List.mem_singleton] at hp
            subst hp
            exact ⟨⟨0, by show setV _ _ _ _ = _; rw [setV_same, logB_one]⟩, fun r hr' => by simp at hr'; subst hr'; exact hr, by dsimp only; omega⟩
        · intro p hp
          rcases List.mem_append.1 hp with hp | hp
          · exact h.above p hp
          · simp only [List.mem_singleton] at hp
            subst hp
            have := h.above q (by simp)
            dsimp only
            omega
      · rw [hopn, hroll, hadd]
        dsimp only
        unfold segsX
        rw [if_neg]
        · simp
        · unfold isOpen
          rw [hmap]
          simp
      · rw [hopn, hroll, hadd, openN_snoc]
      · rw [hopn, hroll]
        dsimp only
        rw [hold]
        decide
      · rw [hopn, happ]
        exact calm_next _ hc1 (by dsimp only; omega) _
      · rw [hopn, happ]; dsimp only; omega
    · have hroll : rollX x dir q.1 = (x, q.1) := by
        unfold rollX
        rw [hV]
        exact if_neg hbig
      have hold : oldV x.V (segN dir q.1) = (logB frameR q.2, syn) := by unfold oldV; rw [hV]; rfl
      have happ : appX x dir q.1 rec = { x with wn := x.wn + 1, V := setV x.V (segN dir q.1) (some (logB frameR (q.2 ++ [rec]), syn)) } := by
        unfold appX
        rw [hroll]
        dsimp only
        rw [calm_app _ hc, hold, logB_app, logB_one]
      have hadd : addL K (L0 ++ [q]) rec = L0 ++ [(q.1, q.2 ++ [rec])] := by
        unfold addL
        rw [hlast]
        dsimp only
        rw [if_neg hbig]
        simp
      refine ⟨?_, ?_, ?_, ?_, ?_, ?_⟩
      · rw [hopn, happ, hadd]
        refine ⟨?_, h.cp.other _ _, ?_, ?_, h.big⟩
        · rw [show (L0 ++ [(q.1, q.2 ++ [rec])]).map Prod.fst = (L0 ++ [q]).map Prod.fst by simp]
          exact h.folder.set _ (by rw [hV]; rfl)
        · intro p hp
          rcases List.mem_append.1 hp with hp | hp
          · have h0 : Whole x.V dir L0 := fun p hp => h.whole p (by simp [hp])
            exact h0.other hq8 _ (fun p' hp' => by have := hlow p' hp'; omega) p hp
          · simp only [List.mem_singleton] at hp
            subst hp
            refine ⟨⟨syn, setV_same _ _ _⟩, fun r hr' => ?_, hq8⟩
            rcases List.mem_append.1 hr' with h5 | h5
            · exact hqr r h5
            · simp at h5; subst h5; exact hr
        · intro p hp
          rcases List.mem_append.1 hp with hp | hp
          · exact h.above p (by simp [hp])
          · simp only [List.mem_singleton] at hp
            subst hp
            exact h.above q (by simp)
      · rw [hopn, hroll, hadd]
        dsimp only
        unfold segsX
        rw [hmap, if_pos (isOpen_snoc _ _)]
        simp
      · rw [hopn, hroll, hadd, openN_snoc]
      · rw [hopn, hroll]
        dsimp only
        rw [hold]
        dsimp only
        omega
      · rw [hopn, happ]; exact calm_next x hc (by omega) _
      · rw [hopn, happ]; dsimp only; omega
/-- Sync keeps the log. -/
theorem log_sync {x : DSt} {dir : ByteArray} {K : Option (Nat × List (List Int))} {Ls : List (Nat × List (List Int))} (h : Log x.V dir K Ls) (hc : x.Calm) (hw : x.wn ≤ 999999980) : Log (syncX x dir (Ls.map Prod.fst) (openN K Ls)).V dir K Ls ∧ (syncX x dir (Ls.map Prod.fst) (openN K Ls)).Calm ∧ (syncX x dir (Ls.map Prod.fst) (openN K Ls)).wn ≤ x.wn + 1 ∧ (isOpen (Ls.map Prod.fst) (openN K Ls) = true → (x.sync (segN dir (openN K Ls))).1 = 0) := by
  rcases List.eq_nil_or_concat Ls with rfl | ⟨L0, q, rfl⟩
  · have : isOpen ([] : List Nat) (openN K []) = false := by simp [isOpen]
    unfold syncX
    rw [List.map_nil, this]
    simp only [Bool.false_eq_true, if_false, false_implies, and_true]
    exact ⟨h, hc, by omega⟩
  · rw [List.concat_eq_append] at *
    have hopn : openN K (L0 ++ [q]) = q.1 := openN_snoc K L0 q
    obtain ⟨⟨syn, hV⟩, hqr, hq8⟩ := h.whole q (by simp)
    have hlow := h.rise
    have hmap : (L0 ++ [q]).map Prod.fst = L0.map Prod.fst ++ [q.1] := by simp
    have hsy := calm_sync x hc (segN dir q.1) _ hV
    rw [hopn]
    unfold syncX
    rw [if_pos (by rw [hmap]; exact isOpen_snoc _ _), hsy]
    refine ⟨⟨h.folder.set _ (by rw [hV]; rfl), h.cp.other _ _, ?_, h.above, h.big⟩, calm_next x hc (by omega) _, by dsimp only; omega, fun _ => rfl⟩
    intro p hp
    obtain ⟨⟨s', h1⟩, h2, h3⟩ := h.whole p hp
    by_cases e : p.1 = q.1
    · have e2 : p = q := by
        rcases List.mem_append.1 hp with hp | hp
        · have := hlow p hp; omega
        · simpa using hp
      subst e2
      exact ⟨⟨_, setV_same _ _ _⟩, h2, h3⟩
    · exact ⟨⟨s', by show setV _ _ _ _ = _; rw [setV_other _ _ (fun e' => e (seg_inj dir h3 hq8 e'))]; exact h1⟩, h2, h3⟩
end Go.Proofs.YtbhffjeoakalbaaGreatDoor
