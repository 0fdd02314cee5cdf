/- Several texts in one: Wx, Wy, Wz. -/
import Derived.Test.YtekejnjaiccnbaaGreatDoorWv
/- A log's folder, as its calls change it. (No program's numbers.) -/
namespace Go.Proofs.YtekejnjaiccnbaaGreatDoor
open Go.RowKit Go.Maps Go.Sort
set_option linter.unusedVariables false
set_option maxRecDepth 20000

theorem setV_isSome (V : Cont) (s : ByteArray) (q : List Int × Nat) (hs : (V s).isSome = true) (t : ByteArray) : (setV V s (some q) t).isSome = (V t).isSome := by
  by_cases e : t = s
  · subst e; rw [setV_same, hs]; rfl
  · rw [setV_other V _ e]
theorem Folder.set {V : Cont} {dir : ByteArray} {cps segs : List Nat} {draft : Bool} (h : Folder V dir cps draft segs) {s : ByteArray} (q : List Int × Nat) (hs : (V s).isSome = true) : Folder (setV V s (some q)) dir cps draft segs :=
  ⟨h.cpr, h.segr, fun t => by rw [setV_isSome V s q hs t]; exact h.mem t⟩
theorem rising_snoc {l : List Nat} {k : Nat} (h : Rising l) (hk : ∀ j ∈ l, j < k) (h8 : k < 100000000) : Rising (l ++ [k]) := by
  refine ⟨?_, fun j hj => ?_⟩
  · rw [List.pairwise_append]
    exact ⟨h.1, by simp, fun a ha b hb => by simp at hb; subst hb; exact hk a ha⟩
  · rcases List.mem_append.1 hj with h1 | h1
    · exact h.2 j h1
    · simp at h1; omega
theorem Folder.add {V : Cont} {dir : ByteArray} {cps segs : List Nat} {draft : Bool} (h : Folder V dir cps draft segs) {k : Nat} (q : List Int × Nat) (hk : ∀ j ∈ segs, j < k) (h8 : k < 100000000) : Folder (setV V (segN dir k) (some q)) dir cps draft (segs ++ [k]) := by
  refine ⟨h.cpr, rising_snoc h.segr hk h8, fun t => ?_⟩
  have e : namesL dir cps draft (segs ++ [k]) = namesL dir cps draft segs ++ [segN dir k] := by unfold namesL; simp
  rw [e, List.mem_append, ← h.mem t, List.mem_singleton]
  by_cases et : t = segN dir k
  · subst et
    rw [setV_same]
    simp [seg_in]
  · rw [setV_other V _ et]
    simp [et]
/-- A record more. -/
def addL (K : Option (Nat × List (List Int))) (Ls : List (Nat × List (List Int))) (rec : List Int) : List (Nat × List (List Int)) := match Ls.getLast? with
  | none => [(lastN K + 1, [rec])]
  | some q => if 4096 ≤ (logB frameR q.2).length then Ls ++ [(q.1 + 1, [rec])] else Ls.dropLast ++ [(q.1, q.2 ++ [rec])]
theorem recsOf_add (K : Option (Nat × List (List Int))) (Ls : List (Nat × List (List Int))) (rec : List Int) : recsOf (addL K Ls rec) = recsOf Ls ++ [rec] := by
  unfold addL
  cases h : Ls.getLast? with
  | none =>
    have : Ls = [] := List.getLast?_eq_none_iff.1 h
    subst this
    rfl
  | some q =>
    have e : Ls = Ls.dropLast ++ [q] := by
      obtain ⟨l, rfl⟩ := List.getLast?_eq_some_iff.1 h
      simp
    dsimp only
    split
    · unfold recsOf; rw [List.flatMap_append]; simp
    · conv => rhs; rw [e]
      unfold recsOf
      rw [List.flatMap_append, List.flatMap_append]
      simp
theorem logB_one (r : List Int) : logB frameR [r] = frameR r := by simp [logB]
/-- What Append does to a whole folder. -/
structure Added (x : DSt) (dir : ByteArray) (K : Option (Nat × List (List Int))) (Ls : List (Nat × List (List Int))) (rec : List Int) : Prop where
  log : Log (appX x dir (openN K Ls) rec).V dir K (addL K Ls rec)
  segs : segsX (Ls.map Prod.fst) (rollX x dir (openN K Ls)).2 = (addL K Ls rec).map Prod.fst
  op : (rollX x dir (openN K Ls)).2 = openN K (addL K Ls rec)
  room : (oldV (rollX x dir (openN K Ls)).1.V (segN dir (rollX x dir (openN K Ls)).2)).1.length < 4096
  calm : (appX x dir (openN K Ls) rec).Calm
  wn : (appX x dir (openN K Ls) rec).wn ≤ x.wn + 2
theorem Whole.other {V : Cont} {dir : ByteArray} {L : List (Nat × List (List Int))} (h : Whole V dir L) {k : Nat} (hk : k < 100000000) (q : List Int × Nat) (hne : ∀ p ∈ L, p.1 ≠ k) : Whole (setV V (segN dir k) (some q)) dir L := fun p hp => by
  obtain ⟨⟨syn, h1⟩, h2, h3⟩ := h p hp
  refine ⟨⟨syn, ?_⟩, h2, h3⟩
  rw [setV_other V _ (fun e => hne p hp (seg_inj dir h3 hk e))]
  exact h1
theorem CpIs.other {V : Cont} {dir cp : ByteArray} {K : Option (Nat × List (List Int))} (h : CpIs V dir cp K) (k : Nat) (q : List Int × Nat) : CpIs (setV V (segN dir k) (some q)) dir cp K := by
  cases K with
  | none => exact h
  | some p =>
    obtain ⟨h1, ⟨syn, h2⟩, h3⟩ := h
    exact ⟨h1, ⟨syn, by rw [setV_other V _ (cp_ne_seg dir _ _)]; exact h2⟩, h3⟩
theorem Log.rise {V : Cont} {dir : ByteArray} {K : Option (Nat × List (List Int))} {L0 : List (Nat × List (List Int))} {q : Nat × List (List Int)} (h : Log V dir K (L0 ++ [q])) : ∀ p ∈ L0, p.1 < q.1 := by
  have h1 := h.folder.segr.1
  rw [List.map_append, List.pairwise_append] at h1
  intro p hp
  exact h1.2.2 p.1 (List.mem_map.2 ⟨p, hp, rfl⟩) q.1 (by simp)
theorem openN_snoc (K : Option (Nat × List (List Int))) (L : List (Nat × List (List Int))) (q : Nat × List (List Int)) : openN K (L ++ [q]) = q.1 := by
  unfold openN
  simp
theorem isOpen_snoc (l : List Nat) (k : Nat) : isOpen (l ++ [k]) k = true := by simp [isOpen]
theorem log_add {x : DSt} {dir : ByteArray} {K : Option (Nat × List (List Int))} {Ls : List (Nat × List (List Int))} {rec : List Int} (h : Log x.V dir K Ls) (hc : x.Calm) (hw : x.wn ≤ 999999980) (hr : rec.length ≤ 65536) (hop : openN K Ls < 99999998) : Added x dir K Ls rec := by
  rcases List.eq_nil_or_concat Ls with rfl | ⟨L0, q, rfl⟩
  · -- no segment yet
    have hopn : openN K [] = lastN K + 1 := rfl
    rw [hopn] at hop
    have hV : x.V (segN dir (lastN K + 1)) = none := by
      cases hV : x.V (segN dir (lastN K + 1)) with
      | none => rfl
      | some v =>
        exfalso
        have := (h.folder.mem (segN dir (lastN K + 1))).1 ⟨by rw [hV]; rfl, seg_in dir _⟩
        unfold namesL at this
        simp only [List.map_nil, Bool.false_eq_true, if_false, List.append_nil, List.mem_map] at this
        obtain ⟨j, _, e⟩ := this
        exact cp_ne_seg dir _ _ e
    have hroll : rollX x dir (lastN K + 1) = (x, lastN K + 1) := by unfold rollX; rw [hV]
    have happ : appX x dir (lastN K + 1) rec = { x with wn := x.wn + 1, V := setV x.V (segN dir (lastN K + 1)) (some (frameR rec, 0)) } := by
      unfold appX
      rw [hroll, calm_app x hc]
      have : oldV x.V (segN dir (lastN K + 1)) = ([], 0) := by unfold oldV; rw [hV]; rfl
      rw [this, List.nil_append]
    have hadd : addL K [] rec = [(lastN K + 1, [rec])] := rfl
    refine ⟨?_, ?_, ?_, ?_, ?_, ?_⟩
    · rw [hopn, happ, hadd]
      refine ⟨h.folder.add _ (by simp) (by omega), h.cp.other _ _, ?_, ?_, h.big⟩
      · intro p hp
        simp only [List.mem_singleton] at hp
        subst hp
        refine ⟨⟨0, ?_⟩, fun r hr' => by simp at hr'; subst hr'; exact hr, by dsimp only; omega⟩
        show setV x.V _ _ _ = _
        rw [setV_same, logB_one]
      · intro p hp
        simp only [List.mem_singleton] at hp
        subst hp
        dsimp only
        omega
    · rw [hopn, hroll, hadd]; rfl
    · rw [hopn, hroll, hadd]; rfl
    · rw [hopn, hroll]
      have : oldV x.V (segN dir (lastN K + 1)) = ([], 0) := by unfold oldV; rw [hV]; rfl
      rw [this]
      decide
    · rw [hopn, happ]; exact calm_next x hc (by omega) _
    · rw [hopn, happ]; dsimp only; omega
  · rw [List.concat_eq_append] at *
    have hopn : openN K (L0 ++ [q]) = q.1 := openN_snoc K L0 q
    rw [hopn] at hop
    obtain ⟨⟨syn, hV⟩, hqr, hq8⟩ := h.whole q (by simp)
    have hlow := h.rise
    have hlast : (L0 ++ [q]).getLast? = some q := by simp
    have hmap : (L0 ++ [q]).map Prod.fst = L0.map Prod.fst ++ [q.1] := by simp
    by_cases hbig : 4096 ≤ (logB frameR q.2).length
    · have hsy := calm_sync x hc (segN dir q.1) _ hV
      have hroll : rollX x dir q.1 = ({ x with wn := x.wn + 1, V := setV x.V (segN dir q.1) (some (logB frameR q.2, (logB frameR q.2).length)) }, q.1 + 1) := by
        unfold rollX
        rw [hV]
        dsimp only
        rw [if_pos hbig, hsy]
      have hc1 := calm_next x hc (by omega) (setV x.V (segN dir q.1) (some (logB frameR q.2, (logB frameR q.2).length)))
      have hne : segN dir (q.1 + 1) ≠ segN dir q.1 := fun e => by have := seg_inj dir (by omega) (by omega) e; omega
      have hV2 : setV x.V (segN dir q.1) (some (logB frameR q.2, (logB frameR q.2).length)) (segN dir (q.1 + 1)) = none := by
        rw [setV_other _ _ hne]
        cases hV3 : x.V (segN dir (q.1 + 1)) with
        | none => rfl
        | some v =>
          exfalso
          have := (h.folder.mem (segN dir (q.1 + 1))).1 ⟨by rw [hV3]; rfl, seg_in dir _⟩
          unfold namesL at this
          simp only [Bool.false_eq_true, if_false, List.nil_append, List.mem_append, List.mem_map] at this
          rcases this with ⟨j, _, e⟩ | ⟨j, ⟨p, hp, rfl⟩, e⟩
          · exact cp_ne_seg dir _ _ e
          · have h8 := h.folder.segr.2 p.1 (List.mem_map.2 ⟨p, by simpa using hp, rfl⟩)
            have e2 := seg_inj dir h8 (by omega) e
            rcases hp with hp | hp
            · have := hlow p hp; omega
            · simp at hp; subst hp; omega
      have hold : oldV (setV x.V (segN dir q.1) (some (logB frameR q.2, (logB frameR q.2).length))) (segN dir (q.1 + 1)) = ([], 0) := by unfold oldV; rw [hV2]; rfl
      have happ : appX x dir q.1 rec = { x with wn := x.wn + 1 + 1, V := setV (setV x.V (segN dir q.1) (some (logB frameR q.2, (logB frameR q.2).length))) (segN dir (q.1 + 1)) (some (frameR rec, 0)) } := by
        unfold appX
        rw [hroll]
        dsimp only
        rw [calm_app _ hc1, hold, List.nil_append]
      have hadd : addL K (L0 ++ [q]) rec = (L0 ++ [q]) ++ [(q.1 + 1, [rec])] := by unfold addL; rw [hlast]; exact if_pos hbig
      have hall : ∀ j ∈ (L0 ++ [q]).map Prod.fst, j < q.1 + 1 := by
        intro j hj
        obtain ⟨p, hp, rfl⟩ := List.mem_map.1 hj
        rcases List.mem_append.1 hp with hp | hp
        · have := hlow p hp; omega
        · simp at hp; subst hp; omega
      have hw1 : Whole (setV x.V (segN dir q.1) (some (logB frameR q.2, (logB frameR q.2).length))) dir (L0 ++ [q]) := by
        intro p hp
        obtain ⟨⟨s', h1⟩, h2, h3⟩ := h.whole p hp
        by_cases e : p.1 = q.1
        · have e2 : p = q := by
            rcases List.mem_append.1 hp with hp | hp
            · have := hlow p hp; omega
            · simpa using hp
          subst e2
          exact ⟨⟨_, setV_same _ _ _⟩, h2, h3⟩
        · exact ⟨⟨s', by rw [setV_other _ _ (fun e' => e (seg_inj dir h3 hq8 e'))]; exact h1⟩, h2, h3⟩
      refine ⟨?_, ?_, ?_, ?_, ?_, ?_⟩
      · rw [hopn, happ, hadd]
        refine ⟨?_, (h.cp.other _ _).other _ _, ?_, ?_, h.big⟩
        · have h5 := (h.folder.set (logB frameR q.2, (logB frameR q.2).length) (s := segN dir q.1) (by rw [hV]; rfl)).add (k := q.1 + 1) (frameR rec, 0) hall (by omega)
          rw [show ((L0 ++ [q]) ++ [(q.1 + 1, [rec])]).map Prod.fst = (L0 ++ [q]).map Prod.fst ++ [q.1 + 1] by simp]
          exact h5
        · intro p hp
          rcases List.mem_append.1 hp with hp | hp
          · exact hw1.other (k := q.1 + 1) (by omega) _ (fun p' hp' => by have := hall p'.1 (List.mem_map.2 ⟨p', hp', rfl⟩); omega) p hp
          · simp only [List.mem_singleton] at hp
            subst hp
            exact ⟨⟨0, by show setV _ _ _ _ = _; rw [setV_same, logB_one]⟩, fun r hr' => by simp at hr'; subst hr'; exact hr, by dsimp only; omega⟩
        · intro p hp
          rcases List.mem_append.1 hp with hp | hp
          · exact h.above p hp
          · simp only [List.mem_singleton] at hp
            subst hp
            have := h.above q (by simp)
            dsimp only
            omega
      · rw [hopn, hroll, hadd]
        dsimp only
        unfold segsX
        rw [if_neg]
        · simp
        · unfold isOpen
          rw [hmap]
          simp
      · rw [hopn, hroll, hadd, openN_snoc]
      · rw [hopn, hroll]
        dsimp only
        rw [hold]
        decide
      · rw [hopn, happ]
        exact calm_next _ hc1 (by dsimp only; omega) _
      · rw [hopn, happ]; dsimp only; omega
    · have hroll : rollX x dir q.1 = (x, q.1) := by
        unfold rollX
        rw [hV]
        exact if_neg hbig
      have hold : oldV x.V (segN dir q.1) = (logB frameR q.2, syn) := by unfold oldV; rw [hV]; rfl
      have happ : appX x dir q.1 rec = { x with wn := x.wn + 1, V := setV x.V (segN dir q.1) (some (logB frameR (q.2 ++ [rec]), syn)) } := by
        unfold appX
        rw [hroll]
        dsimp only
        rw [calm_app _ hc, hold, logB_app, logB_one]
      have hadd : addL K (L0 ++ [q]) rec = L0 ++ [(q.1, q.2 ++ [rec])] := by
        unfold addL
        rw [hlast]
        dsimp only
        rw [if_neg hbig]
        simp
      refine ⟨?_, ?_, ?_, ?_, ?_, ?_⟩
      · rw [hopn, happ, hadd]
        refine ⟨?_, h.cp.other _ _, ?_, ?_, h.big⟩
        · rw [show (L0 ++ [(q.1, q.2 ++ [rec])]).map Prod.fst = (L0 ++ [q]).map Prod.fst by simp]
          exact h.folder.set _ (by rw [hV]; rfl)
        · intro p hp
          rcases List.mem_append.1 hp with hp | hp
          · have h0 : Whole x.V dir L0 := fun p hp => h.whole p (by simp [hp])
            exact h0.other hq8 _ (fun p' hp' => by have := hlow p' hp'; omega) p hp
          · simp only [List.mem_singleton] at hp
            subst hp
            refine ⟨⟨syn, setV_same _ _ _⟩, fun r hr' => ?_, hq8⟩
            rcases List.mem_append.1 hr' with h5 | h5
            · exact hqr r h5
            · simp at h5; subst h5; exact hr
        · intro p hp
          rcases List.mem_append.1 hp with hp | hp
          · exact h.above p (by simp [hp])
          · simp only [List.mem_singleton] at hp
            subst hp
            exact h.above q (by simp)
      · rw [hopn, hroll, hadd]
        dsimp only
        unfold segsX
        rw [hmap, if_pos (isOpen_snoc _ _)]
        simp
      · rw [hopn, hroll, hadd, openN_snoc]
      · rw [hopn, hroll]
        dsimp only
        rw [hold]
        dsimp only
        omega
      · rw [hopn, happ]; exact calm_next x hc (by omega) _
      · rw [hopn, happ]; dsimp only; omega
/-- Sync keeps the log. -/
theorem log_sync {x : DSt} {dir : ByteArray} {K : Option (Nat × List (List Int))} {Ls : List (Nat × List (List Int))} (h : Log x.V dir K Ls) (hc : x.Calm) (hw : x.wn ≤ 999999980) : Log (syncX x dir (Ls.map Prod.fst) (openN K Ls)).V dir K Ls ∧ (syncX x dir (Ls.map Prod.fst) (openN K Ls)).Calm ∧ (syncX x dir (Ls.map Prod.fst) (openN K Ls)).wn ≤ x.wn + 1 ∧ (isOpen (Ls.map Prod.fst) (openN K Ls) = true → (x.sync (segN dir (openN K Ls))).1 = 0) := by
  rcases List.eq_nil_or_concat Ls with rfl | ⟨L0, q, rfl⟩
  · have : isOpen ([] : List Nat) (openN K []) = false := by simp [isOpen]
    unfold syncX
    rw [List.map_nil, this]
    simp only [Bool.false_eq_true, if_false, false_implies, and_true]
    exact ⟨h, hc, by omega⟩
  · rw [List.concat_eq_append] at *
    have hopn : openN K (L0 ++ [q]) = q.1 := openN_snoc K L0 q
    obtain ⟨⟨syn, hV⟩, hqr, hq8⟩ := h.whole q (by simp)
    have hlow := h.rise
    have hmap : (L0 ++ [q]).map Prod.fst = L0.map Prod.fst ++ [q.1] := by simp
    have hsy := calm_sync x hc (segN dir q.1) _ hV
    rw [hopn]
    unfold syncX
    rw [if_pos (by rw [hmap]; exact isOpen_snoc _ _), hsy]
    refine ⟨⟨h.folder.set _ (by rw [hV]; rfl), h.cp.other _ _, ?_, h.above, h.big⟩, calm_next x hc (by omega) _, by dsimp only; omega, fun _ => rfl⟩
    intro p hp
    obtain ⟨⟨s', h1⟩, h2, h3⟩ := h.whole p hp
    by_cases e : p.1 = q.1
    · have e2 : p = q := by
        rcases List.mem_append.1 hp with hp | hp
        · have := hlow p hp; omega
        · simpa using hp
      subst e2
      exact ⟨⟨_, setV_same _ _ _⟩, h2, h3⟩
    · exact ⟨⟨s', by show setV _ _ _ _ = _; rw [setV_other _ _ (fun e' => e (seg_inj dir h3 hq8 e'))]; exact h1⟩, h2, h3⟩
end Go.Proofs.YtekejnjaiccnbaaGreatDoor

/- What Cut makes of a log's folder. (No program's numbers.) -/
namespace Go.Proofs.YtekejnjaiccnbaaGreatDoor
open Go.RowKit Go.Maps Go.Sort
set_option linter.unusedVariables false
set_option maxRecDepth 20000

theorem del_all : ∀ (l : List ByteArray) (x : DSt), x.Calm → x.wn + l.length ≤ 999999990 → l.Nodup → (∀ s ∈ l, (x.V s).isSome = true ∧ nameB s = true) →
    DelOk x l ∧ (delAll x l).Calm ∧ (delAll x l).wn = x.wn + l.length ∧ ∀ t, (t ∈ l → (delAll x l).V t = none) ∧ (t ∉ l → (delAll x l).V t = x.V t)
  | [], x, hc, _, _, _ => ⟨trivial, hc, by simp [delAll], fun t => ⟨fun h => absurd h (by simp), fun _ => rfl⟩⟩
  | s :: l, x, hc, hw, hn, hs => by
    obtain ⟨h1, h2⟩ := hs s (by simp)
    obtain ⟨q, hq⟩ := Option.isSome_iff_exists.1 h1
    have hd := calm_del x hc s q hq
    have hc1 := calm_next x hc (by simp at hw; omega) (setV x.V s none)
    rw [List.nodup_cons] at hn
    have ih := del_all l { x with wn := x.wn + 1, V := setV x.V s none } hc1 (by simp at hw ⊢; omega) hn.2 (fun t ht => by
      have hne : t ≠ s := fun e => hn.1 (by rw [← e]; exact ht)
      refine ⟨?_, (hs t (by simp [ht])).2⟩
      show (setV x.V s none t).isSome = true
      rw [setV_other _ _ hne]
      exact (hs t (by simp [ht])).1)
    have e : delAll x (s :: l) = delAll { x with wn := x.wn + 1, V := setV x.V s none } l := by
      show delAll (x.delete s).2 l = _
      rw [hd]
    rw [e]
    refine ⟨⟨by rw [hd], hc.ok, h2, by rw [hd]; exact ih.1⟩, ih.2.1, ?_, fun t => ⟨fun ht => ?_, fun ht => ?_⟩⟩
    · rw [ih.2.2.1]; simp; omega
    · by_cases htl : t ∈ l
      · exact (ih.2.2.2 t).1 htl
      · have hts : t = s := by simpa [htl] using ht
        rw [(ih.2.2.2 t).2 htl, hts]
        exact setV_same _ _ _
    · simp only [List.mem_cons, not_or] at ht
      rw [(ih.2.2.2 t).2 ht.2]
      exact setV_other _ _ ht.1
theorem Log.noNew {V : Cont} {dir : ByteArray} {K : Option (Nat × List (List Int))} {Ls : List (Nat × List (List Int))} (h : Log V dir K Ls) : V (newN dir) = none := by
  cases hV : V (newN dir) with
  | none => rfl
  | some v =>
    exfalso
    have := (h.folder.mem (newN dir)).1 ⟨by rw [hV]; rfl, new_in dir⟩
    unfold namesL at this
    simp only [Bool.false_eq_true, if_false, List.nil_append, List.mem_append, List.mem_map] at this
    rcases this with ⟨j, _, e⟩ | ⟨j, _, e⟩
    · exact cp_ne_new dir _ e
    · exact new_ne_seg dir _ e.symm
theorem Log.seen {V : Cont} {dir : ByteArray} {K : Option (Nat × List (List Int))} {Ls : List (Nat × List (List Int))} (h : Log V dir K Ls) {s : ByteArray} (hs : s ∈ namesL dir (cpNums K) false (Ls.map Prod.fst)) : (V s).isSome = true := ((h.folder.mem s).2 hs).1
/-- What a cut deletes: the older checkpoint and the segments. -/
theorem olds_eq (dir : ByteArray) (K : Option (Nat × List (List Int))) (Ls : List (Nat × List (List Int))) : (if cpName dir K = ⟨#[]⟩ then [] else [cpName dir K]) ++ (Ls.map Prod.fst).map (segN dir) = namesL dir (cpNums K) false (Ls.map Prod.fst) := by
  unfold namesL
  cases K with
  | none => simp [cpName, cpNums]
  | some q =>
    have hne : cpN dir q.1 ≠ ⟨#[]⟩ := fun e => by
      have := congrArg ByteArray.size e
      rw [cpN, bN_size] at this
      simp [d8_len] at this
      have h2 : ByteArray.size ⟨#[]⟩ = 0 := rfl
      omega
    simp [cpName, cpNums, hne]
theorem openN_gt {V : Cont} {dir : ByteArray} {K : Option (Nat × List (List Int))} {Ls : List (Nat × List (List Int))} (h : Log V dir K Ls) : lastN K < openN K Ls := by
  rcases List.eq_nil_or_concat Ls with rfl | ⟨L0, q, rfl⟩
  · exact Nat.lt_succ_self _
  · rw [List.concat_eq_append] at *
    rw [openN_snoc]
    exact h.above q (by simp)
theorem log_cut {x : DSt} {dir : ByteArray} {K : Option (Nat × List (List Int))} {Ls : List (Nat × List (List Int))} {recs : List (List Int)} (h : Log x.V dir K Ls) (hdir : dirB dir = true) (hc : x.Calm) (hw : x.wn + Ls.length ≤ 999999900) (hr : ∀ r ∈ recs, r.length ≤ 65536) (hop : openN K Ls < 99999998) :
    DelOk (putX x dir (cpN dir (openN K Ls)) (logB frameR recs)) ((if cpName dir K = ⟨#[]⟩ then [] else [cpName dir K]) ++ (Ls.map Prod.fst).map (segN dir)) ∧ Log (cutX x dir (cpName dir K) (Ls.map Prod.fst) (openN K Ls) (logB frameR recs)).V dir (some (openN K Ls, recs)) [] ∧ (cutX x dir (cpName dir K) (Ls.map Prod.fst) (openN K Ls) (logB frameR recs)).Calm ∧ (cutX x dir (cpName dir K) (Ls.map Prod.fst) (openN K Ls) (logB frameR recs)).wn ≤ x.wn + 4 + Ls.length ∧ ∀ t, Lib.hasPrefix t.data.toList (inN dir).data.toList = false → (cutX x dir (cpName dir K) (Ls.map Prod.fst) (openN K Ls) (logB frameR recs)).V t = x.V t := by
  have hput := putX_eq x hc (by omega) dir (cpN dir (openN K Ls)) (logB frameR recs) h.noNew
  have hgt := openN_gt h
  have hl := names_lt dir false h.folder.cpr h.folder.segr
  have hnd : (namesL dir (cpNums K) false (Ls.map Prod.fst)).Nodup := hl.imp (fun hab => ba_ne hab)
  have hlen : (namesL dir (cpNums K) false (Ls.map Prod.fst)).length ≤ 1 + Ls.length := by
    rw [names_len]
    cases K <;> simp [cpNums, dl]
  -- none of what is deleted is the new checkpoint, nor the draft
  have hnm : ∀ s ∈ namesL dir (cpNums K) false (Ls.map Prod.fst), s ≠ cpN dir (openN K Ls) ∧ s ≠ newN dir ∧ nameB s = true := by
    intro s hs
    unfold namesL at hs
    simp only [Bool.false_eq_true, if_false, List.nil_append, List.mem_append, List.mem_map] at hs
    rcases hs with ⟨j, hj, rfl⟩ | ⟨j, _, rfl⟩
    · refine ⟨fun e => ?_, cp_ne_new dir j, cp_name hdir j⟩
      have h8 := h.folder.cpr.2 j hj
      have e2 := cp_inj dir h8 (by omega) e
      cases K with
      | none => cases hj
      | some q =>
        have hjq : j = q.1 := by simpa [cpNums] using hj
        have : lastN (some q) = q.1 := rfl
        omega
    · exact ⟨(cp_ne_seg dir _ _).symm, (new_ne_seg dir j).symm, seg_name hdir j⟩
  obtain ⟨y, ey⟩ : ∃ y, y = putX x dir (cpN dir (openN K Ls)) (logB frameR recs) := ⟨_, rfl⟩
  have hyc : y.Calm := by
    rw [ey, hput]
    obtain ⟨h1, h2, h3⟩ := hc.ok
    exact ⟨hc.on, hc.free, ⟨by dsimp only; omega, h2, h3⟩⟩
  have hyw : y.wn = x.wn + 3 := by rw [ey, hput]
  have hyV : ∀ t, t ≠ cpN dir (openN K Ls) → t ≠ newN dir → y.V t = x.V t := by
    intro t h1 h2
    rw [ey, hput]
    show setV (setV x.V _ _) _ _ t = _
    rw [setV_other _ _ h1, setV_other _ _ h2]
  have hyc2 : y.V (cpN dir (openN K Ls)) = some (logB frameR recs, (logB frameR recs).length) := by
    rw [ey, hput]
    exact setV_same _ _ _
  have hyn : y.V (newN dir) = none := by
    rw [ey, hput]
    show setV (setV x.V _ _) _ _ _ = _
    rw [setV_other _ _ (cp_ne_new dir _).symm, setV_same]
  obtain ⟨d1, d2, d3, d4⟩ := del_all (namesL dir (cpNums K) false (Ls.map Prod.fst)) y hyc (by rw [hyw]; omega) hnd (fun s hs => ⟨by rw [hyV s (hnm s hs).1 (hnm s hs).2.1]; exact h.seen hs, (hnm s hs).2.2⟩)
  have hcut : cutX x dir (cpName dir K) (Ls.map Prod.fst) (openN K Ls) (logB frameR recs) = delAll y (namesL dir (cpNums K) false (Ls.map Prod.fst)) := by
    unfold cutX
    rw [olds_eq, ey]
  rw [olds_eq, ← ey, hcut]
  have hcpin : cpN dir (openN K Ls) ∉ namesL dir (cpNums K) false (Ls.map Prod.fst) := fun hin => (hnm _ hin).1 rfl
  have hV1 : (delAll y (namesL dir (cpNums K) false (Ls.map Prod.fst))).V (cpN dir (openN K Ls)) = some (logB frameR recs, (logB frameR recs).length) := by rw [(d4 _).2 hcpin]; exact hyc2
  refine ⟨d1, ⟨⟨?_, ?_, fun s => ?_⟩, ?_, ?_, ?_, ?_⟩, d2, by rw [d3, hyw]; omega, fun t ht => ?_⟩
  · exact ⟨by simp [cpNums], fun k hk => by simp [cpNums] at hk; omega⟩
  · exact ⟨by simp, fun k hk => by cases hk⟩
  · constructor
    · rintro ⟨hs, hp⟩
      by_cases hin : s ∈ namesL dir (cpNums K) false (Ls.map Prod.fst)
      · rw [(d4 s).1 hin] at hs; cases hs
      · rw [(d4 s).2 hin] at hs
        by_cases e1 : s = cpN dir (openN K Ls)
        · subst e1; simp [namesL, cpNums]
        · exfalso
          by_cases e2 : s = newN dir
          · subst e2; rw [hyn] at hs; cases hs
          · rw [hyV s e1 e2] at hs
            exact hin ((h.folder.mem s).1 ⟨hs, hp⟩)
    · intro hs
      have e1 : s = cpN dir (openN K Ls) := by simpa [namesL, cpNums] using hs
      subst e1
      exact ⟨by rw [hV1]; rfl, cp_in dir _⟩
  · exact ⟨rfl, ⟨_, hV1⟩, hr, by dsimp only; omega⟩
  · intro p hp; cases hp
  · intro p hp; cases hp
  · show openN K Ls < 100000000
    omega
  · have h1 : t ∉ namesL dir (cpNums K) false (Ls.map Prod.fst) := fun hin => by
      have := ((h.folder.mem t).2 hin).2
      rw [ht] at this
      cases this
    rw [(d4 t).2 h1]
    refine hyV t (fun e => ?_) (fun e => ?_)
    · rw [e, cp_in] at ht; cases ht
    · rw [e, new_in] at ht; cases ht
end Go.Proofs.YtekejnjaiccnbaaGreatDoor

/- Lists of byte strings: alike? -/
namespace Go.Proofs.YtekejnjaiccnbaaGreatDoor
open Go.RowKit Go.Maps Go.Sort
set_option linter.unusedVariables false
set_option maxRecDepth 20000

/-- A slice of slices is read as these records. -/
def Reads (w : World) (a : Option Addr) (ts : List Sl) (recs : List (List Int)) : Prop := SRd slE w a ts ∧ ts.length = recs.length ∧ ∀ (i : Nat) (t : Sl) (r : List Int), ts[i]? = some t → recs[i]? = some r → t.2.1 = r.length ∧ Rd w t.1 r ∧ r.length ≤ 140737488355000
theorem Reads.grown {w w' : World} {a : Option Addr} {ts : List Sl} {recs : List (List Int)} (h : Reads w a ts recs) (hg : w.grownBy w' none) : Reads w' a ts recs :=
  ⟨h.1.grown hg (by simp), h.2.1, fun i t r h1 h2 => ⟨(h.2.2 i t r h1 h2).1, (h.2.2 i t r h1 h2).2.1.grown hg (by simp), (h.2.2 i t r h1 h2).2.2⟩⟩
theorem Reads.at {w : World} {a : Option Addr} {ts : List Sl} {recs : List (List Int)} (h : Reads w a ts recs) {i : Nat} (hi : i < recs.length) : ∃ b off t r, a = some ⟨b, off, none⟩ ∧ recs[i]? = some r ∧ w.cell? ⟨b, off + i, none⟩ = some (.slice t.1 t.2.1 t.2.2) ∧ t.2.1 = r.length ∧ Rd w t.1 r ∧ r.length ≤ 140737488355000 ∧ ts[i]? = some t := by
  have hl := h.2.1
  obtain ⟨r, hr⟩ : ∃ r, recs[i]? = some r := ⟨_, List.getElem?_eq_getElem hi⟩
  obtain ⟨t, ht⟩ : ∃ t, ts[i]? = some t := ⟨_, List.getElem?_eq_getElem (by omega)⟩
  obtain ⟨kb, koff, e, hkc⟩ := h.1.at (by omega)
  have a0 := hkc i _ 0 _ ht rfl
  obtain ⟨h1, h2, h3⟩ := h.2.2 i t r ht hr
  exact ⟨kb, koff, t, r, e, hr, by simpa [slE, slV] using a0, h1, h2, h3, ht⟩
theorem recs_take_eq {xs ys : List (List Int)} {i : Nat} {r s : List Int} (hx : xs[i]? = some r) (hy : ys[i]? = some s) (h : xs.take i = ys.take i) (e : r = s) : xs.take (i + 1) = ys.take (i + 1) := by
  rw [List.take_add_one, List.take_add_one, hx, hy, h, e]
set_option maxHeartbeats 8000000 in
theorem l_sameLists (a b : Option Addr) (ts us : List Sl) (xs ys : List (List Int)) (n m c d : Nat) (w : World) (hx : Reads w a ts xs) (hy : Reads w b us ys) (hn : xs.length = n) (hm : ys.length = m) (hn4 : n ≤ 4611686018427387904) :
    Calls Tryz.prog 22 #[.slice a n c, .slice b m d] w fun e w' => e = .returned (.bool (decide (xs = ys))) ∧ w.grownBy w' none := by
  have HX : Hid (Reads w a ts xs) := hx
  have HY : Hid (Reads w b us ys) := hy
  have HN : Hid (xs.length = n) := hn
  have HM : Hid (ys.length = m) := hm
  clear hx hy
  by_cases hnm : n = m
  · subst hnm
    have q0 : ((n : Int) == (n : Int)) = true := by simp
    clear hn hm
    go_enter Tryz.func22, Tryz.ntmps22
    go_wp2_with fail
    go_loopw [5] (fun t5 wr => ∃ i : Nat, i ≤ n ∧ t5 = .int .i64 i ∧ xs.take i = ys.take i ∧ w.grownBy wr none) (fun t5 _ => n - (intOf t5).toNat)
    case atStart => exact ⟨0, Nat.zero_le _, rfl, rfl, World.grownBy.refl _ _⟩
    case round =>
      obtain ⟨i, hi, rfl, heq, hg⟩ := hrel
      have HEQ : Hid (xs.take i = ys.take i) := heq
      have HG : Hid (w.grownBy wr none) := hg
      by_cases hlt : i < n
      · have hii : (i : Int) < (n : Int) := by omega
        obtain ⟨b1, o1, t1, r1, rfl, g1, c1, l1, d1, z1, _⟩ := (HX.out.grown hg).at (i := i) (by rw [HN.out]; exact hlt)
        obtain ⟨b2, o2, t2, r2, rfl, g2, c2, l2, d2, z2, _⟩ := (HY.out.grown hg).at (i := i) (by rw [HM.out]; exact hlt)
        have HTE := fun e => recs_take_eq g1 g2 HEQ.out e
        have HNE : Hid (r1 ≠ r2 → xs ≠ ys) := fun h e => by subst e; rw [g1] at g2; exact h (Option.some.inj g2)
        have HGD : Hid (w.grownBy wr.drew none) := gb_drew hg
        have HSB : Hid (Calls Tryz.prog 56 #[.slice t1.1 t1.2.1 t1.2.2, .slice t2.1 t2.2.1 t2.2.2] wr.drew fun e w' => e = .returned (.bool (decide (r1 = r2))) ∧ wr.drew.grownBy w' none) := same_any t1.1 t2.1 r1 r2 t1.2.1 t2.2.1 t1.2.2 t2.2.2 wr.drew d1 d2 l1.symm l2.symm (by omega)
        clear heq hg g1 g2 l1 l2 d1 d2 z1 z2
        go_wp2_with fail
        go_region_held3 (fun W => W.cell? ⟨b1, o1 + i, none⟩ = some (.slice t1.1 t1.2.1 t1.2.2) ∧ W.cell? ⟨b2, o2 + i, none⟩ = some (.slice t2.1 t2.2.1 t2.2.2)) (go_keep) (first
          | (go_at_call 56; refine HSB.out.mono ?_; rintro e w1 ⟨rfl, hg1⟩; have HG1 : Hid (w.grownBy w1 none) := HGD.out.trans hg1; have c1' : w1.cell? ⟨b1, o1 + i, none⟩ = some (.slice t1.1 t1.2.1 t1.2.2) := hg1.cell c1 (by simp); have c2' : w1.cell? ⟨b2, o2 + i, none⟩ = some (.slice t2.1 t2.2.1 t2.2.2) := hg1.cell c2 (by simp); clear hg1))
        by_cases he : r1 = r2
        · have HT2 := HTE he
          rw [show decide (r1 = r2) = true by simp [he]]
          go_wp2
          go_roundw
          case rel => exact ⟨i + 1, by omega, by go_num, HT2, HG1.out⟩
          case measure => simp [intOf]; omega
        · have HF : Hid (decide (xs = ys) = false) := by show _ = _; simp [HNE.out he]
          rw [show decide (r1 = r2) = false by simp [he]]
          go_wp2
          go_ret
          exact ⟨ret_bool HF.out.symm, HG1.out⟩
      · have hii : ¬ (i : Int) < (n : Int) := by omega
        have HE : Hid (decide (xs = ys) = true) := by
          show _ = _
          have h1 := HEQ.out
          rw [List.take_of_length_le (by rw [HN.out]; omega), List.take_of_length_le (by rw [HM.out]; omega)] at h1
          simp [h1]
        clear heq hg
        go_wp2
        go_ret
        exact ⟨ret_bool HE.out.symm, HG.out⟩
  · have q0 : ((n : Int) == (m : Int)) = false := by simp; omega
    have q1 : ((n : Int) != (m : Int)) = true := by simp; omega
    have HE : Hid (decide (xs = ys) = false) := by
      show _ = _
      simp only [decide_eq_false_iff_not]
      intro e
      subst e
      omega
    clear hn hm
    go_enter Tryz.func22, Tryz.ntmps22
    go_wp2
    go_ret
    exact ⟨ret_bool HE.out.symm, World.grownBy.refl _ _⟩
end Go.Proofs.YtekejnjaiccnbaaGreatDoor

