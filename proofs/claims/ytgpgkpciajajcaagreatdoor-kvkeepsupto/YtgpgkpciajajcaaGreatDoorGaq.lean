/- Several texts in one: Wy, Wz, Xa, Xb, Xc, Xd, Xe. -/
import Derived.Test.YtgpgkpciajajcaaGreatDoorGap
/- What Cut makes of a log's folder. (No program's numbers.) -/
namespace Go.Proofs.YtgpgkpciajajcaaGreatDoor
open Go.RowKit Go.Maps Go.Sort
set_option linter.unusedVariables false
set_option maxRecDepth 20000

theorem del_all : ∀ (l : List ByteArray) (x : DSt), x.Calm → x.wn + l.length ≤ 999999990 → l.Nodup → (∀ s ∈ l, (x.V s).isSome = true ∧ nameB s = true) →
    DelOk x l ∧ (delAll x l).Calm ∧ (delAll x l).wn = x.wn + l.length ∧ ∀ t, (t ∈ l → (delAll x l).V t = none) ∧ (t ∉ l → (delAll x l).V t = x.V t)
  | [], x, hc, _, _, _ => ⟨trivial, hc, by simp [delAll], fun t => ⟨fun h => absurd h (by simp), fun _ => rfl⟩⟩
  | s :: l, x, hc, hw, hn, hs => by
    obtain ⟨h1, h2⟩ := hs s (by simp)
    obtain ⟨q, hq⟩ := Option.isSome_iff_exists.1 h1
    have hd := calm_del x hc s q hq
    have hc1 := calm_next x hc (by simp at hw; omega) (setV x.V s none)
    rw [List.nodup_cons] at hn
    have ih := del_all l { x with wn := x.wn + 1, V := setV x.V s none } hc1 (by simp at hw ⊢; omega) hn.2 (fun t ht => by
      have hne : t ≠ s := fun e => hn.1 (by rw [← e]; exact ht)
      refine ⟨?_, (hs t (by simp [ht])).2⟩
      show (setV x.V s none t).isSome = true
      rw [setV_other _ _ hne]
      exact (hs t (by simp [ht])).1)
    have e : delAll x (s :: l) = delAll { x with wn := x.wn + 1, V := setV x.V s none } l := by
      show delAll (x.delete s).2 l = _
      rw [hd]
    rw [e]
    refine ⟨⟨by rw [hd], hc.ok, h2, by rw [hd]; exact ih.1⟩, ih.2.1, ?_, fun t => ⟨fun ht => ?_, fun ht => ?_⟩⟩
    · rw [ih.2.2.1]; simp; omega
    · by_cases htl : t ∈ l
      · exact (ih.2.2.2 t).1 htl
      · have hts : t = s := by simpa [htl] using ht
        rw [(ih.2.2.2 t).2 htl, hts]
        exact setV_same _ _ _
    · simp only [List.mem_cons, not_or] at ht
      rw [(ih.2.2.2 t).2 ht.2]
      exact setV_other _ _ ht.1
theorem Log.noNew {V : Cont} {dir : ByteArray} {K : Option (Nat × List (List Int))} {Ls : List (Nat × List (List Int))} (h : Log V dir K Ls) : V (newN dir) = none := by
  cases hV : V (newN dir) with
  | none => rfl
  | some v =>
    exfalso
    have := (h.folder.mem (newN dir)).1 ⟨by rw [hV]; rfl, new_in dir⟩
    unfold namesL at this
    simp only [Bool.false_eq_true, if_false, List.nil_append, List.mem_append, List.mem_map] at this
    rcases this with ⟨j, _, e⟩ | ⟨j, _, e⟩
    · exact cp_ne_new dir _ e
    · exact new_ne_seg dir _ e.symm
theorem Log.seen {V : Cont} {dir : ByteArray} {K : Option (Nat × List (List Int))} {Ls : List (Nat × List (List Int))} (h : Log V dir K Ls) {s : ByteArray} (hs : s ∈ namesL dir (cpNums K) false (Ls.map Prod.fst)) : (V s).isSome = true := ((h.folder.mem s).2 hs).1
/-- What a cut deletes: the older checkpoint and the segments. -/
theorem olds_eq (dir : ByteArray) (K : Option (Nat × List (List Int))) (Ls : List (Nat × List (List Int))) : (if cpName dir K = ⟨#[]⟩ then [] else [cpName dir K]) ++ (Ls.map Prod.fst).map (segN dir) = namesL dir (cpNums K) false (Ls.map Prod.fst) := by
  unfold namesL
  cases K with
  | none => simp [cpName, cpNums]
  | some q =>
    have hne : cpN dir q.1 ≠ ⟨#[]⟩ := fun e => by
      have := congrArg ByteArray.size e
      rw [cpN, bN_size] at this
      simp [d8_len] at this
      have h2 : ByteArray.size ⟨#[]⟩ = 0 := rfl
      omega
    simp [cpName, cpNums, hne]
theorem openN_gt {V : Cont} {dir : ByteArray} {K : Option (Nat × List (List Int))} {Ls : List (Nat × List (List Int))} (h : Log V dir K Ls) : lastN K < openN K Ls := by
  rcases List.eq_nil_or_concat Ls with rfl | ⟨L0, q, rfl⟩
  · exact Nat.lt_succ_self _
  · rw [List.concat_eq_append] at *
    rw [openN_snoc]
    exact h.above q (by simp)
theorem log_cut {x : DSt} {dir : ByteArray} {K : Option (Nat × List (List Int))} {Ls : List (Nat × List (List Int))} {recs : List (List Int)} (h : Log x.V dir K Ls) (hdir : dirB dir = true) (hc : x.Calm) (hw : x.wn + Ls.length ≤ 999999900) (hr : ∀ r ∈ recs, r.length ≤ 65536) (hop : openN K Ls < 99999998) :
    DelOk (putX x dir (cpN dir (openN K Ls)) (logB frameR recs)) ((if cpName dir K = ⟨#[]⟩ then [] else [cpName dir K]) ++ (Ls.map Prod.fst).map (segN dir)) ∧ Log (cutX x dir (cpName dir K) (Ls.map Prod.fst) (openN K Ls) (logB frameR recs)).V dir (some (openN K Ls, recs)) [] ∧ (cutX x dir (cpName dir K) (Ls.map Prod.fst) (openN K Ls) (logB frameR recs)).Calm ∧ (cutX x dir (cpName dir K) (Ls.map Prod.fst) (openN K Ls) (logB frameR recs)).wn ≤ x.wn + 4 + Ls.length ∧ ∀ t, Lib.hasPrefix t.data.toList (inN dir).data.toList = false → (cutX x dir (cpName dir K) (Ls.map Prod.fst) (openN K Ls) (logB frameR recs)).V t = x.V t := by
  have hput := putX_eq x hc (by omega) dir (cpN dir (openN K Ls)) (logB frameR recs) h.noNew
  have hgt := openN_gt h
  have hl := names_lt dir false h.folder.cpr h.folder.segr
  have hnd : (namesL dir (cpNums K) false (Ls.map Prod.fst)).Nodup := hl.imp (fun hab => ba_ne hab)
  have hlen : (namesL dir (cpNums K) false (Ls.map Prod.fst)).length ≤ 1 + Ls.length := by
    rw [names_len]
    cases K <;> simp [cpNums, dl]
  -- none of what is deleted is the new checkpoint, nor the draft
  have hnm : ∀ s ∈ namesL dir (cpNums K) false (Ls.map Prod.fst), s ≠ cpN dir (openN K Ls) ∧ s ≠ newN dir ∧ nameB s = true := by
    intro s hs
    unfold namesL at hs
    simp only [Bool.false_eq_true, if_false, List.nil_append, List.mem_append, List.mem_map] at hs
    rcases hs with ⟨j, hj, rfl⟩ | ⟨j, _, rfl⟩
    · refine ⟨fun e => ?_, cp_ne_new dir j, cp_name hdir j⟩
      have h8 := h.folder.cpr.2 j hj
      have e2 := cp_inj dir h8 (by omega) e
      cases K with
      | none => cases hj
      | some q =>
        have hjq : j = q.1 := by simpa [cpNums] using hj
        have : lastN (some q) = q.1 := rfl
        omega
    · exact ⟨(cp_ne_seg dir _ _).symm, (new_ne_seg dir j).symm, seg_name hdir j⟩
  obtain ⟨y, ey⟩ : ∃ y, y = putX x dir (cpN dir (openN K Ls)) (logB frameR recs) := ⟨_, rfl⟩
  have hyc : y.Calm := by
    rw [ey, hput]
    obtain ⟨h1, h2, h3⟩ := hc.ok
    exact ⟨hc.on, hc.free, ⟨by dsimp only; omega, h2, h3⟩⟩
  have hyw : y.wn = x.wn + 3 := by rw [ey, hput]
  have hyV : ∀ t, t ≠ cpN dir (openN K Ls) → t ≠ newN dir → y.V t = x.V t := by
    intro t h1 h2
    rw [ey, hput]
    show setV (setV x.V _ _) _ _ t = _
    rw [setV_other _ _ h1, setV_other _ _ h2]
  have hyc2 : y.V (cpN dir (openN K Ls)) = some (logB frameR recs, (logB frameR recs).length) := by
    rw [ey, hput]
    exact setV_same _ _ _
  have hyn : y.V (newN dir) = none := by
    rw [ey, hput]
    show setV (setV x.V _ _) _ _ _ = _
    rw [setV_other _ _ (cp_ne_new dir _).symm, setV_same]
  obtain ⟨d1, d2, d3, d4⟩ := del_all (namesL dir (cpNums K) false (Ls.map Prod.fst)) y hyc (by rw [hyw]; omega) hnd (fun s hs => ⟨by rw [hyV s (hnm s hs).1 (hnm s hs).2.1]; exact h.seen hs, (hnm s hs).2.2⟩)
  have hcut : cutX x dir (cpName dir K) (Ls.map Prod.fst) (openN K Ls) (logB frameR recs) = delAll y (namesL dir (cpNums K) false (Ls.map Prod.fst)) := by
    unfold cutX
    rw [olds_eq, ey]
  rw [olds_eq, ← ey, hcut]
  have hcpin : cpN dir (openN K Ls) ∉ namesL dir (cpNums K) false (Ls.map Prod.fst) := fun hin => (hnm _ hin).1 rfl
  have hV1 : (delAll y (namesL dir (cpNums K) false (Ls.map Prod.fst))).V (cpN dir (openN K Ls)) = some (logB frameR recs, (logB frameR recs).length) := by rw [(d4 _).2 hcpin]; exact hyc2
  refine ⟨d1, ⟨⟨?_, ?_, fun s => ?_⟩, ?_, ?_, ?_, ?_⟩, d2, by rw [d3, hyw]; omega, fun t ht => ?_⟩
  · exact ⟨by simp [cpNums], fun k hk => by simp [cpNums] at hk; omega⟩
  · exact ⟨by simp, fun k hk => by cases hk⟩
  · constructor
    · rintro ⟨hs, hp⟩
      by_cases hin : s ∈ namesL dir (cpNums K) false (Ls.map Prod.fst)
      · rw [(d4 s).1 hin] at hs; cases hs
      · rw [(d4 s).2 hin] at hs
        by_cases e1 : s = cpN dir (openN K Ls)
        · subst e1; simp [namesL, cpNums]
        · exfalso
          by_cases e2 : s = newN dir
          · subst e2; rw [hyn] at hs; cases hs
          · rw [hyV s e1 e2] at hs
            exact hin ((h.folder.mem s).1 ⟨hs, hp⟩)
    · intro hs
      have e1 : s = cpN dir (openN K Ls) := by simpa [namesL, cpNums] using hs
      subst e1
      exact ⟨by rw [hV1]; rfl, cp_in dir _⟩
  · exact ⟨rfl, ⟨_, hV1⟩, hr, by dsimp only; omega⟩
  · intro p hp; cases hp
  · intro p hp; cases hp
  · show openN K Ls < 100000000
    omega
  · have h1 : t ∉ namesL dir (cpNums K) false (Ls.map Prod.fst) := fun hin => by
      have := ((h.folder.mem t).2 hin).2
      rw [ht] at this
      cases this
    rw [(d4 t).2 h1]
    refine hyV t (fun e => ?_) (fun e => ?_)
    · rw [e, cp_in] at ht; cases ht
    · rw [e, new_in] at ht; cases ht
end Go.Proofs.YtgpgkpciajajcaaGreatDoor

/- Lists of byte strings: alike? -/
namespace Go.Proofs.YtgpgkpciajajcaaGreatDoor
open Go.RowKit Go.Maps Go.Sort
set_option linter.unusedVariables false
set_option maxRecDepth 20000

/-- A slice of slices is read as these records. -/
def Reads (w : World) (a : Option Addr) (ts : List Sl) (recs : List (List Int)) : Prop := SRd slE w a ts ∧ ts.length = recs.length ∧ ∀ (i : Nat) (t : Sl) (r : List Int), ts[i]? = some t → recs[i]? = some r → t.2.1 = r.length ∧ Rd w t.1 r ∧ r.length ≤ 140737488355000
theorem Reads.grown {w w' : World} {a : Option Addr} {ts : List Sl} {recs : List (List Int)} (h : Reads w a ts recs) (hg : w.grownBy w' none) : Reads w' a ts recs :=
  ⟨h.1.grown hg (by simp), h.2.1, fun i t r h1 h2 => ⟨(h.2.2 i t r h1 h2).1, (h.2.2 i t r h1 h2).2.1.grown hg (by simp), (h.2.2 i t r h1 h2).2.2⟩⟩
theorem Reads.at {w : World} {a : Option Addr} {ts : List Sl} {recs : List (List Int)} (h : Reads w a ts recs) {i : Nat} (hi : i < recs.length) : ∃ b off t r, a = some ⟨b, off, none⟩ ∧ recs[i]? = some r ∧ w.cell? ⟨b, off + i, none⟩ = some (.slice t.1 t.2.1 t.2.2) ∧ t.2.1 = r.length ∧ Rd w t.1 r ∧ r.length ≤ 140737488355000 ∧ ts[i]? = some t := by
  have hl := h.2.1
  obtain ⟨r, hr⟩ : ∃ r, recs[i]? = some r := ⟨_, List.getElem?_eq_getElem hi⟩
  obtain ⟨t, ht⟩ : ∃ t, ts[i]? = some t := ⟨_, List.getElem?_eq_getElem (by omega)⟩
  obtain ⟨kb, koff, e, hkc⟩ := h.1.at (by omega)
  have a0 := hkc i _ 0 _ ht rfl
  obtain ⟨h1, h2, h3⟩ := h.2.2 i t r ht hr
  exact ⟨kb, koff, t, r, e, hr, by simpa [slE, slV] using a0, h1, h2, h3, ht⟩
end Go.Proofs.YtgpgkpciajajcaaGreatDoor

/- A log, call by call, as a caller's walk uses it. -/
namespace Go.Proofs.YtgpgkpciajajcaaGreatDoor
open Go.RowKit Go.Maps Go.Sort
set_option linter.unusedVariables false
set_option maxRecDepth 20000

abbrev Kp := Option (Nat × List (List Int))
abbrev Sg := List (Nat × List (List Int))
/-- A disk with a whole log's folder on it; nothing of the world W has changed. -/
structure De (W w : World) (d mb n : Nat) (x : DSt) (dir : ByteArray) (K : Kp) (Ls : Sg) (B : Nat → Prop) : Prop where
  disk : DS w W.heap.size d mb n x B
  log : Log x.V dir K Ls
  calm : x.Calm
  from_ : W.grownBy w none
  low : ∀ k, B k → W.heap.size ≤ k
  ltB : ∀ k, B k → k < w.heap.size
  tab : Tab W
/-- .. and the log open over it. -/
structure Se (W w : World) (d mb n : Nat) (x : DSt) (p : Nat) (dir : ByteArray) (K : Kp) (Ls : Sg) (A B : Nat → Prop) : Prop where
  at_ : LogAt w W.heap.size d mb n x p dir (cpName dir K) (Ls.map Prod.fst) (openN K Ls) A B
  log : Log x.V dir K Ls
  calm : x.Calm
  from_ : W.grownBy w none
  low : ∀ k, A k ∨ B k → W.heap.size ≤ k
  tab : Tab W
theorem Se.grown {W w w' : World} {d mb n : Nat} {x : DSt} {p : Nat} {dir : ByteArray} {K : Kp} {Ls : Sg} {A B : Nat → Prop} (h : Se W w d mb n x p dir K Ls A B) (hg : w.grownBy w' none) : Se W w' d mb n x p dir K Ls A B :=
  ⟨h.at_.grown hg, h.log, h.calm, h.from_.trans hg, h.low, h.tab⟩
theorem De.grown {W w w' : World} {d mb n : Nat} {x : DSt} {dir : ByteArray} {K : Kp} {Ls : Sg} {B : Nat → Prop} (h : De W w d mb n x dir K Ls B) (hg : w.grownBy w' none) : De W w' d mb n x dir K Ls B :=
  ⟨DV.kept h.disk hg, h.log, h.calm, h.from_.trans hg, h.low, fun k hk => Nat.lt_of_lt_of_le (h.ltB k hk) hg.size, h.tab⟩
theorem Se.far {W w : World} {d mb n : Nat} {x : DSt} {p : Nat} {dir : ByteArray} {K : Kp} {Ls : Sg} {A B : Nat → Prop} (h : Se W w d mb n x p dir K Ls A B) : Tab w ∧ Far A B :=
  ⟨h.tab.grown h.from_, fun g hg => ⟨fun ha => by have := h.low g (.inl ha); have := h.tab.lt hg; omega, fun hb => by have := h.low g (.inr hb); have := h.tab.lt hg; omega⟩⟩
theorem Step2.from_ {W w w' : World} {A B A' B' : Nat → Prop} (h : Step2 w w' A B A' B') (hW : W.grownBy w none) (hl : ∀ k, A k ∨ B k → W.heap.size ≤ k) : W.grownBy w' none :=
  ⟨h.kept.os.trans hW.os, h.kept.tape.trans hW.tape, h.kept.output.trans hW.output, Nat.le_trans hW.size h.kept.size, fun k hk _ => (h.kept.block k (Nat.lt_of_lt_of_le hk hW.size) (fun hx => by have := hl k hx; omega)).trans (hW.block k hk (by simp))⟩
theorem Step2.low {W w w' : World} {A B A' B' : Nat → Prop} (h : Step2 w w' A B A' B') (hW : W.grownBy w none) (hl : ∀ k, A k ∨ B k → W.heap.size ≤ k) : ∀ k, A' k ∨ B' k → W.heap.size ≤ k := fun k hk => by
  rcases Nat.lt_or_ge k w.heap.size with h1 | h1
  · exact hl k (hk.elim (fun ha => .inl (h.oldA k h1 ha)) (fun hb => .inr (h.oldB k h1 hb)))
  · exact Nat.le_trans hW.size h1
/-- Open, of a folder that is whole. -/
theorem s_open {W w : World} {d mb n : Nat} {x : DSt} {dir : ByteArray} {K : Kp} {Ls : Sg} {B : Nat → Prop} (h : De W w d mb n x dir K Ls B) (hdir : dirB dir = true) (hn : n ≤ 4194304) (hsz : (cpRecs K ++ recsOf Ls).length ≤ 4194304) (hln : Ls.length ≤ 4194304) :
    Calls Tryz.prog 80 #[.pointer (some ⟨d, 0, none⟩), .string dir] w fun e w' => ∃ (p : Nat) (v : Sl) (m lo : Nat) (A : Nat → Prop), e = .returned (.tuple #[.pointer (some ⟨p, 0, none⟩), slV v, .int .i64 0]) ∧ Se W w' d mb n x p dir K Ls A B ∧ RecsLo lo w' (slV v) m (cpRecs K ++ recsOf Ls) ∧ w.grownBy w' none ∧ (∀ k, A k → w.heap.size ≤ k ∧ k < lo) ∧ w.heap.size ≤ lo := by
  refine (w_open W.heap.size d mb n dir x B K Ls w hdir (h.tab.grown h.from_) h.disk h.ltB h.calm.on h.log hn hsz hln).mono ?_
  rintro e w' ⟨p, v, m, lo, a, c, rfl, hW, hso, hp, hpl, hal, hro, hg⟩
  have hA : ∀ k, (k = p ∨ ∃ y, a = some y ∧ k = y.block) → w.heap.size ≤ k ∧ k < lo := by
    rintro k (rfl | ⟨y, rfl, rfl⟩)
    · exact ⟨hp, hpl⟩
    · exact ⟨(hso.block y.block rfl).1, hal y rfl⟩
  have hne : ∀ y, a = some y → y.block ≠ p := fun y hy e => by
    subst hy
    obtain ⟨g, cap, e1, _, _⟩ := hso.some (by simp)
    have e2 : y = ⟨g, 0, none⟩ := by injection e1 with e1; exact Option.some.inj e1
    rw [e2] at e
    simp only at e
    rcases hso.2 with ⟨h', _⟩ | ⟨g', cap', cur, h', k1, k2, _⟩
    · cases h'
    · have e3 : g' = g := by
        injection h' with h'
        have := Option.some.inj h'
        rw [e2] at this
        exact (congrArg Addr.block this).symm
      subst e3
      obtain ⟨cc, r1, _⟩ := hW
      rw [e, r1] at k2
      simp only [Option.some.injEq, Obj.cells.injEq] at k2
      exact absurd k2.2.1 (by decide)
  refine ⟨p, v, m, lo, fun k => k = p ∨ ∃ y, a = some y ∧ k = y.block, rfl, ⟨⟨DV.kept h.disk hg, ⟨a, c, hW, (IOwn.of hso).base (Nat.zero_le _), .inl rfl, fun y hy => ⟨.inr ⟨y, hy, rfl⟩, hne y hy⟩⟩, fun k ha hb => ?_, fun k hb => Nat.lt_of_lt_of_le (h.ltB k hb) hg.size, ?_⟩, h.log, h.calm, h.from_.trans hg, ?_, h.tab⟩, hro, hg, hA, by omega⟩
  · have h1 := (hA k ha).1
    have h2 := h.ltB k hb
    omega
  · rintro k (rfl | ⟨y, rfl, rfl⟩)
    · exact hW.lt
    · exact (hso.block y.block rfl).2
  · rintro k (ha | hb)
    · exact Nat.le_trans h.from_.size (hA k ha).1
    · exact h.low k hb
theorem frame_len (zs : List Int) (h : zs.length ≤ 65536) : (frameR zs).length ≤ 65543 := by
  have h1 := enc_len_le 2 zs.length (by omega)
  have h4 : (four (sumR zs)).length = 4 := rfl
  rw [frameR]
  simp only [List.length_append, h4]
  omega
/-- Append. -/
theorem s_append {W w : World} {d mb n : Nat} {x : DSt} {p : Nat} {dir : ByteArray} {K : Kp} {Ls : Sg} {A B : Nat → Prop} (h : Se W w d mb n x p dir K Ls A B) (hdir : dirB dir = true) (a : Option Addr) (zs : List Int) (L cap : Nat) (hw : x.wn ≤ 999999900) (hop : openN K Ls < 99999998) (hn : n < 1048576) (hsg : Ls.length ≤ 4194304) (hr : Rd w a zs) (hL : zs.length = L) (hnil : a = none → cap = 0) (hz : L ≤ 65536) :
    Calls Tryz.prog 73 #[.pointer (some ⟨p, 0, none⟩), .slice a L cap] w fun e w' => e = .returned (.int .i64 0) ∧ ∃ n' A' B', n' ≤ n + 1 ∧ (appX x dir (openN K Ls) zs).wn ≤ x.wn + 2 ∧ Se W w' d mb n' (appX x dir (openN K Ls) zs) p dir K (addL K Ls zs) A' B' ∧ Step2 w w' A B A' B' := by
  have had := log_add (rec := zs) h.log h.calm (by omega) (by omega) hop
  have hfar := h.far
  have hfl : (frameR zs).length ≤ 65543 := by
    have hu : zs.length ≤ 65536 := by omega
    exact frame_len zs hu
  refine (w_append W.heap.size d mb n x p dir (cpName dir K) (Ls.map Prod.fst) (openN K Ls) A B a zs L cap w hdir hfar.1 hfar.2 h.at_ h.calm.on h.calm.free h.calm.ok (by omega) hop hn (by rw [List.length_map]; exact hsg) hr hL hnil hz (by have := had.room; omega) h.from_.size).mono ?_
  rintro e w' ⟨rfl, n', A', B', hn', hL', hS'⟩
  rw [had.segs, had.op] at hL'
  exact ⟨rfl, n', A', B', hn', had.wn, ⟨hL', had.log, had.calm, hS'.from_ h.from_ h.low, hS'.low h.from_ h.low, h.tab⟩, hS'⟩
/-- Sync. -/
theorem s_sync {W w : World} {d mb n : Nat} {x : DSt} {p : Nat} {dir : ByteArray} {K : Kp} {Ls : Sg} {A B : Nat → Prop} (h : Se W w d mb n x p dir K Ls A B) (hdir : dirB dir = true) (hw : x.wn ≤ 999999900) (hop : openN K Ls < 99999998) (hsg : Ls.length ≤ 4194304) :
    Calls Tryz.prog 74 #[.pointer (some ⟨p, 0, none⟩)] w fun e w' => e = .returned (.int .i64 0) ∧ ∃ n' B', n' ≤ n ∧ (syncX x dir (Ls.map Prod.fst) (openN K Ls)).wn ≤ x.wn + 1 ∧ Se W w' d mb n' (syncX x dir (Ls.map Prod.fst) (openN K Ls)) p dir K Ls A B' ∧ Step2 w w' A B A B' := by
  obtain ⟨s1, s2, s3, s4⟩ := log_sync h.log h.calm (by omega)
  have hfar := h.far
  refine (w_sync W.heap.size d mb n x p dir (cpName dir K) (Ls.map Prod.fst) (openN K Ls) A B w hdir hfar.1 h.at_ h.calm.ok (by omega) (by rw [List.length_map]; exact hsg) s4).mono ?_
  rintro e w' ⟨rfl, n', B', hn', hL', hS'⟩
  exact ⟨rfl, n', B', hn', s3, ⟨hL', s1, s2, hS'.from_ h.from_ h.low, hS'.low h.from_ h.low, h.tab⟩, hS'⟩
/-- Cut, of some records. -/
theorem s_cut {W w : World} {d mb n : Nat} {x : DSt} {p : Nat} {dir : ByteArray} {K : Kp} {Ls : Sg} {A B : Nat → Prop} (h : Se W w d mb n x p dir K Ls A B) (hdir : dirB dir = true) (ka : Option Addr) (kn kc : Nat) (ts : List Sl) (recs : List (List Int)) (hw : x.wn + Ls.length ≤ 999999900) (hop : openN K Ls < 99999998) (hn : n < 1048574) (hsg : Ls.length ≤ 4194304) (hk : KeepIs w ka ts recs) (hkn : recs.length = kn) (hk4 : kn ≤ 4194304) (hne : recs ≠ []) (hlen : (logB frameR recs).length ≤ 4194304) (hr : ∀ r ∈ recs, r.length ≤ 65536) :
    Calls Tryz.prog 76 #[.pointer (some ⟨p, 0, none⟩), .slice ka kn kc] w fun e w' => e = .returned (.int .i64 0) ∧ ∃ n' x' B', n' ≤ n + 2 ∧ x'.wn ≤ x.wn + 4 + Ls.length ∧ Se W w' d mb n' x' p dir (some (openN K Ls, recs)) [] A B' ∧ Step2 w w' A B A B' := by
  obtain ⟨c1, c2, c3, c4, _⟩ := log_cut (recs := recs) h.log hdir h.calm hw hr hop
  have hfar := h.far
  have hcp : (cpName dir K).size ≤ 64 := by
    cases K with
    | none => exact (show (0 : Nat) ≤ 64 by omega)
    | some q =>
      have := nameB_size (cp_name hdir q.1)
      exact this
  have h8 : ∀ k ∈ Ls.map Prod.fst, k < 100000000 := h.log.folder.segr.2
  refine (w_cutC W.heap.size d mb n x p dir (cpName dir K) (Ls.map Prod.fst) (openN K Ls) A B ka kn kc ts recs w hdir hfar.1 hfar.2 h.at_ h.calm (by omega) hop hn h.log.noNew (by rw [List.length_map]; exact hsg) h8 hcp c1 hk hkn hk4 hne hlen h.from_.size).mono ?_
  rintro e w' ⟨rfl, ⟨n', B', hn', hd', hS', ha', hb'⟩, hwal⟩
  exact ⟨rfl, n', _, B', hn', c4, ⟨⟨hd', hwal, ha', hb', fun k ha => Nat.lt_of_lt_of_le (h.at_.ltA k ha) hS'.kept.size⟩, c2, c3, hS'.from_ h.from_ h.low, hS'.low h.from_ h.low, h.tab⟩, hS'⟩
end Go.Proofs.YtgpgkpciajajcaaGreatDoor

/- What every program answers: the log's awake. -/
namespace Go.Proofs.YtgpgkpciajajcaaGreatDoor
open Go.RowKit Go.Maps Go.Sort
set_option linter.unusedVariables false
set_option maxRecDepth 20000

def dirX : ByteArray := ⟨#[120]⟩
def x0 : DSt := ⟨false, false, 0, 0, 0, fun _ => none⟩
theorem x0_calm : x0.Calm := ⟨rfl, rfl, ⟨by decide, (fun h => by cases h), by decide⟩⟩
theorem log0 (dir : ByteArray) : Log (fun _ => none) dir none [] :=
  ⟨⟨⟨by simp [cpNums], fun k hk => by simp [cpNums] at hk⟩, ⟨by simp, fun k hk => by simp at hk⟩, fun s => by simp [namesL, cpNums]⟩, rfl, fun p hp => (by cases hp), fun p hp => (by cases hp), by decide⟩
end Go.Proofs.YtgpgkpciajajcaaGreatDoor

/- The log's awake: the walk. -/
namespace Go.Proofs.YtgpgkpciajajcaaGreatDoor
open Go.RowKit Go.Maps Go.Sort
set_option linter.unusedVariables false
set_option maxRecDepth 20000

/-- .. and where they lie. -/
def ReadsIn (P : Nat → Prop) (w : World) (a : Option Addr) (ts : List Sl) (recs : List (List Int)) : Prop := Reads w a ts recs ∧ (ts ≠ [] → ∀ y, a = some y → P y.block) ∧ ∀ (i : Nat) (t : Sl) (r : List Int), ts[i]? = some t → recs[i]? = some r → r ≠ [] → ∀ y, t.1 = some y → P y.block
theorem ReadsIn.kept {P : Nat → Prop} {w w' : World} {a : Option Addr} {ts : List Sl} {recs : List (List Int)} {X : Nat → Prop} (h : ReadsIn P w a ts recs) (hk : Kept w w' X) (hP : ∀ k, P k → k < w.heap.size ∧ ¬ X k) : ReadsIn P w' a ts recs := by
  obtain ⟨⟨h1, h2, h3⟩, h4, h5⟩ := h
  refine ⟨⟨?_, h2, fun i t r ht hr => ⟨(h3 i t r ht hr).1, ?_, (h3 i t r ht hr).2.2⟩⟩, h4, h5⟩
  · rcases h1 with h1 | ⟨b, off, e, hc⟩
    · exact .inl h1
    · by_cases hts : ts = []
      · exact .inl hts
      · have hp := hP b (h4 hts _ e)
        exact .inr ⟨b, off, e, fun j v hj => cell_kept hk hp.1 hp.2 (hc j v hj)⟩
  · exact rd_block (h3 i t r ht hr).2.1 (fun hne y hy => hk.block _ (hP _ (h5 i t r ht hr hne y hy)).1 (hP _ (h5 i t r ht hr hne y hy)).2)
theorem recsAt_get {w : World} {lo : Nat} {o : Option Nat} : ∀ {ts : List Sl} {rs : List (List Int)}, RecsAt w lo o ts rs → ∀ (i : Nat) (t : Sl) (r : List Int), ts[i]? = some t → rs[i]? = some r → RecAt w lo o t r
  | [], [], _, i, t, r, ht, _ => by simp at ht
  | t :: ts, r :: rs, h, 0, t', r', ht, hr => by
    simp at ht hr
    subst ht hr
    exact h.1
  | t :: ts, r :: rs, h, i + 1, t', r', ht, hr => recsAt_get h.2 i t' r' (by simpa using ht) (by simpa using hr)
  | [], _ :: _, h, _, _, _, _, _ => h.elim
  | _ :: _, [], h, _, _, _, _, _ => h.elim
theorem Step.from_ {W w w' : World} {B B' : Nat → Prop} (h : Step w w' B B') (hW : W.grownBy w none) (hl : ∀ k, B k → W.heap.size ≤ k) : W.grownBy w' none :=
  ⟨h.1.os.trans hW.os, h.1.tape.trans hW.tape, h.1.output.trans hW.output, Nat.le_trans hW.size h.1.size, fun k hk _ => (h.1.block k (Nat.lt_of_lt_of_le hk hW.size) (fun hx => by have := hl k hx; omega)).trans (hW.block k hk (by simp))⟩
theorem De.power {W w w' : World} {d mb n n' : Nat} {x y : DSt} {dir : ByteArray} {K K' : Kp} {Ls Ls' : Sg} {B : Nat → Prop} (h : De W w d mb n x dir K Ls B) (hd : DS w' W.heap.size d mb n' y B) (hs : Step w w' B B) (hl : Log y.V dir K' Ls') (hc : y.Calm) : De W w' d mb n' y dir K' Ls' B :=
  ⟨hd, hl, hc, hs.from_ h.from_ h.low, h.low, fun k hk => Nat.lt_of_lt_of_le (h.ltB k hk) hs.1.size, h.tab⟩
end Go.Proofs.YtgpgkpciajajcaaGreatDoor

/- A log that is written and opened, again and again. -/
namespace Go.Proofs.YtgpgkpciajajcaaGreatDoor
open Go.RowKit Go.Maps Go.Sort
set_option linter.unusedVariables false
set_option maxRecDepth 20000

theorem addL_len (K : Kp) (Ls : Sg) (r : List Int) : (addL K Ls r).length ≤ Ls.length + 1 := by
  unfold addL
  cases h : Ls.getLast? with
  | none => simp
  | some q =>
    dsimp only
    split
    · simp
    · simp only [List.length_append, List.length_dropLast, List.length_cons, List.length_nil]
      omega
theorem rollX_le (x : DSt) (dir : ByteArray) (op : Nat) : (rollX x dir op).2 ≤ op + 1 := by
  unfold rollX
  split
  · exact Nat.le_succ _
  · split
    · exact Nat.le_refl _
    · exact Nat.le_succ _
/-- Slices that hold records in the world W. -/
def ToldIn (W : World) (tt : List Sl) (rs : List (List Int)) : Prop := tt.length = rs.length ∧ ∀ (i : Nat) (t : Sl) (r : List Int), tt[i]? = some t → rs[i]? = some r → t.2.1 = r.length ∧ Rd W t.1 r ∧ r.length ≤ 140737488355000
theorem ToldIn.add {W : World} {tt : List Sl} {rs : List (List Int)} (h : ToldIn W tt rs) (t : Sl) (r : List Int) (h1 : t.2.1 = r.length) (h2 : Rd W t.1 r) (h3 : r.length ≤ 140737488355000) : ToldIn W (tt ++ [t]) (rs ++ [r]) := by
  refine ⟨by simp [h.1], fun i t' r' ht hr => ?_⟩
  rcases Nat.lt_or_ge i tt.length with hi | hi
  · rw [List.getElem?_append_left hi] at ht
    rw [List.getElem?_append_left (by rw [← h.1]; exact hi)] at hr
    exact h.2 i t' r' ht hr
  · rw [List.getElem?_append_right hi] at ht
    rw [List.getElem?_append_right (by rw [← h.1]; exact hi)] at hr
    have h0 : i - tt.length = 0 := by
      have := (List.getElem?_eq_some_iff.1 ht).1
      simp at this
      omega
    rw [h0] at ht
    rw [← h.1, h0] at hr
    simp at ht hr
    subst ht hr
    exact ⟨h1, h2, h3⟩
/-- The log behind i records, and what was told of them. -/
def TwAt (W wr : World) (d mb i : Nat) (m : Int) (p : Nat) (v : Sl) (rs : List (List Int)) (tl : List (List Int)) : Prop := ∃ (n : Nat) (x : DSt) (Ls : Sg) (A B : Nat → Prop) (tt : List Sl),
  Se W wr d mb n x p dirX none Ls A B ∧ recsOf Ls = rs ∧ ToldIn W tt tl ∧ SOwn slE 37 wr W.heap.size (slV v) tl.length tt ∧ (∀ k, (slV v).ownBlock = some k → ¬ A k ∧ ¬ B k) ∧ n ≤ i ∧ x.wn ≤ m ∧ openN none Ls ≤ i + 1 ∧ Ls.length ≤ i ∧ rs.length ≤ i
theorem TwAt.grown {W w w' : World} {d mb i p : Nat} {m : Int} {v : Sl} {rs tl : List (List Int)} (h : TwAt W w d mb i m p v rs tl) (hg : w.grownBy w' none) : TwAt W w' d mb i m p v rs tl := by
  obtain ⟨n, x, Ls, A, B, tt, h1, h2, h3, h4, h5⟩ := h
  exact ⟨n, x, Ls, A, B, tt, h1.grown hg, h2, h3, SOwn.kept h4 hg (by cases h : (slV v).ownBlock <;> simp), h5⟩
theorem TwAt.from_ {W w : World} {d mb i p : Nat} {m : Int} {v : Sl} {rs tl : List (List Int)} (h : TwAt W w d mb i m p v rs tl) : W.grownBy w none := by
  obtain ⟨n, x, Ls, A, B, tt, h1, _⟩ := h
  exact h1.from_
theorem sown_keptK {α : Type} {E : Elem α} {e : TypeId} {w w' : World} {base n : Nat} {v : Value} {l : List α} {X : Nat → Prop} (h : SOwn E e w base v n l) (hk : Kept w w' X) (hX : ∀ k, v.ownBlock = some k → ¬ X k) : SOwn E e w' base v n l := by
  refine ⟨h.1, ?_⟩
  rcases h.2 with h5 | ⟨g, cap, cur, rfl, k1, k2, k3⟩
  · exact .inl h5
  · refine .inr ⟨g, cap, cur, rfl, k1, ?_, k3⟩
    rw [hk.block g (by have := (Array.getElem?_eq_some_iff.1 k2).1; exact this) (hX g rfl)]
    exact k2
end Go.Proofs.YtgpgkpciajajcaaGreatDoor

/- WalTwice: the walk. -/
namespace Go.Proofs.YtgpgkpciajajcaaGreatDoor
open Go.RowKit Go.Maps Go.Sort
set_option linter.unusedVariables false
set_option maxRecDepth 20000

def blE : Elem Bool where
  cells b := [.bool b]
  size := 1
  pos := by decide
  len _ := rfl
  one t v h := by
    simp only [List.mem_cons, List.mem_nil_iff, or_false] at h
    subst h
    rfl
/-- Records as they come in. -/
structure RecsIn (W : World) (a : Option Addr) (ts : List Sl) (recs : List (List Int)) : Prop where
  rd : SRd slE W a ts
  len : ts.length = recs.length
  at_ : ∀ (i : Nat) (t : Sl) (r : List Int), ts[i]? = some t → recs[i]? = some r → t.2.1 = r.length ∧ Rd W t.1 r ∧ (t.1 = none → t.2.2 = 0) ∧ r.length ≤ 1048576
theorem RecsIn.get {W : World} {a : Option Addr} {ts : List Sl} {recs : List (List Int)} (h : RecsIn W a ts recs) {i : Nat} (hi : i < recs.length) : ∃ (b off : Nat) (t : Sl) (r : List Int), a = some ⟨b, off, none⟩ ∧ (∀ w, W.grownBy w none → w.cell? ⟨b, off + i, none⟩ = some (.slice t.1 t.2.1 t.2.2)) ∧ recs[i]? = some r ∧ t.2.1 = r.length ∧ Rd W t.1 r ∧ (t.1 = none → t.2.2 = 0) ∧ r.length ≤ 1048576 := by
  have hl := h.len
  obtain ⟨r, hr⟩ : ∃ r, recs[i]? = some r := ⟨_, List.getElem?_eq_getElem hi⟩
  obtain ⟨t, ht⟩ : ∃ t, ts[i]? = some t := ⟨_, List.getElem?_eq_getElem (by omega)⟩
  obtain ⟨kb, koff, e, hkc⟩ := h.rd.at (by omega)
  have a0 := hkc i _ 0 _ ht rfl
  obtain ⟨h1, h2, h3, h4⟩ := h.at_ i t r ht hr
  exact ⟨kb, koff, t, r, e, fun w hg => hg.cell (by simpa [slE, slV] using a0) (by simp), hr, h1, h2, h3, h4⟩
end Go.Proofs.YtgpgkpciajajcaaGreatDoor

