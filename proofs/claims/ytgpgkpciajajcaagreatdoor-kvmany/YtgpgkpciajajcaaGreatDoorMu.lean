/- Several texts in one: Wy, Wz, Xa, Xb, Xc, Kf. -/
import Derived.Test.YtgpgkpciajajcaaGreatDoorMt
import Derived.Test.YtgpgkpciajajcaaGreatDoorMn
/- What Cut makes of a log's folder. (No program's numbers.) -/
namespace Go.Proofs.YtgpgkpciajajcaaGreatDoor
open Go.RowKit Go.Maps Go.Sort
set_option linter.unusedVariables false
set_option maxRecDepth 20000

theorem del_all : ∀ (l : List ByteArray) (x : DSt), x.Calm → x.wn + l.length ≤ 999999990 → l.Nodup → (∀ s ∈ l, (x.V s).isSome = true ∧ nameB s = true) →
    DelOk x l ∧ (delAll x l).Calm ∧ (delAll x l).wn = x.wn + l.length ∧ ∀ t, (t ∈ l → (delAll x l).V t = none) ∧ (t ∉ l → (delAll x l).V t = x.V t)
  | [], x, hc, _, _, _ => ⟨trivial, hc, by simp [delAll], fun t => ⟨fun h => absurd h (by simp), fun _ => rfl⟩⟩
  | s :: l, x, hc, hw, hn, hs => by
    obtain ⟨h1, h2⟩ := hs s (by simp)
    obtain ⟨q, hq⟩ := Option.isSome_iff_exists.1 h1
    have hd := calm_del x hc s q hq
    have hc1 := calm_next x hc (by simp at hw; omega) (setV x.V s none)
    rw [List.nodup_cons] at hn
    have ih := del_all l { x with wn := x.wn + 1, V := setV x.V s none } hc1 (by simp at hw ⊢; omega) hn.2 (fun t ht => by
      have hne : t ≠ s := fun e => hn.1 (by rw [← e]; exact ht)
      refine ⟨?_, (hs t (by simp [ht])).2⟩
      show (setV x.V s none t).isSome = true
      rw [setV_other _ _ hne]
      exact (hs t (by simp [ht])).1)
    have e : delAll x (s :: l) = delAll { x with wn := x.wn + 1, V := setV x.V s none } l := by
      show delAll (x.delete s).2 l = _
      rw [hd]
    rw [e]
    refine ⟨⟨by rw [hd], hc.ok, h2, by rw [hd]; exact ih.1⟩, ih.2.1, ?_, fun t => ⟨fun ht => ?_, fun ht => ?_⟩⟩
    · rw [ih.2.2.1]; simp; omega
    · by_cases htl : t ∈ l
      · exact (ih.2.2.2 t).1 htl
      · have hts : t = s := by simpa [htl] using ht
        rw [(ih.2.2.2 t).2 htl, hts]
        exact setV_same _ _ _
    · simp only [List.mem_cons, not_or] at ht
      rw [(ih.2.2.2 t).2 ht.2]
      exact setV_other _ _ ht.1
theorem Log.noNew {V : Cont} {dir : ByteArray} {K : Option (Nat × List (List Int))} {Ls : List (Nat × List (List Int))} (h : Log V dir K Ls) : V (newN dir) = none := by
  cases hV : V (newN dir) with
  | none => rfl
  | some v =>
    exfalso
    have := (h.folder.mem (newN dir)).1 ⟨by rw [hV]; rfl, new_in dir⟩
    unfold namesL at this
    simp only [Bool.false_eq_true, if_false, List.nil_append, List.mem_append, List.mem_map] at this
    rcases this with ⟨j, _, e⟩ | ⟨j, _, e⟩
    · exact cp_ne_new dir _ e
    · exact new_ne_seg dir _ e.symm
theorem Log.seen {V : Cont} {dir : ByteArray} {K : Option (Nat × List (List Int))} {Ls : List (Nat × List (List Int))} (h : Log V dir K Ls) {s : ByteArray} (hs : s ∈ namesL dir (cpNums K) false (Ls.map Prod.fst)) : (V s).isSome = true := ((h.folder.mem s).2 hs).1
/-- What a cut deletes: the older checkpoint and the segments. -/
theorem olds_eq (dir : ByteArray) (K : Option (Nat × List (List Int))) (Ls : List (Nat × List (List Int))) : (if cpName dir K = ⟨#[]⟩ then [] else [cpName dir K]) ++ (Ls.map Prod.fst).map (segN dir) = namesL dir (cpNums K) false (Ls.map Prod.fst) := by
  unfold namesL
  cases K with
  | none => simp [cpName, cpNums]
  | some q =>
    have hne : cpN dir q.1 ≠ ⟨#[]⟩ := fun e => by
      have := congrArg ByteArray.size e
      rw [cpN, bN_size] at this
      simp [d8_len] at this
      have h2 : ByteArray.size ⟨#[]⟩ = 0 := rfl
      omega
    simp [cpName, cpNums, hne]
theorem openN_gt {V : Cont} {dir : ByteArray} {K : Option (Nat × List (List Int))} {Ls : List (Nat × List (List Int))} (h : Log V dir K Ls) : lastN K < openN K Ls := by
  rcases List.eq_nil_or_concat Ls with rfl | ⟨L0, q, rfl⟩
  · exact Nat.lt_succ_self _
  · rw [List.concat_eq_append] at *
    rw [openN_snoc]
    exact h.above q (by simp)
theorem log_cut {x : DSt} {dir : ByteArray} {K : Option (Nat × List (List Int))} {Ls : List (Nat × List (List Int))} {recs : List (List Int)} (h : Log x.V dir K Ls) (hdir : dirB dir = true) (hc : x.Calm) (hw : x.wn + Ls.length ≤ 999999900) (hr : ∀ r ∈ recs, r.length ≤ 65536) (hop : openN K Ls < 99999998) :
    DelOk (putX x dir (cpN dir (openN K Ls)) (logB frameR recs)) ((if cpName dir K = ⟨#[]⟩ then [] else [cpName dir K]) ++ (Ls.map Prod.fst).map (segN dir)) ∧ Log (cutX x dir (cpName dir K) (Ls.map Prod.fst) (openN K Ls) (logB frameR recs)).V dir (some (openN K Ls, recs)) [] ∧ (cutX x dir (cpName dir K) (Ls.map Prod.fst) (openN K Ls) (logB frameR recs)).Calm ∧ (cutX x dir (cpName dir K) (Ls.map Prod.fst) (openN K Ls) (logB frameR recs)).wn ≤ x.wn + 4 + Ls.length ∧ ∀ t, Lib.hasPrefix t.data.toList (inN dir).data.toList = false → (cutX x dir (cpName dir K) (Ls.map Prod.fst) (openN K Ls) (logB frameR recs)).V t = x.V t := by
  have hput := putX_eq x hc (by omega) dir (cpN dir (openN K Ls)) (logB frameR recs) h.noNew
  have hgt := openN_gt h
  have hl := names_lt dir false h.folder.cpr h.folder.segr
  have hnd : (namesL dir (cpNums K) false (Ls.map Prod.fst)).Nodup := hl.imp (fun hab => ba_ne hab)
  have hlen : (namesL dir (cpNums K) false (Ls.map Prod.fst)).length ≤ 1 + Ls.length := by
    rw [names_len]
    cases K <;> simp [cpNums, dl]
  -- none of what is deleted is the new checkpoint, nor the draft
  have hnm : ∀ s ∈ namesL dir (cpNums K) false (Ls.map Prod.fst), s ≠ cpN dir (openN K Ls) ∧ s ≠ newN dir ∧ nameB s = true := by
    intro s hs
    unfold namesL at hs
    simp only [Bool.false_eq_true, if_false, List.nil_append, List.mem_append, List.mem_map] at hs
    rcases hs with ⟨j, hj, rfl⟩ | ⟨j, _, rfl⟩
    · refine ⟨fun e => ?_, cp_ne_new dir j, cp_name hdir j⟩
      have h8 := h.folder.cpr.2 j hj
      have e2 := cp_inj dir h8 (by omega) e
      cases K with
      | none => cases hj
      | some q =>
        have hjq : j = q.1 := by simpa [cpNums] using hj
        have : lastN (some q) = q.1 := rfl
        omega
    · exact ⟨(cp_ne_seg dir _ _).symm, (new_ne_seg dir j).symm, seg_name hdir j⟩
  obtain ⟨y, ey⟩ : ∃ y, y = putX x dir (cpN dir (openN K Ls)) (logB frameR recs) := ⟨_, rfl⟩
  have hyc : y.Calm := by
    rw [ey, hput]
    obtain ⟨h1, h2, h3⟩ := hc.ok
    exact ⟨hc.on, hc.free, ⟨by dsimp only; omega, h2, h3⟩⟩
  have hyw : y.wn = x.wn + 3 := by rw [ey, hput]
  have hyV : ∀ t, t ≠ cpN dir (openN K Ls) → t ≠ newN dir → y.V t = x.V t := by
    intro t h1 h2
    rw [ey, hput]
    show setV (setV x.V _ _) _ _ t = _
    rw [setV_other _ _ h1, setV_other _ _ h2]
  have hyc2 : y.V (cpN dir (openN K Ls)) = some (logB frameR recs, (logB frameR recs).length) := by
    rw [ey, hput]
    exact setV_same _ _ _
  have hyn : y.V (newN dir) = none := by
    rw [ey, hput]
    show setV (setV x.V _ _) _ _ _ = _
    rw [setV_other _ _ (cp_ne_new dir _).symm, setV_same]
  obtain ⟨d1, d2, d3, d4⟩ := del_all (namesL dir (cpNums K) false (Ls.map Prod.fst)) y hyc (by rw [hyw]; omega) hnd (fun s hs => ⟨by rw [hyV s (hnm s hs).1 (hnm s hs).2.1]; exact h.seen hs, (hnm s hs).2.2⟩)
  have hcut : cutX x dir (cpName dir K) (Ls.map Prod.fst) (openN K Ls) (logB frameR recs) = delAll y (namesL dir (cpNums K) false (Ls.map Prod.fst)) := by
    unfold cutX
    rw [olds_eq, ey]
  rw [olds_eq, ← ey, hcut]
  have hcpin : cpN dir (openN K Ls) ∉ namesL dir (cpNums K) false (Ls.map Prod.fst) := fun hin => (hnm _ hin).1 rfl
  have hV1 : (delAll y (namesL dir (cpNums K) false (Ls.map Prod.fst))).V (cpN dir (openN K Ls)) = some (logB frameR recs, (logB frameR recs).length) := by rw [(d4 _).2 hcpin]; exact hyc2
  refine ⟨d1, ⟨⟨?_, ?_, fun s => ?_⟩, ?_, ?_, ?_, ?_⟩, d2, by rw [d3, hyw]; omega, fun t ht => ?_⟩
  · exact ⟨by simp [cpNums], fun k hk => by simp [cpNums] at hk; omega⟩
  · exact ⟨by simp, fun k hk => by cases hk⟩
  · constructor
    · rintro ⟨hs, hp⟩
      by_cases hin : s ∈ namesL dir (cpNums K) false (Ls.map Prod.fst)
      · rw [(d4 s).1 hin] at hs; cases hs
      · rw [(d4 s).2 hin] at hs
        by_cases e1 : s = cpN dir (openN K Ls)
        · subst e1; simp [namesL, cpNums]
        · exfalso
          by_cases e2 : s = newN dir
          · subst e2; rw [hyn] at hs; cases hs
          · rw [hyV s e1 e2] at hs
            exact hin ((h.folder.mem s).1 ⟨hs, hp⟩)
    · intro hs
      have e1 : s = cpN dir (openN K Ls) := by simpa [namesL, cpNums] using hs
      subst e1
      exact ⟨by rw [hV1]; rfl, cp_in dir _⟩
  · exact ⟨rfl, ⟨_, hV1⟩, hr, by dsimp only; omega⟩
  · intro p hp; cases hp
  · intro p hp; cases hp
  · show openN K Ls < 100000000
    omega
  · have h1 : t ∉ namesL dir (cpNums K) false (Ls.map Prod.fst) := fun hin => by
      have := ((h.folder.mem t).2 hin).2
      rw [ht] at this
      cases this
    rw [(d4 t).2 h1]
    refine hyV t (fun e => ?_) (fun e => ?_)
    · rw [e, cp_in] at ht; cases ht
    · rw [e, new_in] at ht; cases ht
end Go.Proofs.YtgpgkpciajajcaaGreatDoor

/- Lists of byte strings: alike? -/
namespace Go.Proofs.YtgpgkpciajajcaaGreatDoor
open Go.RowKit Go.Maps Go.Sort
set_option linter.unusedVariables false
set_option maxRecDepth 20000

/-- A slice of slices is read as these records. -/
def Reads (w : World) (a : Option Addr) (ts : List Sl) (recs : List (List Int)) : Prop := SRd slE w a ts ∧ ts.length = recs.length ∧ ∀ (i : Nat) (t : Sl) (r : List Int), ts[i]? = some t → recs[i]? = some r → t.2.1 = r.length ∧ Rd w t.1 r ∧ r.length ≤ 140737488355000
theorem Reads.grown {w w' : World} {a : Option Addr} {ts : List Sl} {recs : List (List Int)} (h : Reads w a ts recs) (hg : w.grownBy w' none) : Reads w' a ts recs :=
  ⟨h.1.grown hg (by simp), h.2.1, fun i t r h1 h2 => ⟨(h.2.2 i t r h1 h2).1, (h.2.2 i t r h1 h2).2.1.grown hg (by simp), (h.2.2 i t r h1 h2).2.2⟩⟩
theorem Reads.at {w : World} {a : Option Addr} {ts : List Sl} {recs : List (List Int)} (h : Reads w a ts recs) {i : Nat} (hi : i < recs.length) : ∃ b off t r, a = some ⟨b, off, none⟩ ∧ recs[i]? = some r ∧ w.cell? ⟨b, off + i, none⟩ = some (.slice t.1 t.2.1 t.2.2) ∧ t.2.1 = r.length ∧ Rd w t.1 r ∧ r.length ≤ 140737488355000 ∧ ts[i]? = some t := by
  have hl := h.2.1
  obtain ⟨r, hr⟩ : ∃ r, recs[i]? = some r := ⟨_, List.getElem?_eq_getElem hi⟩
  obtain ⟨t, ht⟩ : ∃ t, ts[i]? = some t := ⟨_, List.getElem?_eq_getElem (by omega)⟩
  obtain ⟨kb, koff, e, hkc⟩ := h.1.at (by omega)
  have a0 := hkc i _ 0 _ ht rfl
  obtain ⟨h1, h2, h3⟩ := h.2.2 i t r ht hr
  exact ⟨kb, koff, t, r, e, hr, by simpa [slE, slV] using a0, h1, h2, h3, ht⟩
theorem recs_take_eq {xs ys : List (List Int)} {i : Nat} {r s : List Int} (hx : xs[i]? = some r) (hy : ys[i]? = some s) (h : xs.take i = ys.take i) (e : r = s) : xs.take (i + 1) = ys.take (i + 1) := by
  rw [List.take_add_one, List.take_add_one, hx, hy, h, e]
end Go.Proofs.YtgpgkpciajajcaaGreatDoor

/- A log, call by call, as a caller's walk uses it. -/
namespace Go.Proofs.YtgpgkpciajajcaaGreatDoor
open Go.RowKit Go.Maps Go.Sort
set_option linter.unusedVariables false
set_option maxRecDepth 20000

abbrev Kp := Option (Nat × List (List Int))
abbrev Sg := List (Nat × List (List Int))
/-- A disk with a whole log's folder on it; nothing of the world W has changed. -/
structure De (W w : World) (d mb n : Nat) (x : DSt) (dir : ByteArray) (K : Kp) (Ls : Sg) (B : Nat → Prop) : Prop where
  disk : DS w W.heap.size d mb n x B
  log : Log x.V dir K Ls
  calm : x.Calm
  from_ : W.grownBy w none
  low : ∀ k, B k → W.heap.size ≤ k
  ltB : ∀ k, B k → k < w.heap.size
  tab : Tab W
/-- .. and the log open over it. -/
structure Se (W w : World) (d mb n : Nat) (x : DSt) (p : Nat) (dir : ByteArray) (K : Kp) (Ls : Sg) (A B : Nat → Prop) : Prop where
  at_ : LogAt w W.heap.size d mb n x p dir (cpName dir K) (Ls.map Prod.fst) (openN K Ls) A B
  log : Log x.V dir K Ls
  calm : x.Calm
  from_ : W.grownBy w none
  low : ∀ k, A k ∨ B k → W.heap.size ≤ k
  tab : Tab W
theorem Se.de {W w : World} {d mb n : Nat} {x : DSt} {p : Nat} {dir : ByteArray} {K : Kp} {Ls : Sg} {A B : Nat → Prop} (h : Se W w d mb n x p dir K Ls A B) : De W w d mb n x dir K Ls B :=
  ⟨h.at_.disk, h.log, h.calm, h.from_, fun k hk => h.low k (.inr hk), h.at_.ltB, h.tab⟩
theorem Se.grown {W w w' : World} {d mb n : Nat} {x : DSt} {p : Nat} {dir : ByteArray} {K : Kp} {Ls : Sg} {A B : Nat → Prop} (h : Se W w d mb n x p dir K Ls A B) (hg : w.grownBy w' none) : Se W w' d mb n x p dir K Ls A B :=
  ⟨h.at_.grown hg, h.log, h.calm, h.from_.trans hg, h.low, h.tab⟩
theorem De.grown {W w w' : World} {d mb n : Nat} {x : DSt} {dir : ByteArray} {K : Kp} {Ls : Sg} {B : Nat → Prop} (h : De W w d mb n x dir K Ls B) (hg : w.grownBy w' none) : De W w' d mb n x dir K Ls B :=
  ⟨DV.kept h.disk hg, h.log, h.calm, h.from_.trans hg, h.low, fun k hk => Nat.lt_of_lt_of_le (h.ltB k hk) hg.size, h.tab⟩
theorem Se.far {W w : World} {d mb n : Nat} {x : DSt} {p : Nat} {dir : ByteArray} {K : Kp} {Ls : Sg} {A B : Nat → Prop} (h : Se W w d mb n x p dir K Ls A B) : Tab w ∧ Far A B :=
  ⟨h.tab.grown h.from_, fun g hg => ⟨fun ha => by have := h.low g (.inl ha); have := h.tab.lt hg; omega, fun hb => by have := h.low g (.inr hb); have := h.tab.lt hg; omega⟩⟩
theorem Step2.from_ {W w w' : World} {A B A' B' : Nat → Prop} (h : Step2 w w' A B A' B') (hW : W.grownBy w none) (hl : ∀ k, A k ∨ B k → W.heap.size ≤ k) : W.grownBy w' none :=
  ⟨h.kept.os.trans hW.os, h.kept.tape.trans hW.tape, h.kept.output.trans hW.output, Nat.le_trans hW.size h.kept.size, fun k hk _ => (h.kept.block k (Nat.lt_of_lt_of_le hk hW.size) (fun hx => by have := hl k hx; omega)).trans (hW.block k hk (by simp))⟩
theorem Step2.low {W w w' : World} {A B A' B' : Nat → Prop} (h : Step2 w w' A B A' B') (hW : W.grownBy w none) (hl : ∀ k, A k ∨ B k → W.heap.size ≤ k) : ∀ k, A' k ∨ B' k → W.heap.size ≤ k := fun k hk => by
  rcases Nat.lt_or_ge k w.heap.size with h1 | h1
  · exact hl k (hk.elim (fun ha => .inl (h.oldA k h1 ha)) (fun hb => .inr (h.oldB k h1 hb)))
  · exact Nat.le_trans hW.size h1
/-- Open, of a folder that is whole. -/
theorem s_open {W w : World} {d mb n : Nat} {x : DSt} {dir : ByteArray} {K : Kp} {Ls : Sg} {B : Nat → Prop} (h : De W w d mb n x dir K Ls B) (hdir : dirB dir = true) (hn : n ≤ 4194304) (hsz : (cpRecs K ++ recsOf Ls).length ≤ 4194304) (hln : Ls.length ≤ 4194304) :
    Calls Tryz.prog 80 #[.pointer (some ⟨d, 0, none⟩), .string dir] w fun e w' => ∃ (p : Nat) (v : Sl) (m lo : Nat) (A : Nat → Prop), e = .returned (.tuple #[.pointer (some ⟨p, 0, none⟩), slV v, .int .i64 0]) ∧ Se W w' d mb n x p dir K Ls A B ∧ RecsLo lo w' (slV v) m (cpRecs K ++ recsOf Ls) ∧ w.grownBy w' none ∧ (∀ k, A k → w.heap.size ≤ k ∧ k < lo) ∧ w.heap.size ≤ lo := by
  refine (w_open W.heap.size d mb n dir x B K Ls w hdir (h.tab.grown h.from_) h.disk h.ltB h.calm.on h.log hn hsz hln).mono ?_
  rintro e w' ⟨p, v, m, lo, a, c, rfl, hW, hso, hp, hpl, hal, hro, hg⟩
  have hA : ∀ k, (k = p ∨ ∃ y, a = some y ∧ k = y.block) → w.heap.size ≤ k ∧ k < lo := by
    rintro k (rfl | ⟨y, rfl, rfl⟩)
    · exact ⟨hp, hpl⟩
    · exact ⟨(hso.block y.block rfl).1, hal y rfl⟩
  have hne : ∀ y, a = some y → y.block ≠ p := fun y hy e => by
    subst hy
    obtain ⟨g, cap, e1, _, _⟩ := hso.some (by simp)
    have e2 : y = ⟨g, 0, none⟩ := by injection e1 with e1; exact Option.some.inj e1
    rw [e2] at e
    simp only at e
    rcases hso.2 with ⟨h', _⟩ | ⟨g', cap', cur, h', k1, k2, _⟩
    · cases h'
    · have e3 : g' = g := by
        injection h' with h'
        have := Option.some.inj h'
        rw [e2] at this
        exact (congrArg Addr.block this).symm
      subst e3
      obtain ⟨cc, r1, _⟩ := hW
      rw [e, r1] at k2
      simp only [Option.some.injEq, Obj.cells.injEq] at k2
      exact absurd k2.2.1 (by decide)
  refine ⟨p, v, m, lo, fun k => k = p ∨ ∃ y, a = some y ∧ k = y.block, rfl, ⟨⟨DV.kept h.disk hg, ⟨a, c, hW, (IOwn.of hso).base (Nat.zero_le _), .inl rfl, fun y hy => ⟨.inr ⟨y, hy, rfl⟩, hne y hy⟩⟩, fun k ha hb => ?_, fun k hb => Nat.lt_of_lt_of_le (h.ltB k hb) hg.size, ?_⟩, h.log, h.calm, h.from_.trans hg, ?_, h.tab⟩, hro, hg, hA, by omega⟩
  · have h1 := (hA k ha).1
    have h2 := h.ltB k hb
    omega
  · rintro k (rfl | ⟨y, rfl, rfl⟩)
    · exact hW.lt
    · exact (hso.block y.block rfl).2
  · rintro k (ha | hb)
    · exact Nat.le_trans h.from_.size (hA k ha).1
    · exact h.low k hb
theorem frame_len (zs : List Int) (h : zs.length ≤ 65536) : (frameR zs).length ≤ 65543 := by
  have h1 := enc_len_le 2 zs.length (by omega)
  have h4 : (four (sumR zs)).length = 4 := rfl
  rw [frameR]
  simp only [List.length_append, h4]
  omega
/-- Append. -/
theorem s_append {W w : World} {d mb n : Nat} {x : DSt} {p : Nat} {dir : ByteArray} {K : Kp} {Ls : Sg} {A B : Nat → Prop} (h : Se W w d mb n x p dir K Ls A B) (hdir : dirB dir = true) (a : Option Addr) (zs : List Int) (L cap : Nat) (hw : x.wn ≤ 999999900) (hop : openN K Ls < 99999998) (hn : n < 1048576) (hsg : Ls.length ≤ 4194304) (hr : Rd w a zs) (hL : zs.length = L) (hnil : a = none → cap = 0) (hz : L ≤ 65536) :
    Calls Tryz.prog 73 #[.pointer (some ⟨p, 0, none⟩), .slice a L cap] w fun e w' => e = .returned (.int .i64 0) ∧ ∃ n' A' B', n' ≤ n + 1 ∧ (appX x dir (openN K Ls) zs).wn ≤ x.wn + 2 ∧ Se W w' d mb n' (appX x dir (openN K Ls) zs) p dir K (addL K Ls zs) A' B' ∧ Step2 w w' A B A' B' := by
  have had := log_add (rec := zs) h.log h.calm (by omega) (by omega) hop
  have hfar := h.far
  have hfl : (frameR zs).length ≤ 65543 := by
    have hu : zs.length ≤ 65536 := by omega
    exact frame_len zs hu
  refine (w_append W.heap.size d mb n x p dir (cpName dir K) (Ls.map Prod.fst) (openN K Ls) A B a zs L cap w hdir hfar.1 hfar.2 h.at_ h.calm.on h.calm.free h.calm.ok (by omega) hop hn (by rw [List.length_map]; exact hsg) hr hL hnil hz (by have := had.room; omega) h.from_.size).mono ?_
  rintro e w' ⟨rfl, n', A', B', hn', hL', hS'⟩
  rw [had.segs, had.op] at hL'
  exact ⟨rfl, n', A', B', hn', had.wn, ⟨hL', had.log, had.calm, hS'.from_ h.from_ h.low, hS'.low h.from_ h.low, h.tab⟩, hS'⟩
/-- Sync. -/
theorem s_sync {W w : World} {d mb n : Nat} {x : DSt} {p : Nat} {dir : ByteArray} {K : Kp} {Ls : Sg} {A B : Nat → Prop} (h : Se W w d mb n x p dir K Ls A B) (hdir : dirB dir = true) (hw : x.wn ≤ 999999900) (hop : openN K Ls < 99999998) (hsg : Ls.length ≤ 4194304) :
    Calls Tryz.prog 74 #[.pointer (some ⟨p, 0, none⟩)] w fun e w' => e = .returned (.int .i64 0) ∧ ∃ n' B', n' ≤ n ∧ (syncX x dir (Ls.map Prod.fst) (openN K Ls)).wn ≤ x.wn + 1 ∧ Se W w' d mb n' (syncX x dir (Ls.map Prod.fst) (openN K Ls)) p dir K Ls A B' ∧ Step2 w w' A B A B' := by
  obtain ⟨s1, s2, s3, s4⟩ := log_sync h.log h.calm (by omega)
  have hfar := h.far
  refine (w_sync W.heap.size d mb n x p dir (cpName dir K) (Ls.map Prod.fst) (openN K Ls) A B w hdir hfar.1 h.at_ h.calm.ok (by omega) (by rw [List.length_map]; exact hsg) s4).mono ?_
  rintro e w' ⟨rfl, n', B', hn', hL', hS'⟩
  exact ⟨rfl, n', B', hn', s3, ⟨hL', s1, s2, hS'.from_ h.from_ h.low, hS'.low h.from_ h.low, h.tab⟩, hS'⟩
/-- Cut, of some records. -/
theorem s_cut {W w : World} {d mb n : Nat} {x : DSt} {p : Nat} {dir : ByteArray} {K : Kp} {Ls : Sg} {A B : Nat → Prop} (h : Se W w d mb n x p dir K Ls A B) (hdir : dirB dir = true) (ka : Option Addr) (kn kc : Nat) (ts : List Sl) (recs : List (List Int)) (hw : x.wn + Ls.length ≤ 999999900) (hop : openN K Ls < 99999998) (hn : n < 1048574) (hsg : Ls.length ≤ 4194304) (hk : KeepIs w ka ts recs) (hkn : recs.length = kn) (hk4 : kn ≤ 4194304) (hne : recs ≠ []) (hlen : (logB frameR recs).length ≤ 4194304) (hr : ∀ r ∈ recs, r.length ≤ 65536) :
    Calls Tryz.prog 76 #[.pointer (some ⟨p, 0, none⟩), .slice ka kn kc] w fun e w' => e = .returned (.int .i64 0) ∧ ∃ n' x' B', n' ≤ n + 2 ∧ x'.wn ≤ x.wn + 4 + Ls.length ∧ Se W w' d mb n' x' p dir (some (openN K Ls, recs)) [] A B' ∧ Step2 w w' A B A B' := by
  obtain ⟨c1, c2, c3, c4, _⟩ := log_cut (recs := recs) h.log hdir h.calm hw hr hop
  have hfar := h.far
  have hcp : (cpName dir K).size ≤ 64 := by
    cases K with
    | none => exact (show (0 : Nat) ≤ 64 by omega)
    | some q =>
      have := nameB_size (cp_name hdir q.1)
      exact this
  have h8 : ∀ k ∈ Ls.map Prod.fst, k < 100000000 := h.log.folder.segr.2
  refine (w_cutC W.heap.size d mb n x p dir (cpName dir K) (Ls.map Prod.fst) (openN K Ls) A B ka kn kc ts recs w hdir hfar.1 hfar.2 h.at_ h.calm (by omega) hop hn h.log.noNew (by rw [List.length_map]; exact hsg) h8 hcp c1 hk hkn hk4 hne hlen h.from_.size).mono ?_
  rintro e w' ⟨rfl, ⟨n', B', hn', hd', hS', ha', hb'⟩, hwal⟩
  exact ⟨rfl, n', _, B', hn', c4, ⟨⟨hd', hwal, ha', hb', fun k ha => Nat.lt_of_lt_of_le (h.at_.ltA k ha) hS'.kept.size⟩, c2, c3, hS'.from_ h.from_ h.low, hS'.low h.from_ h.low, h.tab⟩, hS'⟩
end Go.Proofs.YtgpgkpciajajcaaGreatDoor

/- What every program answers: the log's awake. -/
namespace Go.Proofs.YtgpgkpciajajcaaGreatDoor
open Go.RowKit Go.Maps Go.Sort
set_option linter.unusedVariables false
set_option maxRecDepth 20000

def dirX : ByteArray := ⟨#[120]⟩
theorem dirX_ok : dirB dirX = true := by decide
def x0 : DSt := ⟨false, false, 0, 0, 0, fun _ => none⟩
theorem x0_calm : x0.Calm := ⟨rfl, rfl, ⟨by decide, (fun h => by cases h), by decide⟩⟩
theorem log0 (dir : ByteArray) : Log (fun _ => none) dir none [] :=
  ⟨⟨⟨by simp [cpNums], fun k hk => by simp [cpNums] at hk⟩, ⟨by simp, fun k hk => by simp at hk⟩, fun s => by simp [namesL, cpNums]⟩, rfl, fun p hp => (by cases hp), fun p hp => (by cases hp), by decide⟩
theorem fl1 (z : Int) : (frameR [z]).length = 6 := by
  have h4 : (four (sumR [z])).length = 4 := rfl
  have h1 : (enc [z].length).length = 1 := by rw [enc_small (by simp)]; rfl
  rw [frameR]
  simp only [List.length_append, h4, h1]
  rfl
theorem keptN0 (u : Nat) : keptN 0 u = 0 := by
  unfold keptN
  simp
/-- One file alone. -/
theorem log1 {V : Cont} {dir : ByteArray} {recs : List (List Int)} {syn : Nat} (hV : V (segN dir 1) = some (logB frameR recs, syn)) (ho : ∀ s, s ≠ segN dir 1 → V s = none) (hr : ∀ r ∈ recs, r.length ≤ 65536) : Log V dir none [(1, recs)] := by
  refine ⟨⟨⟨by simp [cpNums], fun k hk => by simp [cpNums] at hk⟩, ⟨by simp, fun k hk => by simp at hk; omega⟩, fun s => ?_⟩, rfl, fun p hp => ?_, fun p hp => ?_, by decide⟩
  · simp only [namesL, cpNums, List.map_nil, Bool.false_eq_true, if_false, List.nil_append, List.map_cons, List.mem_singleton]
    constructor
    · rintro ⟨h1, _⟩
      by_cases e : s = segN dir 1
      · exact e
      · rw [ho s e] at h1; cases h1
    · rintro rfl
      exact ⟨by rw [hV]; rfl, seg_in dir 1⟩
  · simp only [List.mem_singleton] at hp
    subst hp
    exact ⟨⟨syn, hV⟩, hr, by dsimp only; omega⟩
  · simp only [List.mem_singleton] at hp
    subst hp
    exact Nat.lt_succ_self 0
/-- The disk behind the first calls, and behind the power's going. -/
theorem awake_disk (dir : ByteArray) :
    let xa := appX x0 dir 1 [1]
    let xb := syncX xa dir [1] 1
    let xc := appX xb dir 1 [2]
    Log ({ (xc.power 0) with off := false } : DSt).V dir none [(1, [[1]])] ∧ ({ (xc.power 0) with off := false } : DSt).Calm ∧ ({ (xc.power 0) with off := false } : DSt).wn ≤ 10 := by
  intro xa xb xc
  have ea : xa = ⟨false, false, 0, 0, 0 + 1, setV (fun _ => none) (segN dir 1) (some (frameR [1], 0))⟩ := by
    show appX x0 dir 1 [1] = _
    unfold appX
    have hroll : rollX x0 dir 1 = (x0, 1) := rfl
    rw [hroll, calm_app x0 x0_calm]
    rfl
  have ca : xa.Calm := by rw [ea]; exact calm_next x0 x0_calm (by decide) _
  have va : xa.V (segN dir 1) = some (frameR [1], 0) := by rw [ea]; exact setV_same (fun _ => none) (segN dir 1) (some (frameR [1], 0))
  have eb : xb = { xa with wn := xa.wn + 1, V := setV xa.V (segN dir 1) (some (frameR [1], 6)) } := by
    show syncX xa dir [1] 1 = _
    unfold syncX
    rw [if_pos (by decide), calm_sync xa ca (segN dir 1) _ va]
    dsimp only
    rw [fl1]
  have wa : xa.wn = 1 := by rw [ea]; rfl
  have cb : xb.Calm := by rw [eb]; exact calm_next xa ca (by rw [wa]; decide) _
  have wb : xb.wn = 2 := by rw [eb]; dsimp only; rw [wa]; rfl
  have vb : xb.V (segN dir 1) = some (frameR [1], 6) := by rw [eb]; exact setV_same _ _ _
  have ob : oldV xb.V (segN dir 1) = (frameR [1], 6) := by unfold oldV; rw [vb]; rfl
  have ec : xc = { xb with wn := xb.wn + 1, V := setV xb.V (segN dir 1) (some (frameR [1] ++ frameR [2], 6)) } := by
    show appX xb dir 1 [2] = _
    unfold appX
    have hroll : rollX xb dir 1 = (xb, 1) := by
      unfold rollX
      rw [vb]
      dsimp only
      rw [fl1]
      rfl
    rw [hroll]
    dsimp only
    rw [calm_app xb cb, ob]
  have cc : xc.Calm := by rw [ec]; exact calm_next xb cb (by rw [wb]; decide) _
  have wc : xc.wn = 3 := by rw [ec]; dsimp only; rw [wb]; rfl
  have oth : ∀ s, s ≠ segN dir 1 → xc.V s = none := by
    intro s hs
    rw [ec]
    show setV xb.V _ _ s = none
    rw [setV_other _ _ hs, eb]
    show setV xa.V _ _ s = none
    rw [setV_other _ _ hs, ea]
    exact setV_other (fun _ => none) (some (frameR [1], 0)) hs
  have vc : xc.V (segN dir 1) = some (frameR [1] ++ frameR [2], 6) := by rw [ec]; exact setV_same _ _ _
  have hp : xc.power 0 = ⟨true, false, 0, 0, xc.wn, fun t => (xc.V t).map (cutV 0)⟩ := by
    unfold DSt.power
    rw [if_neg (by rw [cc.on]; simp)]
  rw [hp]
  refine ⟨?_, ⟨rfl, rfl, ⟨(by dsimp only; rw [wc]; decide), (fun h => by cases h), (by dsimp only; omega)⟩⟩, by dsimp only; rw [wc]; decide⟩
  refine log1 (syn := 6) ?_ (fun s hs => ?_) (fun r hr => by simp at hr; subst hr; decide)
  · show (xc.V (segN dir 1)).map (cutV 0) = _
    rw [vc]
    simp only [Option.map_some, cutV, keptN0, Nat.add_zero, logB_one]
    rw [List.take_append_of_le_length (by rw [fl1]; exact Nat.le_refl _), List.take_of_length_le (by rw [fl1]; exact Nat.le_refl _)]
  · show (xc.V s).map (cutV 0) = none
    rw [oth s hs]
    rfl
end Go.Proofs.YtgpgkpciajajcaaGreatDoor

/- The log's awake: the walk. -/
namespace Go.Proofs.YtgpgkpciajajcaaGreatDoor
open Go.RowKit Go.Maps Go.Sort
set_option linter.unusedVariables false
set_option maxRecDepth 20000

/-- .. and where they lie. -/
def ReadsIn (P : Nat → Prop) (w : World) (a : Option Addr) (ts : List Sl) (recs : List (List Int)) : Prop := Reads w a ts recs ∧ (ts ≠ [] → ∀ y, a = some y → P y.block) ∧ ∀ (i : Nat) (t : Sl) (r : List Int), ts[i]? = some t → recs[i]? = some r → r ≠ [] → ∀ y, t.1 = some y → P y.block
theorem ReadsIn.kept {P : Nat → Prop} {w w' : World} {a : Option Addr} {ts : List Sl} {recs : List (List Int)} {X : Nat → Prop} (h : ReadsIn P w a ts recs) (hk : Kept w w' X) (hP : ∀ k, P k → k < w.heap.size ∧ ¬ X k) : ReadsIn P w' a ts recs := by
  obtain ⟨⟨h1, h2, h3⟩, h4, h5⟩ := h
  refine ⟨⟨?_, h2, fun i t r ht hr => ⟨(h3 i t r ht hr).1, ?_, (h3 i t r ht hr).2.2⟩⟩, h4, h5⟩
  · rcases h1 with h1 | ⟨b, off, e, hc⟩
    · exact .inl h1
    · by_cases hts : ts = []
      · exact .inl hts
      · have hp := hP b (h4 hts _ e)
        exact .inr ⟨b, off, e, fun j v hj => cell_kept hk hp.1 hp.2 (hc j v hj)⟩
  · exact rd_block (h3 i t r ht hr).2.1 (fun hne y hy => hk.block _ (hP _ (h5 i t r ht hr hne y hy)).1 (hP _ (h5 i t r ht hr hne y hy)).2)
theorem recsAt_get {w : World} {lo : Nat} {o : Option Nat} : ∀ {ts : List Sl} {rs : List (List Int)}, RecsAt w lo o ts rs → ∀ (i : Nat) (t : Sl) (r : List Int), ts[i]? = some t → rs[i]? = some r → RecAt w lo o t r
  | [], [], _, i, t, r, ht, _ => by simp at ht
  | t :: ts, r :: rs, h, 0, t', r', ht, hr => by
    simp at ht hr
    subst ht hr
    exact h.1
  | t :: ts, r :: rs, h, i + 1, t', r', ht, hr => recsAt_get h.2 i t' r' (by simpa using ht) (by simpa using hr)
  | [], _ :: _, h, _, _, _, _, _ => h.elim
  | _ :: _, [], h, _, _, _, _, _ => h.elim
theorem RecsLo.reads {lo n : Nat} {w : World} {v : Sl} {recs : List (List Int)} (h : RecsLo lo w (slV v) n recs) (hr : ∀ r ∈ recs, r.length ≤ 65536) : ∃ ts, ReadsIn (fun k => lo ≤ k ∧ k < w.heap.size) w v.1 ts recs ∧ recs.length = v.2.1 := by
  obtain ⟨ts, h1, h2, h3, h4⟩ := h
  obtain ⟨va, vn, vc⟩ := v
  obtain ⟨_, _, e⟩ := sownSl h1
  have hvn : vn = n := by unfold slV at e; injection e
  subst hvn
  refine ⟨ts, ⟨⟨h1.rd, h2.len, fun i t r ht hr' => ?_⟩, fun hne y hy => ?_, fun i t r ht hr' hne y hy => ?_⟩, h3.symm⟩
  · have := recsAt_get h2 i t r ht hr'
    exact ⟨this.1, this.2.2.2.1, by have := hr r (List.mem_of_getElem? hr'); omega⟩
  · have hy' : va = some y := hy
    subst hy'
    exact h1.block y.block rfl
  · have := recsAt_get h2 i t r ht hr'
    exact ⟨(this.2.2.2.2 hne y hy).1, rd_lt (hy ▸ this.2.2.2.1) hne⟩
theorem rd_lit1 (w : World) (z : Int) (hz : 0 ≤ z ∧ z ≤ 255) : Rd (w.alloc (.cells #[.int .u8 z] 5)) (some ⟨w.heap.size, 0, none⟩) [z] := by
  refine ⟨.inr ⟨w.heap.size, 0, rfl, fun i hi => ?_⟩, fun y hy => by simp at hy; subst hy; exact hz⟩
  have h0 : i = 0 := by simp at hi; omega
  subst h0
  exact (row1 w (.int .u8 z) 5).cell (i := 0) (by omega)
theorem reads_lit (w : World) (z : Int) (hz : 0 ≤ z ∧ z ≤ 255) : Reads ((w.alloc (.cells #[.int .u8 z] 5)).alloc (.cells #[.slice (some ⟨w.heap.size, 0, none⟩) 1 1] 37)) (some ⟨w.heap.size + 1, 0, none⟩) [(some ⟨w.heap.size, 0, none⟩, 1, 1)] [[z]] := by
  have hs : (w.alloc (.cells #[.int .u8 z] 5)).heap.size = w.heap.size + 1 := Array.size_push _
  have h1 := sllit (w.alloc (.cells #[.int .u8 z] 5)) [(some ⟨w.heap.size, 0, none⟩, 1, 1)]
  rw [hs] at h1
  refine ⟨h1, rfl, fun i t r ht hr => ?_⟩
  have h0 : i = 0 := by
    have := (List.getElem?_eq_some_iff.1 ht).1
    simp at this
    exact this
  subst h0
  simp at ht hr
  subst ht hr
  exact ⟨rfl, (rd_lit1 w z hz).grown (World.grownBy_alloc _ _ none) (by simp), by simp⟩
theorem keep_lit (w : World) (z : Int) (hz : 0 ≤ z ∧ z ≤ 255) : KeepIs ((w.alloc (.cells #[.int .u8 z] 5)).alloc (.cells #[.slice (some ⟨w.heap.size, 0, none⟩) 1 1] 37)) (some ⟨w.heap.size + 1, 0, none⟩) [(some ⟨w.heap.size, 0, none⟩, 1, 1)] [[z]] := by
  obtain ⟨h1, h2, h3⟩ := reads_lit w z hz
  refine ⟨h1, h2, fun i t r ht hr => ⟨(h3 i t r ht hr).1, (h3 i t r ht hr).2.1, ?_, ?_⟩⟩
  · have h0 : i = 0 := by
      have := (List.getElem?_eq_some_iff.1 ht).1
      simp at this
      exact this
    subst h0
    simp at ht
    subst ht
    intro h
    cases h
  · have h0 : i = 0 := by
      have := (List.getElem?_eq_some_iff.1 ht).1
      simp at this
      exact this
    subst h0
    simp at hr
    subst hr
    simp
/-- The power goes, and comes again. -/
theorem s_power {W w : World} {d mb n : Nat} {x : DSt} {dir : ByteArray} {K : Kp} {Ls : Sg} {B : Nat → Prop} (h : De W w d mb n x dir K Ls B) (keep : Int) (hk : -9223372036854775808 ≤ keep ∧ keep ≤ 9223372036854775807) :
    Calls Tryz.prog 11 #[.pointer (some ⟨d, 0, none⟩), .int .i64 keep] w fun e w' => e = .returned (.tuple #[]) ∧ DS w' W.heap.size d mb n (x.power keep) B ∧ Step w w' B B := by
  refine (x_off W.heap.size d mb n x B keep w h.disk hk).mono ?_
  rintro e w' ⟨rfl, h1, h2⟩
  exact ⟨rfl, h1, h2⟩
theorem Step.from_ {W w w' : World} {B B' : Nat → Prop} (h : Step w w' B B') (hW : W.grownBy w none) (hl : ∀ k, B k → W.heap.size ≤ k) : W.grownBy w' none :=
  ⟨h.1.os.trans hW.os, h.1.tape.trans hW.tape, h.1.output.trans hW.output, Nat.le_trans hW.size h.1.size, fun k hk _ => (h.1.block k (Nat.lt_of_lt_of_le hk hW.size) (fun hx => by have := hl k hx; omega)).trans (hW.block k hk (by simp))⟩
theorem addL2 : addL none [(1, [[1]])] [2] = [(1, [[1], [2]])] := by
  have h : ¬ 4096 ≤ (logB frameR [[(1 : Int)]]).length := by rw [logB_one, fl1]; omega
  show (if 4096 ≤ (logB frameR [[(1 : Int)]]).length then _ else _) = _
  rw [if_neg h]
  rfl
theorem De.power {W w w' : World} {d mb n n' : Nat} {x y : DSt} {dir : ByteArray} {K K' : Kp} {Ls Ls' : Sg} {B : Nat → Prop} (h : De W w d mb n x dir K Ls B) (hd : DS w' W.heap.size d mb n' y B) (hs : Step w w' B B) (hl : Log y.V dir K' Ls') (hc : y.Calm) : De W w' d mb n' y dir K' Ls' B :=
  ⟨hd, hl, hc, hs.from_ h.from_ h.low, h.low, fun k hk => Nat.lt_of_lt_of_le (h.ltB k hk) hs.1.size, h.tab⟩
end Go.Proofs.YtgpgkpciajajcaaGreatDoor

/- Package kv: a store over its log: replay, reach, Open. -/
namespace Go.Proofs.YtgpgkpciajajcaaGreatDoor
open Go.RowKit Go.Maps Go.Sort
set_option linter.unusedVariables false
set_option maxRecDepth 20000

def dirK : ByteArray := ⟨#[107, 118]⟩
theorem dirK_ok : dirB dirK = true := by decide
theorem Se.others {W w w' : World} {d mb n : Nat} {x : DSt} {p : Nat} {dir : ByteArray} {K : Kp} {Ls : Sg} {A B X : Nat → Prop} (h : Se W w d mb n x p dir K Ls A B) (hk : Kept w w' X) (hX : ∀ k, A k ∨ B k → ¬ X k) (hW : ∀ k, X k → W.heap.size ≤ k) : Se W w' d mb n x p dir K Ls A B :=
  ⟨⟨h.at_.disk.others hk (fun k hb => hX k (.inr hb)), h.at_.wal.kept hk (fun k ha => hX k (.inl ha)), h.at_.apart, fun k hb => Nat.lt_of_lt_of_le (h.at_.ltB k hb) hk.size, fun k ha => Nat.lt_of_lt_of_le (h.at_.ltA k ha) hk.size⟩, h.log, h.calm,
    ⟨hk.os.trans h.from_.os, hk.tape.trans h.from_.tape, hk.output.trans h.from_.output, Nat.le_trans h.from_.size hk.size, fun k hk1 _ => (hk.block k (Nat.lt_of_lt_of_le hk1 h.from_.size) (fun hx => by have := hW k hx; omega)).trans (h.from_.block k hk1 (by simp))⟩, h.low, h.tab⟩
/-- A store over its log. -/
structure KvAt (W w : World) (d mb n : Nat) (x : DSt) (sb p mr m : Nat) (K : Kp) (Ls : Sg) (A B : Nat → Prop) (F : ByteArray → Option Reg) (rs : List (ByteArray × Reg)) : Prop where
  se : Se W w d mb n x p dirK K Ls A B
  row : TriAt w sb (.pointer (some ⟨p, 0, none⟩)) (.pointer (some ⟨d, 0, none⟩)) (.map (some mr))
  map : RegIs w mr m F
  says : regs rs = F
  recs : cpRecs K ++ recsOf Ls = recsL rs
  ok : AllOk rs
  sb_ : ¬ (A sb ∨ B sb) ∧ W.heap.size ≤ sb
  mr_ : ¬ (A mr ∨ B mr) ∧ W.heap.size ≤ mr
theorem TriAt.ne_map {w : World} {sb mr m : Nat} {x y z : Value} {F : ByteArray → Option Reg} (h : TriAt w sb x y z) (hm : RegIs w mr m F) : sb ≠ mr := by
  rintro rfl
  obtain ⟨D, ⟨es, clock, h1, h2⟩, _⟩ := hm
  unfold TriAt at h
  rw [h1] at h
  cases h
theorem KvAt.grown {W w w' : World} {d mb n : Nat} {x : DSt} {sb p mr m : Nat} {K : Kp} {Ls : Sg} {A B : Nat → Prop} {F : ByteArray → Option Reg} {rs : List (ByteArray × Reg)} (h : KvAt W w d mb n x sb p mr m K Ls A B F rs) (hg : w.grownBy w' none) : KvAt W w' d mb n x sb p mr m K Ls A B F rs :=
  ⟨h.se.grown hg, h.row.grown hg, h.map.kept hg (by simp), h.says, h.recs, h.ok, h.sb_, h.mr_⟩
theorem RecsLo.grown {lo n : Nat} {w w' : World} {v : Sl} {recs : List (List Int)} (h : RecsLo lo w (slV v) n recs) (hg : w.grownBy w' none) : RecsLo lo w' (slV v) n recs := by
  obtain ⟨ts, h1, h2, h3, h4⟩ := h
  refine ⟨ts, SOwn.kept h1 hg (by cases h : (slV v).ownBlock <;> simp), ?_, h3, h4⟩
  clear h1 h3 h4
  induction ts generalizing recs with
  | nil => cases recs with
    | nil => exact trivial
    | cons r rs => exact h2.elim
  | cons t ts ih => cases recs with
    | nil => exact h2.elim
    | cons r rs => exact ⟨⟨h2.1.1, h2.1.2.1, h2.1.2.2.1, h2.1.2.2.2.1.grown hg (by simp), h2.1.2.2.2.2⟩, ih h2.2⟩
/-- One of them. -/
theorem RecsLo.at {lo n : Nat} {w : World} {v : Sl} {recs : List (List Int)} (h : RecsLo lo w (slV v) n recs) {i : Nat} {r : List Int} (hr : recs[i]? = some r) : ∃ (b off : Nat) (t : Sl), v.1 = some ⟨b, off, none⟩ ∧ w.cell? ⟨b, off + i, none⟩ = some (.slice t.1 t.2.1 t.2.2) ∧ t.2.1 = r.length ∧ Rd w t.1 r ∧ r.length ≤ t.2.2 := by
  obtain ⟨ts, h1, h2, h3, h4⟩ := h
  have hl := h2.len
  have hi := (List.getElem?_eq_some_iff.1 hr).1
  obtain ⟨t, ht⟩ : ∃ t, ts[i]? = some t := ⟨_, List.getElem?_eq_getElem (by omega)⟩
  obtain ⟨va, vn, vc⟩ := v
  obtain ⟨_, _, e⟩ := sownSl h1
  have hvn : vn = n := by unfold slV at e; injection e
  subst hvn
  obtain ⟨b, off, e1, hc⟩ := (SOwn.rd h1).at (by omega)
  have hR := recsAt_get h2 i t r ht hr
  refine ⟨b, off, t, e1, ?_, hR.1, hR.2.2.2.1, hR.2.1⟩
  have := hc i t 0 _ ht rfl
  simpa [slE, slV] using this
theorem recsL_get {rs : List (ByteArray × Reg)} {i : Nat} {q : ByteArray × Reg} (h : rs[i]? = some q) : (recsL rs)[i]? = some (recL q.1 q.2) := by
  unfold recsL
  rw [List.getElem?_map, h]
  rfl
theorem regs_take {rs : List (ByteArray × Reg)} {i : Nat} {k : ByteArray} {r : Reg} (h : rs[i]? = some (k, r)) : regs (rs.take (i + 1)) = setR (regs (rs.take i)) k (some r) := by
  rw [List.take_add_one, h]
  exact regs_snoc _ _ _
set_option maxHeartbeats 8000000 in
theorem k_replay {W w : World} {d mb n : Nat} {x : DSt} {K : Kp} {Ls : Sg} {B : Nat → Prop} (sb : Nat) (x0 z0 : Value) (rs : List (ByteArray × Reg)) (h : De W w d mb n x dirK K Ls B) (hs : TriAt w sb x0 (.pointer (some ⟨d, 0, none⟩)) z0) (hsB : ¬ B sb) (hsW : W.heap.size ≤ sb) (hrs : cpRecs K ++ recsOf Ls = recsL rs) (hok : AllOk rs) (hn : n ≤ 4194304) (hlen : rs.length ≤ 4194304) (hln : Ls.length ≤ 4194304) :
    Calls Tryz.prog 49 #[.pointer (some ⟨sb, 0, none⟩)] w fun e w' => e = .returned (.int .i64 0) ∧ ∃ p mr A, KvAt W w' d mb n x sb p mr rs.length K Ls A B (regs rs) rs ∧ w.grownBy w' (some sb) ∧ (∀ k, A k → w.heap.size ≤ k) ∧ w.heap.size ≤ mr := by
  have hl2 := recsL_len rs
  have HO : Hid (Calls Tryz.prog 80 #[.pointer (some ⟨d, 0, none⟩), .string ⟨#[107, 118]⟩] w fun e w' => ∃ (p : Nat) (v : Sl) (m lo : Nat) (A : Nat → Prop), e = .returned (.tuple #[.pointer (some ⟨p, 0, none⟩), slV v, .int .i64 0]) ∧ Se W w' d mb n x p dirK K Ls A B ∧ RecsLo lo w' (slV v) m (recsL rs) ∧ w.grownBy w' none ∧ (∀ k, A k → w.heap.size ≤ k ∧ k < lo) ∧ w.heap.size ≤ lo) := by
    have := s_open h dirK_ok hn (by rw [hrs, hl2]; exact hlen) hln
    rw [hrs] at this
    exact this
  have c1 := hs.c1
  have HS : Hid (TriAt w sb x0 (.pointer (some ⟨d, 0, none⟩)) z0) := hs
  have HRS : Hid (cpRecs K ++ recsOf Ls = recsL rs) := hrs
  have HOK : Hid (AllOk rs) := hok
  have HSB : Hid (¬ B sb ∧ W.heap.size ≤ sb) := ⟨hsB, hsW⟩
  obtain ⟨N, eN⟩ : ∃ N, N = rs.length := ⟨_, rfl⟩
  have EN : Hid (N = rs.length) := eN
  rw [← eN] at hlen
  clear h hs hrs hok hsB hsW hl2 hln hn eN
  have hmm := @run_makeMap Tryz.prog
  go_enter Tryz.func49, Tryz.ntmps49
  go_wp2_with fail
  refine HO.out.mono ?_
  rintro e w1 ⟨p, v, m, lo, A, rfl, hse, hrl, hg1, hA, hlo⟩
  have HSE : Hid (Se W w1 d mb n x p dirK K Ls A B) := hse
  have HRL : Hid (RecsLo lo w1 (slV v) m (recsL rs)) := hrl
  have HG1 : Hid (w.grownBy w1 none) := hg1
  have HA : Hid (∀ k, A k → w.heap.size ≤ k ∧ k < lo) := hA
  obtain ⟨va, vn, vc⟩ := v
  have hvn : vn = N := by
    obtain ⟨ts, h1, h2, h3, h4⟩ := hrl
    obtain ⟨_, _, e⟩ := sownSl h1
    unfold slV at e
    injection e with _ e2 _
    have e3 : vn = m := e2
    rw [e3, h3, recsL_len, EN.out]
  subst hvn
  unfold slV
  have HM0 : Hid (RegIs (w1.alloc (.map #[] 0)) w1.heap.size 0 (regs (rs.take 0))) := RegIs.made w1
  clear hse hrl hg1 hA hlo HO
  go_wp2_with fail
  go_loopw [27] (fun t27 wr => ∃ i : Nat, i ≤ vn ∧ t27 = .int .i64 i ∧ w1.grownBy wr none ∧ RegIs wr w1.heap.size i (regs (rs.take i))) (fun t27 _ => vn - (intOf t27).toNat)
  case atStart => exact ⟨0, Nat.zero_le _, rfl, World.grownBy_alloc w1 _ none, HM0.out⟩
  case round =>
    obtain ⟨i, hi, rfl, hg, hm⟩ := hrel
    have HG : Hid (w1.grownBy wr none) := hg
    have HM : Hid (RegIs wr w1.heap.size i (regs (rs.take i))) := hm
    by_cases hlt : i < vn
    · have hii : (i : Int) < (vn : Int) := by omega
      obtain ⟨q, hq⟩ : ∃ q, rs[i]? = some q := ⟨_, List.getElem?_eq_getElem (by rw [← EN.out]; exact hlt)⟩
      obtain ⟨k, rv, rd⟩ := q
      obtain ⟨b, off, t, e1, hcell, ht1, ht2, ht3⟩ := (HRL.out.grown hg).at (recsL_get hq)
      dsimp only at e1
      subst e1
      obtain ⟨ta, tn, tc⟩ := t
      dsimp only at hcell ht1 ht2 ht3
      have hkok := (HOK.out _ (List.mem_of_getElem? hq)).1
      have HRD : Hid (Calls Tryz.prog 81 #[.slice ta tn tc] wr fun e w' => e = .returned (.tuple #[.string k, .agg #[.int .u64 (rv : Int), .string rd], .bool true]) ∧ wr.grownBy w' none) := k_read k rv rd ta tn tc wr ht2 ht1.symm (by omega) hkok
      have HQ : Hid (rs[i]? = some (k, rv, rd)) := hq
      have HK64 : Hid (k.size ≤ 64) := hkok.key.2
      clear ht1 ht2 ht3 hq hkok hg hm
      go_wp2_with fail
      refine HRD.out.mono ?_
      rintro e w2 ⟨rfl, hg2⟩
      obtain ⟨W3, eW3⟩ : ∃ W3, W3 = w2.alloc (.cells #[.int .u64 (rv : Int), .string rd] 90) := ⟨_, rfl⟩
      have hg23 : w2.grownBy W3 none := by rw [eW3]; exact World.grownBy_alloc w2 _ none
      have HB3 : RgAt W3 w2.heap.size (.int .u64 (rv : Int)) (.string rd) := by rw [eW3]; exact RgAt.new w2 _ _
      have hload : (loadVar 90 ⟨w2.heap.size, 0, none⟩).run Tryz.prog W3 = .ok (.agg #[.int .u64 (rv : Int), .string rd]) W3 := HB3.var
      have HG3 : Hid (w1.grownBy W3 none) := (HG.out.trans hg2).trans hg23
      have hm3 := (HM.out.kept hg2 (by simp)).kept hg23 (by simp)
      obtain ⟨w4, hrun, hm4, hg4⟩ := hm3.put k HK64.out (by omega) (rv, rd)
      have hput : (Instr.mapUpdate 66 (.map (some w1.heap.size)) (.string k) (.agg #[.int .u64 (rv : Int), .string rd])).run Tryz.prog W3 = .ok () w4 := hrun
      have HG4 : Hid (w1.grownBy w4 none) := gb_trans HG3.out hg4 (fun k hk => .inl (by cases hk; exact Nat.le_refl _))
      have HM4 : Hid (RegIs w4 w1.heap.size (i + 1) (regs (rs.take (i + 1)))) := by
        show RegIs _ _ _ _
        rw [regs_take HQ.out]
        exact hm4
      rw [eW3] at hput
      clear hg2 hm3 hm4 hg4 hrun hg23 HRD HG HM HB3 hload HG3
      clear eW3
      go_wp2
      go_roundw
      case rel => exact ⟨i + 1, by omega, by go_num, HG4.out, HM4.out⟩
      case measure => simp [intOf]; omega
    · have hii : ¬ (i : Int) < (vn : Int) := by omega
      have hiN : i = rs.length := by rw [← EN.out]; omega
      have hmf : RegIs wr w1.heap.size rs.length (regs rs) := by
        have h5 := hm
        rw [hiN, List.take_length] at h5
        exact h5
      have hsr : TriAt wr sb x0 (.pointer (some ⟨d, 0, none⟩)) z0 := (HS.out.grown HG1.out).grown hg
      have s0 := hsr.c0
      have f0 := hsr.f 0
      have hsr1 := hsr.set0 (.pointer (some ⟨p, 0, none⟩))
      have s2 := hsr1.c2
      have f2 := hsr1.f 2
      have hsr2 := hsr1.set2 (.map (some w1.heap.size))
      have HFIN : Hid (KvAt W ((wr.setCell ⟨sb, 0, none⟩ (.pointer (some ⟨p, 0, none⟩))).setCell ⟨sb, 2, none⟩ (.map (some w1.heap.size))) d mb n x sb p w1.heap.size rs.length K Ls A B (regs rs) rs ∧ w.grownBy ((wr.setCell ⟨sb, 0, none⟩ (.pointer (some ⟨p, 0, none⟩))).setCell ⟨sb, 2, none⟩ (.map (some w1.heap.size))) (some sb) ∧ (∀ k, A k → w.heap.size ≤ k) ∧ w.heap.size ≤ w1.heap.size) := by
        have hlt := HS.out.lt
        have hw1 := HG1.out.size
        have hsbA : ¬ (A sb ∨ B sb) := fun hx => hx.elim (fun ha => by have := (HA.out sb ha).1; omega) HSB.out.1
        have hmrA : ¬ (A w1.heap.size ∨ B w1.heap.size) := fun hx => hx.elim (fun ha => by have := HSE.out.at_.ltA _ ha; omega) (fun hb => by have := HSE.out.at_.ltB _ hb; omega)
        have hg2 : wr.grownBy ((wr.setCell ⟨sb, 0, none⟩ (.pointer (some ⟨p, 0, none⟩))).setCell ⟨sb, 2, none⟩ (.map (some w1.heap.size))) (some sb) := gb_trans (gb_set rfl) (gb_set rfl) (fun j hj => .inr hj)
        have hk2 := Kept.of hg2 (X := fun k => k = sb) (fun k hk => by cases hk; rfl)
        refine ⟨⟨(HSE.out.grown hg).others hk2 (fun k hk e => by subst e; exact hsbA hk) (fun k e => by subst e; exact HSB.out.2), hsr2, hmf.kept hg2 (fun e => by have := Option.some.inj e; omega), rfl, HRS.out, HOK.out, ⟨hsbA, HSB.out.2⟩, ⟨hmrA, HSE.out.from_.size⟩⟩, gb_trans (gb_any (HG1.out.trans hg) _) hg2 (fun j hj => .inr hj), fun k hk => (HA.out k hk).1, hw1⟩
      clear hmf hsr hsr1 hsr2 hg hm hiN
      go_wp2
      go_ret
      exact ⟨rfl, p, _, A, HFIN.out⟩
end Go.Proofs.YtgpgkpciajajcaaGreatDoor

