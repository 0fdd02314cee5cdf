/- Several texts in one: Xa, Xb. -/
import Derived.Test.YtekejnjaiccnbaaGreatDoorMy
/- A log, call by call, as a caller's walk uses it. -/
namespace Go.Proofs.YtekejnjaiccnbaaGreatDoor
open Go.RowKit Go.Maps Go.Sort
set_option linter.unusedVariables false
set_option maxRecDepth 20000

abbrev Kp := Option (Nat × List (List Int))
abbrev Sg := List (Nat × List (List Int))
/-- A disk with a whole log's folder on it; nothing of the world W has changed. -/
structure De (W w : World) (d mb n : Nat) (x : DSt) (dir : ByteArray) (K : Kp) (Ls : Sg) (B : Nat → Prop) : Prop where
  disk : DS w W.heap.size d mb n x B
  log : Log x.V dir K Ls
  calm : x.Calm
  from_ : W.grownBy w none
  low : ∀ k, B k → W.heap.size ≤ k
  ltB : ∀ k, B k → k < w.heap.size
  tab : Tab W
/-- .. and the log open over it. -/
structure Se (W w : World) (d mb n : Nat) (x : DSt) (p : Nat) (dir : ByteArray) (K : Kp) (Ls : Sg) (A B : Nat → Prop) : Prop where
  at_ : LogAt w W.heap.size d mb n x p dir (cpName dir K) (Ls.map Prod.fst) (openN K Ls) A B
  log : Log x.V dir K Ls
  calm : x.Calm
  from_ : W.grownBy w none
  low : ∀ k, A k ∨ B k → W.heap.size ≤ k
  tab : Tab W
theorem Se.de {W w : World} {d mb n : Nat} {x : DSt} {p : Nat} {dir : ByteArray} {K : Kp} {Ls : Sg} {A B : Nat → Prop} (h : Se W w d mb n x p dir K Ls A B) : De W w d mb n x dir K Ls B :=
  ⟨h.at_.disk, h.log, h.calm, h.from_, fun k hk => h.low k (.inr hk), h.at_.ltB, h.tab⟩
theorem Se.grown {W w w' : World} {d mb n : Nat} {x : DSt} {p : Nat} {dir : ByteArray} {K : Kp} {Ls : Sg} {A B : Nat → Prop} (h : Se W w d mb n x p dir K Ls A B) (hg : w.grownBy w' none) : Se W w' d mb n x p dir K Ls A B :=
  ⟨h.at_.grown hg, h.log, h.calm, h.from_.trans hg, h.low, h.tab⟩
theorem De.grown {W w w' : World} {d mb n : Nat} {x : DSt} {dir : ByteArray} {K : Kp} {Ls : Sg} {B : Nat → Prop} (h : De W w d mb n x dir K Ls B) (hg : w.grownBy w' none) : De W w' d mb n x dir K Ls B :=
  ⟨DV.kept h.disk hg, h.log, h.calm, h.from_.trans hg, h.low, fun k hk => Nat.lt_of_lt_of_le (h.ltB k hk) hg.size, h.tab⟩
theorem Se.far {W w : World} {d mb n : Nat} {x : DSt} {p : Nat} {dir : ByteArray} {K : Kp} {Ls : Sg} {A B : Nat → Prop} (h : Se W w d mb n x p dir K Ls A B) : Tab w ∧ Far A B :=
  ⟨h.tab.grown h.from_, fun g hg => ⟨fun ha => by have := h.low g (.inl ha); have := h.tab.lt hg; omega, fun hb => by have := h.low g (.inr hb); have := h.tab.lt hg; omega⟩⟩
theorem Step2.from_ {W w w' : World} {A B A' B' : Nat → Prop} (h : Step2 w w' A B A' B') (hW : W.grownBy w none) (hl : ∀ k, A k ∨ B k → W.heap.size ≤ k) : W.grownBy w' none :=
  ⟨h.kept.os.trans hW.os, h.kept.tape.trans hW.tape, h.kept.output.trans hW.output, Nat.le_trans hW.size h.kept.size, fun k hk _ => (h.kept.block k (Nat.lt_of_lt_of_le hk hW.size) (fun hx => by have := hl k hx; omega)).trans (hW.block k hk (by simp))⟩
theorem Step2.low {W w w' : World} {A B A' B' : Nat → Prop} (h : Step2 w w' A B A' B') (hW : W.grownBy w none) (hl : ∀ k, A k ∨ B k → W.heap.size ≤ k) : ∀ k, A' k ∨ B' k → W.heap.size ≤ k := fun k hk => by
  rcases Nat.lt_or_ge k w.heap.size with h1 | h1
  · exact hl k (hk.elim (fun ha => .inl (h.oldA k h1 ha)) (fun hb => .inr (h.oldB k h1 hb)))
  · exact Nat.le_trans hW.size h1
/-- Open, of a folder that is whole. -/
theorem s_open {W w : World} {d mb n : Nat} {x : DSt} {dir : ByteArray} {K : Kp} {Ls : Sg} {B : Nat → Prop} (h : De W w d mb n x dir K Ls B) (hdir : dirB dir = true) (hn : n ≤ 4194304) (hsz : (cpRecs K ++ recsOf Ls).length ≤ 4194304) (hln : Ls.length ≤ 4194304) :
    Calls Tryz.prog 13 #[.pointer (some ⟨d, 0, none⟩), .string dir] w fun e w' => ∃ (p : Nat) (v : Sl) (m lo : Nat) (A : Nat → Prop), e = .returned (.tuple #[.pointer (some ⟨p, 0, none⟩), slV v, .int .i64 0]) ∧ Se W w' d mb n x p dir K Ls A B ∧ RecsLo lo w' (slV v) m (cpRecs K ++ recsOf Ls) ∧ w.grownBy w' none ∧ (∀ k, A k → w.heap.size ≤ k ∧ k < lo) ∧ w.heap.size ≤ lo := by
  refine (w_open W.heap.size d mb n dir x B K Ls w hdir (h.tab.grown h.from_) h.disk h.ltB h.calm.on h.log hn hsz hln).mono ?_
  rintro e w' ⟨p, v, m, lo, a, c, rfl, hW, hso, hp, hpl, hal, hro, hg⟩
  have hA : ∀ k, (k = p ∨ ∃ y, a = some y ∧ k = y.block) → w.heap.size ≤ k ∧ k < lo := by
    rintro k (rfl | ⟨y, rfl, rfl⟩)
    · exact ⟨hp, hpl⟩
    · exact ⟨(hso.block y.block rfl).1, hal y rfl⟩
  have hne : ∀ y, a = some y → y.block ≠ p := fun y hy e => by
    subst hy
    obtain ⟨g, cap, e1, _, _⟩ := hso.some (by simp)
    have e2 : y = ⟨g, 0, none⟩ := by injection e1 with e1; exact Option.some.inj e1
    rw [e2] at e
    simp only at e
    rcases hso.2 with ⟨h', _⟩ | ⟨g', cap', cur, h', k1, k2, _⟩
    · cases h'
    · have e3 : g' = g := by
        injection h' with h'
        have := Option.some.inj h'
        rw [e2] at this
        exact (congrArg Addr.block this).symm
      subst e3
      obtain ⟨cc, r1, _⟩ := hW
      rw [e, r1] at k2
      simp only [Option.some.injEq, Obj.cells.injEq] at k2
      exact absurd k2.2.1 (by decide)
  refine ⟨p, v, m, lo, fun k => k = p ∨ ∃ y, a = some y ∧ k = y.block, rfl, ⟨⟨DV.kept h.disk hg, ⟨a, c, hW, hso.base (Nat.zero_le _), .inl rfl, fun y hy => ⟨.inr ⟨y, hy, rfl⟩, hne y hy⟩⟩, fun k ha hb => ?_, fun k hb => Nat.lt_of_lt_of_le (h.ltB k hb) hg.size, ?_⟩, h.log, h.calm, h.from_.trans hg, ?_, h.tab⟩, hro, hg, hA, by omega⟩
  · have h1 := (hA k ha).1
    have h2 := h.ltB k hb
    omega
  · rintro k (rfl | ⟨y, rfl, rfl⟩)
    · exact hW.lt
    · exact (hso.block y.block rfl).2
  · rintro k (ha | hb)
    · exact Nat.le_trans h.from_.size (hA k ha).1
    · exact h.low k hb
theorem frame_len (zs : List Int) (h : zs.length ≤ 65536) : (frameR zs).length ≤ 65543 := by
  have h1 := enc_len_le 2 zs.length (by omega)
  have h4 : (four (sumR zs)).length = 4 := rfl
  rw [frameR]
  simp only [List.length_append, h4]
  omega
/-- Append. -/
theorem s_append {W w : World} {d mb n : Nat} {x : DSt} {p : Nat} {dir : ByteArray} {K : Kp} {Ls : Sg} {A B : Nat → Prop} (h : Se W w d mb n x p dir K Ls A B) (hdir : dirB dir = true) (a : Option Addr) (zs : List Int) (L cap : Nat) (hw : x.wn ≤ 999999900) (hop : openN K Ls < 99999998) (hn : n < 1048576) (hsg : Ls.length ≤ 4194304) (hr : Rd w a zs) (hL : zs.length = L) (hnil : a = none → cap = 0) (hz : L ≤ 65536) :
    Calls Tryz.prog 17 #[.pointer (some ⟨p, 0, none⟩), .slice a L cap] w fun e w' => e = .returned (.int .i64 0) ∧ ∃ n' A' B', n' ≤ n + 1 ∧ (appX x dir (openN K Ls) zs).wn ≤ x.wn + 2 ∧ Se W w' d mb n' (appX x dir (openN K Ls) zs) p dir K (addL K Ls zs) A' B' ∧ Step2 w w' A B A' B' := by
  have had := log_add (rec := zs) h.log h.calm (by omega) (by omega) hop
  have hfar := h.far
  have hfl : (frameR zs).length ≤ 65543 := by
    have hu : zs.length ≤ 65536 := by omega
    exact frame_len zs hu
  refine (w_append W.heap.size d mb n x p dir (cpName dir K) (Ls.map Prod.fst) (openN K Ls) A B a zs L cap w hdir hfar.1 hfar.2 h.at_ h.calm.on h.calm.free h.calm.ok (by omega) hop hn (by rw [List.length_map]; exact hsg) hr hL hnil hz (by have := had.room; omega) h.from_.size).mono ?_
  rintro e w' ⟨rfl, n', A', B', hn', hL', hS'⟩
  rw [had.segs, had.op] at hL'
  exact ⟨rfl, n', A', B', hn', had.wn, ⟨hL', had.log, had.calm, hS'.from_ h.from_ h.low, hS'.low h.from_ h.low, h.tab⟩, hS'⟩
/-- Sync. -/
theorem s_sync {W w : World} {d mb n : Nat} {x : DSt} {p : Nat} {dir : ByteArray} {K : Kp} {Ls : Sg} {A B : Nat → Prop} (h : Se W w d mb n x p dir K Ls A B) (hdir : dirB dir = true) (hw : x.wn ≤ 999999900) (hop : openN K Ls < 99999998) (hsg : Ls.length ≤ 4194304) :
    Calls Tryz.prog 19 #[.pointer (some ⟨p, 0, none⟩)] w fun e w' => e = .returned (.int .i64 0) ∧ ∃ n' B', n' ≤ n ∧ (syncX x dir (Ls.map Prod.fst) (openN K Ls)).wn ≤ x.wn + 1 ∧ Se W w' d mb n' (syncX x dir (Ls.map Prod.fst) (openN K Ls)) p dir K Ls A B' ∧ Step2 w w' A B A B' := by
  obtain ⟨s1, s2, s3, s4⟩ := log_sync h.log h.calm (by omega)
  have hfar := h.far
  refine (w_sync W.heap.size d mb n x p dir (cpName dir K) (Ls.map Prod.fst) (openN K Ls) A B w hdir hfar.1 h.at_ h.calm.ok (by omega) (by rw [List.length_map]; exact hsg) s4).mono ?_
  rintro e w' ⟨rfl, n', B', hn', hL', hS'⟩
  exact ⟨rfl, n', B', hn', s3, ⟨hL', s1, s2, hS'.from_ h.from_ h.low, hS'.low h.from_ h.low, h.tab⟩, hS'⟩
/-- Cut, of some records. -/
theorem s_cut {W w : World} {d mb n : Nat} {x : DSt} {p : Nat} {dir : ByteArray} {K : Kp} {Ls : Sg} {A B : Nat → Prop} (h : Se W w d mb n x p dir K Ls A B) (hdir : dirB dir = true) (ka : Option Addr) (kn kc : Nat) (ts : List Sl) (recs : List (List Int)) (hw : x.wn + Ls.length ≤ 999999900) (hop : openN K Ls < 99999998) (hn : n < 1048574) (hsg : Ls.length ≤ 4194304) (hk : KeepIs w ka ts recs) (hkn : recs.length = kn) (hk4 : kn ≤ 4194304) (hne : recs ≠ []) (hlen : (logB frameR recs).length ≤ 4194304) (hr : ∀ r ∈ recs, r.length ≤ 65536) :
    Calls Tryz.prog 23 #[.pointer (some ⟨p, 0, none⟩), .slice ka kn kc] w fun e w' => e = .returned (.int .i64 0) ∧ ∃ n' x' B', n' ≤ n + 2 ∧ x'.wn ≤ x.wn + 4 + Ls.length ∧ De W w' d mb n' x' dir (some (openN K Ls, recs)) [] B' ∧ Step2 w w' A B A B' := by
  obtain ⟨c1, c2, c3, c4, _⟩ := log_cut (recs := recs) h.log hdir h.calm hw hr hop
  have hfar := h.far
  have hcp : (cpName dir K).size ≤ 64 := by
    cases K with
    | none => exact (show (0 : Nat) ≤ 64 by omega)
    | some q =>
      have := nameB_size (cp_name hdir q.1)
      exact this
  have h8 : ∀ k ∈ Ls.map Prod.fst, k < 100000000 := h.log.folder.segr.2
  refine (w_cutC W.heap.size d mb n x p dir (cpName dir K) (Ls.map Prod.fst) (openN K Ls) A B ka kn kc ts recs w hdir hfar.1 hfar.2 h.at_ h.calm (by omega) hop hn h.log.noNew (by rw [List.length_map]; exact hsg) h8 hcp c1 hk hkn hk4 hne hlen h.from_.size).mono ?_
  rintro e w' ⟨rfl, n', B', hn', hd', hS', ha', hb'⟩
  exact ⟨rfl, n', _, B', hn', c4, ⟨hd', c2, c3, hS'.from_ h.from_ h.low, fun k hk => hS'.low h.from_ h.low k (.inr hk), hb', h.tab⟩, hS'⟩
end Go.Proofs.YtekejnjaiccnbaaGreatDoor

/- What every program answers: the log's awake. -/
namespace Go.Proofs.YtekejnjaiccnbaaGreatDoor
open Go.RowKit Go.Maps Go.Sort
set_option linter.unusedVariables false
set_option maxRecDepth 20000

def dirX : ByteArray := ⟨#[120]⟩
theorem dirX_ok : dirB dirX = true := by decide
def x0 : DSt := ⟨false, false, 0, 0, 0, fun _ => none⟩
theorem x0_calm : x0.Calm := ⟨rfl, rfl, ⟨by decide, (fun h => by cases h), by decide⟩⟩
theorem log0 (dir : ByteArray) : Log (fun _ => none) dir none [] :=
  ⟨⟨⟨by simp [cpNums], fun k hk => by simp [cpNums] at hk⟩, ⟨by simp, fun k hk => by simp at hk⟩, fun s => by simp [namesL, cpNums]⟩, rfl, fun p hp => (by cases hp), fun p hp => (by cases hp), by decide⟩
theorem fl1 (z : Int) : (frameR [z]).length = 6 := by
  have h4 : (four (sumR [z])).length = 4 := rfl
  have h1 : (enc [z].length).length = 1 := by rw [enc_small (by simp)]; rfl
  rw [frameR]
  simp only [List.length_append, h4, h1]
  rfl
theorem keptN0 (u : Nat) : keptN 0 u = 0 := by
  unfold keptN
  simp
/-- One file alone. -/
theorem log1 {V : Cont} {dir : ByteArray} {recs : List (List Int)} {syn : Nat} (hV : V (segN dir 1) = some (logB frameR recs, syn)) (ho : ∀ s, s ≠ segN dir 1 → V s = none) (hr : ∀ r ∈ recs, r.length ≤ 65536) : Log V dir none [(1, recs)] := by
  refine ⟨⟨⟨by simp [cpNums], fun k hk => by simp [cpNums] at hk⟩, ⟨by simp, fun k hk => by simp at hk; omega⟩, fun s => ?_⟩, rfl, fun p hp => ?_, fun p hp => ?_, by decide⟩
  · simp only [namesL, cpNums, List.map_nil, Bool.false_eq_true, if_false, List.nil_append, List.map_cons, List.mem_singleton]
    constructor
    · rintro ⟨h1, _⟩
      by_cases e : s = segN dir 1
      · exact e
      · rw [ho s e] at h1; cases h1
    · rintro rfl
      exact ⟨by rw [hV]; rfl, seg_in dir 1⟩
  · simp only [List.mem_singleton] at hp
    subst hp
    exact ⟨⟨syn, hV⟩, hr, by dsimp only; omega⟩
  · simp only [List.mem_singleton] at hp
    subst hp
    exact Nat.lt_succ_self 0
/-- The disk behind the first calls, and behind the power's going. -/
theorem awake_disk (dir : ByteArray) :
    let xa := appX x0 dir 1 [1]
    let xb := syncX xa dir [1] 1
    let xc := appX xb dir 1 [2]
    Log ({ (xc.power 0) with off := false } : DSt).V dir none [(1, [[1]])] ∧ ({ (xc.power 0) with off := false } : DSt).Calm ∧ ({ (xc.power 0) with off := false } : DSt).wn ≤ 10 := by
  intro xa xb xc
  have ea : xa = ⟨false, false, 0, 0, 0 + 1, setV (fun _ => none) (segN dir 1) (some (frameR [1], 0))⟩ := by
    show appX x0 dir 1 [1] = _
    unfold appX
    have hroll : rollX x0 dir 1 = (x0, 1) := rfl
    rw [hroll, calm_app x0 x0_calm]
    rfl
  have ca : xa.Calm := by rw [ea]; exact calm_next x0 x0_calm (by decide) _
  have va : xa.V (segN dir 1) = some (frameR [1], 0) := by rw [ea]; exact setV_same (fun _ => none) (segN dir 1) (some (frameR [1], 0))
  have eb : xb = { xa with wn := xa.wn + 1, V := setV xa.V (segN dir 1) (some (frameR [1], 6)) } := by
    show syncX xa dir [1] 1 = _
    unfold syncX
    rw [if_pos (by decide), calm_sync xa ca (segN dir 1) _ va]
    dsimp only
    rw [fl1]
  have wa : xa.wn = 1 := by rw [ea]; rfl
  have cb : xb.Calm := by rw [eb]; exact calm_next xa ca (by rw [wa]; decide) _
  have wb : xb.wn = 2 := by rw [eb]; dsimp only; rw [wa]; rfl
  have vb : xb.V (segN dir 1) = some (frameR [1], 6) := by rw [eb]; exact setV_same _ _ _
  have ob : oldV xb.V (segN dir 1) = (frameR [1], 6) := by unfold oldV; rw [vb]; rfl
  have ec : xc = { xb with wn := xb.wn + 1, V := setV xb.V (segN dir 1) (some (frameR [1] ++ frameR [2], 6)) } := by
    show appX xb dir 1 [2] = _
    unfold appX
    have hroll : rollX xb dir 1 = (xb, 1) := by
      unfold rollX
      rw [vb]
      dsimp only
      rw [fl1]
      rfl
    rw [hroll]
    dsimp only
    rw [calm_app xb cb, ob]
  have cc : xc.Calm := by rw [ec]; exact calm_next xb cb (by rw [wb]; decide) _
  have wc : xc.wn = 3 := by rw [ec]; dsimp only; rw [wb]; rfl
  have oth : ∀ s, s ≠ segN dir 1 → xc.V s = none := by
    intro s hs
    rw [ec]
    show setV xb.V _ _ s = none
    rw [setV_other _ _ hs, eb]
    show setV xa.V _ _ s = none
    rw [setV_other _ _ hs, ea]
    exact setV_other (fun _ => none) (some (frameR [1], 0)) hs
  have vc : xc.V (segN dir 1) = some (frameR [1] ++ frameR [2], 6) := by rw [ec]; exact setV_same _ _ _
  have hp : xc.power 0 = ⟨true, false, 0, 0, xc.wn, fun t => (xc.V t).map (cutV 0)⟩ := by
    unfold DSt.power
    rw [if_neg (by rw [cc.on]; simp)]
  rw [hp]
  refine ⟨?_, ⟨rfl, rfl, ⟨(by dsimp only; rw [wc]; decide), (fun h => by cases h), (by dsimp only; omega)⟩⟩, by dsimp only; rw [wc]; decide⟩
  refine log1 (syn := 6) ?_ (fun s hs => ?_) (fun r hr => by simp at hr; subst hr; decide)
  · show (xc.V (segN dir 1)).map (cutV 0) = _
    rw [vc]
    simp only [Option.map_some, cutV, keptN0, Nat.add_zero, logB_one]
    rw [List.take_append_of_le_length (by rw [fl1]; exact Nat.le_refl _), List.take_of_length_le (by rw [fl1]; exact Nat.le_refl _)]
  · show (xc.V s).map (cutV 0) = none
    rw [oth s hs]
    rfl
end Go.Proofs.YtekejnjaiccnbaaGreatDoor

