/- A log, call by call, as a caller's walk uses it. -/
import Derived.Test.YtbhffjeoakalbaaGreatDoorWz
namespace Go.Proofs.YtbhffjeoakalbaaGreatDoor
open Go.RowKit Go.Maps Go.Sort
set_option linter.unusedVariables false
set_option maxRecDepth 20000

abbrev Kp := Option (Nat × List (List Int))
abbrev Sg := List (Nat × List (List Int))
/-- A disk with a whole log's folder on it; nothing of the world W has changed. -/
structure De (W w : World) (d mb n : Nat) (x : DSt) (dir : ByteArray) (K : Kp) (Ls : Sg) (B : Nat → Prop) : Prop where
  disk : DS w W.heap.size d mb n x B
  log : Log x.V dir K Ls
  calm : x.Calm
  from_ : W.grownBy w none
  low : ∀ k, B k → W.heap.size ≤ k
  ltB : ∀ k, B k → k < w.heap.size
  tab : Tab W
/-- .. and the log open over it. -/
structure Se (W w : World) (d mb n : Nat) (x : DSt) (p : Nat) (dir : ByteArray) (K : Kp) (Ls : Sg) (A B : Nat → Prop) : Prop where
  at_ : LogAt w W.heap.size d mb n x p dir (cpName dir K) (Ls.map Prod.fst) (openN K Ls) A B
  log : Log x.V dir K Ls
  calm : x.Calm
  from_ : W.grownBy w none
  low : ∀ k, A k ∨ B k → W.heap.size ≤ k
  tab : Tab W
theorem Se.de {W w : World} {d mb n : Nat} {x : DSt} {p : Nat} {dir : ByteArray} {K : Kp} {Ls : Sg} {A B : Nat → Prop} (h : Se W w d mb n x p dir K Ls A B) : De W w d mb n x dir K Ls B :=
  ⟨h.at_.disk, h.log, h.calm, h.from_, fun k hk => h.low k (.inr hk), h.at_.ltB, h.tab⟩
theorem Se.grown {W w w' : World} {d mb n : Nat} {x : DSt} {p : Nat} {dir : ByteArray} {K : Kp} {Ls : Sg} {A B : Nat → Prop} (h : Se W w d mb n x p dir K Ls A B) (hg : w.grownBy w' none) : Se W w' d mb n x p dir K Ls A B :=
  ⟨h.at_.grown hg, h.log, h.calm, h.from_.trans hg, h.low, h.tab⟩
theorem De.grown {W w w' : World} {d mb n : Nat} {x : DSt} {dir : ByteArray} {K : Kp} {Ls : Sg} {B : Nat → Prop} (h : De W w d mb n x dir K Ls B) (hg : w.grownBy w' none) : De W w' d mb n x dir K Ls B :=
  ⟨DV.kept h.disk hg, h.log, h.calm, h.from_.trans hg, h.low, fun k hk => Nat.lt_of_lt_of_le (h.ltB k hk) hg.size, h.tab⟩
theorem Se.far {W w : World} {d mb n : Nat} {x : DSt} {p : Nat} {dir : ByteArray} {K : Kp} {Ls : Sg} {A B : Nat → Prop} (h : Se W w d mb n x p dir K Ls A B) : Tab w ∧ Far A B :=
  ⟨h.tab.grown h.from_, fun g hg => ⟨fun ha => by have := h.low g (.inl ha); have := h.tab.lt hg; omega, fun hb => by have := h.low g (.inr hb); have := h.tab.lt hg; omega⟩⟩
theorem Step2.from_ {W w w' : World} {A B A' B' : Nat → Prop} (h : Step2 w w' A B A' B') (hW : W.grownBy w none) (hl : ∀ k, A k ∨ B k → W.heap.size ≤ k) : W.grownBy w' none :=
  ⟨h.kept.os.trans hW.os, h.kept.tape.trans hW.tape, h.kept.output.trans hW.output, Nat.le_trans hW.size h.kept.size, fun k hk _ => (h.kept.block k (Nat.lt_of_lt_of_le hk hW.size) (fun hx => by have := hl k hx; omega)).trans (hW.block k hk (by simp))⟩
theorem Step2.low {W w w' : World} {A B A' B' : Nat → Prop} (h : Step2 w w' A B A' B') (hW : W.grownBy w none) (hl : ∀ k, A k ∨ B k → W.heap.size ≤ k) : ∀ k, A' k ∨ B' k → W.heap.size ≤ k := fun k hk => by
  rcases Nat.lt_or_ge k w.heap.size with h1 | h1
  · exact hl k (hk.elim (fun ha => .inl (h.oldA k h1 ha)) (fun hb => .inr (h.oldB k h1 hb)))
  · exact Nat.le_trans hW.size h1
/-- Open, of a folder that is whole. -/
theorem s_open {W w : World} {d mb n : Nat} {x : DSt} {dir : ByteArray} {K : Kp} {Ls : Sg} {B : Nat → Prop} (h : De W w d mb n x dir K Ls B) (hdir : dirB dir = true) (hn : n ≤ 4194304) (hsz : (cpRecs K ++ recsOf Ls).length ≤ 4194304) (hln : Ls.length ≤ 4194304) :
    Calls Tryz.prog 13 #[.pointer (some ⟨d, 0, none⟩), .string dir] w fun e w' => ∃ (p : Nat) (v : Sl) (m lo : Nat) (A : Nat → Prop), e = .returned (.tuple #[.pointer (some ⟨p, 0, none⟩), slV v, .int .i64 0]) ∧ Se W w' d mb n x p dir K Ls A B ∧ RecsLo lo w' (slV v) m (cpRecs K ++ recsOf Ls) ∧ w.grownBy w' none ∧ (∀ k, A k → w.heap.size ≤ k ∧ k < lo) ∧ w.heap.size ≤ lo := by
  refine (w_open W.heap.size d mb n dir x B K Ls w hdir (h.tab.grown h.from_) h.disk h.ltB h.calm.on h.log hn hsz hln).mono ?_
  rintro e w' ⟨p, v, m, lo, a, c, rfl, hW, hso, hp, hpl, hal, hro, hg⟩
  have hA : ∀ k, (k = p ∨ ∃ y, a = some y ∧ k = y.block) → w.heap.size ≤ k ∧ k < lo := by
    rintro k (rfl | ⟨y, rfl, rfl⟩)
    · exact ⟨hp, hpl⟩
    · exact ⟨(hso.block y.block rfl).1, hal y rfl⟩
  have hne : ∀ y, a = some y → y.block ≠ p := fun y hy e => by
    subst hy
    obtain ⟨g, cap, e1, _, _⟩ := hso.some (by simp)
    have e2 : y = ⟨g, 0, none⟩ := by injection e1 with e1; exact Option.some.inj e1
    rw [e2] at e
    simp only at e
    rcases hso.2 with ⟨h', _⟩ | ⟨g', cap', cur, h', k1, k2, _⟩
    · cases h'
    · have e3 : g' = g := by
        injection h' with h'
        have := Option.some.inj h'
        rw [e2] at this
        exact (congrArg Addr.block this).symm
      subst e3
      obtain ⟨cc, r1, _⟩ := hW
      rw [e, r1] at k2
      simp only [Option.some.injEq, Obj.cells.injEq] at k2
      exact absurd k2.2.1 (by decide)
  refine ⟨p, v, m, lo, fun k => k = p ∨ ∃ y, a = some y ∧ k = y.block, rfl, ⟨⟨DV.kept h.disk hg, ⟨a, c, hW, hso.base (Nat.zero_le _), .inl rfl, fun y hy => ⟨.inr ⟨y, hy, rfl⟩, hne y hy⟩⟩, fun k ha hb => ?_, fun k hb => Nat.lt_of_lt_of_le (h.ltB k hb) hg.size, ?_⟩, h.log, h.calm, h.from_.trans hg, ?_, h.tab⟩, hro, hg, hA, by omega⟩
  · have h1 := (hA k ha).1
    have h2 := h.ltB k hb
    omega
  · rintro k (rfl | ⟨y, rfl, rfl⟩)
    · exact hW.lt
    · exact (hso.block y.block rfl).2
  · rintro k (ha | hb)
    · exact Nat.le_trans h.from_.size (hA k ha).1
    · exact h.low k hb
theorem frame_len (zs : List Int) (h : zs.length ≤ 65536) : (frameR zs).length ≤ 65543 := by
  have h1 := enc_len_le 2 zs.length (by omega)
  have h4 : (four (sumR zs)).length = 4 := rfl
  rw [frameR]
  simp only [List.length_append, h4]
  omega
/-- Append. -/
theorem s_append {W w : World} {d mb n : Nat} {x : DSt} {p : Nat} {dir : ByteArray} {K : Kp} {Ls : Sg} {A B : Nat → Prop} (h : Se W w d mb n x p dir K Ls A B) (hdir : dirB dir = true) (a : Option Addr) (zs : List Int) (L cap : Nat) (hw : x.wn ≤ 999999900) (hop : openN K Ls < 99999998) (hn : n < 1048576) (hsg : Ls.length ≤ 4194304) (hr : Rd w a zs) (hL : zs.length = L) (hnil : a = none → cap = 0) (hz : L ≤ 65536) :
    Calls Tryz.prog 17 #[.pointer (some ⟨p, 0, none⟩), .slice a L cap] w fun e w' => e = .returned (.int .i64 0) ∧ ∃ n' A' B', n' ≤ n + 1 ∧ (appX x dir (openN K Ls) zs).wn ≤ x.wn + 2 ∧ Se W w' d mb n' (appX x dir (openN K Ls) zs) p dir K (addL K Ls zs) A' B' ∧ Step2 w w' A B A' B' := by
  have had := log_add (rec := zs) h.log h.calm (by omega) (by omega) hop
  have hfar := h.far
  have hfl : (frameR zs).length ≤ 65543 := by
    have hu : zs.length ≤ 65536 := by omega
    exact frame_len zs hu
  refine (w_append W.heap.size d mb n x p dir (cpName dir K) (Ls.map Prod.fst) (openN K Ls) A B a zs L cap w hdir hfar.1 hfar.2 h.at_ h.calm.on h.calm.free h.calm.ok (by omega) hop hn (by rw [List.length_map]; exact hsg) hr hL hnil hz (by have := had.room; omega) h.from_.size).mono ?_
  rintro e w' ⟨rfl, n', A', B', hn', hL', hS'⟩
  rw [had.segs, had.op] at hL'
  exact ⟨rfl, n', A', B', hn', had.wn, ⟨hL', had.log, had.calm, hS'.from_ h.from_ h.low, hS'.low h.from_ h.low, h.tab⟩, hS'⟩
/-- Sync. -/
theorem s_sync {W w : World} {d mb n : Nat} {x : DSt} {p : Nat} {dir : ByteArray} {K : Kp} {Ls : Sg} {A B : Nat → Prop} (h : Se W w d mb n x p dir K Ls A B) (hdir : dirB dir = true) (hw : x.wn ≤ 999999900) (hop : openN K Ls < 99999998) (hsg : Ls.length ≤ 4194304) :
    Calls Tryz.prog 19 #[.pointer (some ⟨p, 0, none⟩)] w fun e w' => e = .returned (.int .i64 0) ∧ ∃ n' B', n' ≤ n ∧ (syncX x dir (Ls.map Prod.fst) (openN K Ls)).wn ≤ x.wn + 1 ∧ Se W w' d mb n' (syncX x dir (Ls.map Prod.fst) (openN K Ls)) p dir K Ls A B' ∧ Step2 w w' A B A B' := by
  obtain ⟨s1, s2, s3, s4⟩ := log_sync h.log h.calm (by omega)
  have hfar := h.far
  refine (w_sync W.heap.size d mb n x p dir (cpName dir K) (Ls.map Prod.fst) (openN K Ls) A B w hdir hfar.1 h.at_ h.calm.ok (by omega) (by rw [List.length_map]; exact hsg) s4).mono ?_
  rintro e w' ⟨rfl, n', B', hn', hL', hS'⟩
  exact ⟨rfl, n', B', hn', s3, ⟨hL', s1, s2, hS'.from_ h.from_ h.low, hS'.low h.from_ h.low, h.tab⟩, hS'⟩
/-- Cut, of some records. -/
theorem s_cut {W w : World} {d mb n : Nat} {x : DSt} {p : Nat} {dir : ByteArray} {K : Kp} {Ls : Sg} {A B : Nat → Prop} (h : Se W w d mb n x p dir K Ls A B) (hdir : dirB dir = true) (ka : Option Addr) (kn kc : Nat) (ts : List Sl) (recs : List (List Int)) (hw : x.wn + Ls.length ≤ 999999900) (hop : openN K Ls < 99999998) (hn : n < 1048574) (hsg : Ls.length ≤ 4194304) (hk : KeepIs w ka ts recs) (hkn : recs.length = kn) (hk4 : kn ≤ 4194304) (hne : recs ≠ []) (hlen : (logB frameR recs).length ≤ 4194304) (hr : ∀ r ∈ recs, r.length ≤ 65536) :
    Calls Tryz.prog 23 #[.pointer (some ⟨p, 0, none⟩), .slice ka kn kc] w fun e w' => e = .returned (.int .i64 0) ∧ ∃ n' x' B', n' ≤ n + 2 ∧ x'.wn ≤ x.wn + 4 + Ls.length ∧ De W w' d mb n' x' dir (some (openN K Ls, recs)) [] B' ∧ Step2 w w' A B A B' := by
  obtain ⟨c1, c2, c3, c4, _⟩ := log_cut (recs := recs) h.log hdir h.calm hw hr hop
  have hfar := h.far
  have hcp : (cpName dir K).size ≤ 64 := by
    cases K with
    | none => exact (show (0 : Nat) ≤ 64 by omega)
    | some q =>
      have := nameB_size (cp_name hdir q.1)
      exact this
  have h8 : ∀ k ∈ Ls.map Prod.fst, k < 100000000 := h.log.folder.segr.2
  refine (w_cutC W.heap.size d mb n x p dir (cpName dir K) (Ls.map Prod.fst) (openN K Ls) A B ka kn kc ts recs w hdir hfar.1 hfar.2 h.at_ h.calm (by omega) hop hn h.log.noNew (by rw [List.length_map]; exact hsg) h8 hcp c1 hk hkn hk4 hne hlen h.from_.size).mono ?_
  rintro e w' ⟨rfl, n', B', hn', hd', hS', ha', hb'⟩
  exact ⟨rfl, n', _, B', hn', c4, ⟨hd', c2, c3, hS'.from_ h.from_ h.low, fun k hk => hS'.low h.from_ h.low k (.inr hk), hb', h.tab⟩, hS'⟩
end Go.Proofs.YtbhffjeoakalbaaGreatDoor
