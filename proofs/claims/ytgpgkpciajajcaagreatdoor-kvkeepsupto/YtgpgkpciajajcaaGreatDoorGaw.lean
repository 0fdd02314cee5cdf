/- Several texts in one: Lb, Lm, Zx, Zy. -/
import Derived.Test.YtgpgkpciajajcaaGreatDoorGat
import Derived.Test.YtgpgkpciajajcaaGreatDoorGau
import Derived.Test.YtgpgkpciajajcaaGreatDoorGav
/- A log with a checkpoint over an armed disk, call by call. -/
namespace Go.Proofs.YtgpgkpciajajcaaGreatDoor
open Go.RowKit Go.Maps Go.Sort
set_option linter.unusedVariables false
set_option maxRecDepth 20000

/-- A disk that may be armed, a log open over it, and what is synced of that. -/
structure SbK (W w : World) (d mb n : Nat) (x : DSt) (p : Nat) (dir : ByteArray) (K : Kp) (Ls : Sg) (safe : Nat) (A B : Nat → Prop) : Prop where
  at_ : LogAt w W.heap.size d mb n x p dir (cpName dir K) (Ls.map Prod.fst) (openN K Ls) A B
  log : Log x.V dir K Ls
  sy : SyK x.V dir K Ls safe
  on : x.off = false
  ok : x.ok
  from_ : W.grownBy w none
  low : ∀ k, A k ∨ B k → W.heap.size ≤ k
  tab : Tab W
/-- A disk whose power has gone, and what stands on it. -/
structure LoK (W w : World) (d mb n : Nat) (x : DSt) (dir : ByteArray) (K : Kp) (Ls : Sg) (safe : Nat) (B : Nat → Prop) : Prop where
  disk : DS w W.heap.size d mb n x B
  lost : ∃ kp V, x = ⟨true, false, 0, 0, x.wn, lostV kp V⟩ ∧ Log V dir K Ls ∧ SyK V dir K Ls safe
  wn : 0 ≤ x.wn
  from_ : W.grownBy w none
  low : ∀ k, B k → W.heap.size ≤ k
  ltB : ∀ k, B k → k < w.heap.size
  tab : Tab W
theorem SbK.far {W w : World} {d mb n : Nat} {x : DSt} {p : Nat} {dir : ByteArray} {K : Kp} {Ls : Sg} {safe : Nat} {A B : Nat → Prop} (h : SbK W w d mb n x p dir K Ls safe A B) : Tab w ∧ Far A B :=
  ⟨h.tab.grown h.from_, fun g hg => ⟨fun ha => by have := h.low g (.inl ha); have := h.tab.lt hg; omega, fun hb => by have := h.low g (.inr hb); have := h.tab.lt hg; omega⟩⟩
theorem SbK.grown {W w w' : World} {d mb n : Nat} {x : DSt} {p : Nat} {dir : ByteArray} {K : Kp} {Ls : Sg} {safe : Nat} {A B : Nat → Prop} (h : SbK W w d mb n x p dir K Ls safe A B) (hg : w.grownBy w' none) : SbK W w' d mb n x p dir K Ls safe A B :=
  ⟨h.at_.grown hg, h.log, h.sy, h.on, h.ok, h.from_.trans hg, h.low, h.tab⟩
theorem LoK.grown {W w w' : World} {d mb n : Nat} {x : DSt} {dir : ByteArray} {K : Kp} {Ls : Sg} {safe : Nat} {B : Nat → Prop} (h : LoK W w d mb n x dir K Ls safe B) (hg : w.grownBy w' none) : LoK W w' d mb n x dir K Ls safe B :=
  ⟨DV.kept h.disk hg, h.lost, h.wn, h.from_.trans hg, h.low, fun k hk => Nat.lt_of_lt_of_le (h.ltB k hk) hg.size, h.tab⟩
/-- What a call of the log leaves, if the power goes in it. -/
theorem lostK_lo {W w w' : World} {d mb n : Nat} {x y : DSt} {p : Nat} {dir : ByteArray} {K : Kp} {Ls Ls' : Sg} {safe : Nat} {A B : Nat → Prop} (h : SbK W w d mb n x p dir K Ls safe A B) (hl : LostAt w W.heap.size d mb n y p dir (cpName dir K) A B w') (hy : ∃ kp V, y = ⟨true, false, 0, 0, y.wn, lostV kp V⟩ ∧ Log V dir K Ls' ∧ SyK V dir K Ls' safe) (hw : 0 ≤ y.wn) : ∃ n' A' B', n' ≤ n + 1 ∧ LoK W w' d mb n' y dir K Ls' safe B' ∧ Step2 w w' A B A' B' := by
  obtain ⟨n', A', B', sg, op, h1, h2, h3⟩ := hl
  exact ⟨n', A', B', h1, ⟨h2.disk, hy, hw, h3.from_ h.from_ h.low, fun k hk => h3.low h.from_ h.low k (.inr hk), h2.ltB, h.tab⟩, h3⟩
/-- Sync. -/
theorem sbK_sync {W w : World} {d mb n : Nat} {x : DSt} {p : Nat} {dir : ByteArray} {K : Kp} {Ls : Sg} {safe : Nat} {A B : Nat → Prop} (h : SbK W w d mb n x p dir K Ls safe A B) (hdir : dirB dir = true) (hw : x.wn ≤ 999999900) (hop : openN K Ls < 99999998) (hsg : Ls.length ≤ 4194304) :
    Calls Tryz.prog 74 #[.pointer (some ⟨p, 0, none⟩)] w fun e w' =>
      (e = .returned (.int .i64 0) ∧ ∃ n' x' B', n' ≤ n ∧ x'.wn ≤ x.wn + 1 ∧ SbK W w' d mb n' x' p dir K Ls (recsOf Ls).length A B' ∧ Step2 w w' A B A B') ∨
      (e = .returned (.int .i64 60) ∧ ∃ n' x' A' B', n' ≤ n + 1 ∧ x'.wn ≤ x.wn + 1 ∧ LoK W w' d mb n' x' dir K Ls safe B' ∧ Step2 w w' A B A' B') := by
  have hfar := h.far
  have hw0 := h.ok.1.1
  have hop9 : openN K Ls < 99999999 := by omega
  rcases sync_caseK h.log h.on h.ok (by omega) h.sy with ⟨hs0, s1, s2, s3, s4, s5, s6⟩ | ⟨ho, hs⟩
  · refine (w_sync W.heap.size d mb n x p dir (cpName dir K) (Ls.map Prod.fst) (openN K Ls) A B w hdir hfar.1 h.at_ h.ok hop9 (by rw [List.length_map]; exact hsg) hs0).mono ?_
    rintro e w' ⟨rfl, n', B', hn', hL', hS'⟩
    exact .inl ⟨rfl, n', _, B', hn', s5, ⟨hL', s3, s4, s1, s2, hS'.from_ h.from_ h.low, hS'.low h.from_ h.low, h.tab⟩, hS'⟩
  · refine (w_syncP W.heap.size d mb n x p dir (cpName dir K) (Ls.map Prod.fst) (openN K Ls) A B w hdir hfar.1 h.at_ h.ok hop9 (by rw [List.length_map]; exact hsg) ho _ hs).mono ?_
    rintro e w' ⟨rfl, hl⟩
    obtain ⟨n', A', B', h1, h2, h3⟩ := lostK_lo h hl ⟨x.kp, x.V, rfl, h.log, h.sy⟩ (by dsimp only; omega)
    exact .inr ⟨rfl, n', _, A', B', h1, by dsimp only; omega, h2, h3⟩
end Go.Proofs.YtgpgkpciajajcaaGreatDoor

/- Append to a segment that has its file: the disk gets no file more. -/
namespace Go.Proofs.YtgpgkpciajajcaaGreatDoor
open Go.RowKit Go.Maps Go.Sort
set_option linter.unusedVariables false
set_option maxRecDepth 20000

theorem v_app1E (base d mb n B3 B4 B5 M cd : Nat) (off set : Bool) (ah kp wn : Int) (V : Cont) (B : Nat → Prop) (s : ByteArray) (ad : Addr) (zs : List Int) (w : World) (F : ByteArray → Option Nat) (G : Nat → FD) (h : DiskIs w base d mb n off set ah kp wn F G) (hv : ∀ s, V s = (F s).map fun b => ((G b).zs, (G b).syn)) (hB : ∀ k, OwnAll d mb F G k → B k) (hss : s.size ≤ 64) (hn : n ≤ 1048576)
    (hVs : (V s).isSome = true) (hB3 : w.rowIs B3 23 1 (fun _ => .pointer (some ⟨d, 0, none⟩))) (hB4 : w.rowIs B4 9 1 (fun _ => .string s)) (hB5 : w.rowIs B5 37 1 (fun _ => .slice (some ad) M cd)) (hr : SRd byteE w (some ad) zs) (hM : zs.length = M) (hby : ∀ z ∈ zs, 0 ≤ z ∧ z ≤ 255) (hlen : (oldV V s).1.length + M ≤ 4194304) (hb : base ≤ w.heap.size) (had : ad.block ≠ mb) :
    Calls Tryz.prog 163 #[.pointer (some ⟨B3, 0, none⟩), .pointer (some ⟨B4, 0, none⟩), .pointer (some ⟨B5, 0, none⟩)] w fun e w' => e = .returned (.tuple #[]) ∧ ∃ n' F' G' B', n' ≤ n ∧ DiskIs w' base d mb n' off set ah kp wn F' G' ∧ (∀ t, setV V s (some ((oldV V s).1 ++ zs, (oldV V s).2)) t = (F' t).map fun b => ((G' b).zs, (G' b).syn)) ∧ (∀ k, OwnAll d mb F' G' k → B' k) ∧ Step w w' B B' := by
  have hvs := hv s
  cases hF : F s with
  | none =>
    rw [hvs, hF] at hVs
    cases hVs
  | some b =>
    obtain ⟨f, hf⟩ : ∃ f, G b = f := ⟨_, rfl⟩
    obtain ⟨A, C, Z, Y⟩ := f
    have e0 : oldV V s = (Z, Y) := by unfold oldV; rw [hvs, hF, Option.map_some, hf]; rfl
    rw [e0] at hlen ⊢
    refine (d_appOld base d mb n b B3 B4 B5 M cd off set ah kp wn F G A C Z Y s ad zs w h hf hF hss hB3 hB4 hB5 hr hM hby hlen hb).mono ?_
    rintro e w' ⟨rfl, a', c', hd, hk, hx⟩
    obtain ⟨B', ⟨F2, G2, h1, h2, h3⟩, h4⟩ := DV.of (f := ⟨a', c', Z ++ zs, Y⟩) (s := s) (b := b) hB hv hd hF (updG_same _ _ _) (fun t ht => rfl) (fun t k ht hk => by
      rw [updG_other _ _ (fun e => ht (h.inj t s b (by rw [← e]; exact hk) hF))]) hk (fun k hk => by
        rcases hk with e | ⟨x, hx, e⟩
        · exact .inr (.inr ⟨s, b, hF, .inl e⟩)
        · exact .inr (.inr ⟨s, b, hF, .inr ⟨x, by rw [hf]; exact hx, e⟩⟩)) (fun hne => absurd hF hne) (fun x hx' => by
        rcases hx x hx' with h5 | ⟨y, hy, h5⟩
        · exact .inr (.inl h5)
        · exact .inr (.inr ⟨y, hF, by rw [hf]; exact hy, h5⟩))
    exact ⟨rfl, n, F2, G2, B', Nat.le_refl _, h1, h2, h3, h4⟩
/-- Append's closure, called in the midst of a write. -/
theorem app_closE (base d mb n : Nat) (off set set' : Bool) (ah ah' kp wn wn' : Int) (V : Cont) (B : Nat → Prop) (s : ByteArray) (ad : Addr) (zs : List Int) (M cd : Nat) (F : ByteArray → Option Nat) (G : Nat → FD) (w w1 : World) (hd4 : DiskIs (box3 w d s (.slice (some ad) M cd)) base d mb n off set ah kp wn F G) (h1 : DiskIs w1 base d mb n off set' ah' kp wn' F G) (hk1 : Kept (box3 w d s (.slice (some ad) M cd)) w1 (fun k => k = d)) (hv : ∀ s, V s = (F s).map fun b => ((G b).zs, (G b).syn)) (hB : ∀ k, OwnAll d mb F G k → B k)
    (hVs : (V s).isSome = true) (hnm : nameB s = true) (hn : n < 1048576) (hr : SRd byteE w (some ad) zs) (hM : zs.length = M) (hby : ∀ z ∈ zs, 0 ≤ z ∧ z ≤ 255) (hlen : (oldV V s).1.length + M ≤ 4194304) (hb : base ≤ w.heap.size) (had : ad.block ≠ mb) (hadd : ad.block ≠ d) :
    Calls Tryz.prog 163 #[.pointer (some ⟨w.heap.size, 0, none⟩), .pointer (some ⟨w.heap.size + 1, 0, none⟩), .pointer (some ⟨w.heap.size + 1 + 1, 0, none⟩)] w1 fun e w' => e = .returned (.tuple #[]) ∧ ∃ n' F' G', DiskIs w' base d mb n' off set' ah' kp wn' F' G' ∧ n' ≤ n ∧ (∀ t, setV V s (some ((oldV V s).1 ++ zs, (oldV V s).2)) t = (F' t).map fun b => ((G' b).zs, (G' b).syn)) ∧ ∃ B', (∀ k, OwnAll d mb F' G' k → B' k) ∧ Step w w' B B' := by
  obtain ⟨hg, r3, r4, r5, hsl⟩ := box3_facts w d s (.slice (some ad) M cd)
  obtain ⟨q3, q4, q5⟩ := boxes_stay hd4.row hk1
  have hr1 : SRd byteE w1 (some ad) zs := by
    have h0 := hr.grown hg (by simp)
    rcases h0 with e | ⟨b, off, e, hc⟩
    · exact .inl e
    · refine .inr ⟨b, off, e, fun j v hj => ?_⟩
      have hcj := hc j v hj
      have hbl := World.block_lt_of_cell? _ _ hcj
      have hbd : b ≠ d := by
        have : ad.block = b := by cases e; rfl
        rw [← this]; exact hadd
      unfold World.cell? at hcj ⊢
      rw [hk1.block b hbl hbd]
      exact hcj
  refine (v_app1E base d mb n _ _ _ M cd off set' ah' kp wn' V B s ad zs w1 F G h1 hv hB (nameB_size hnm) (by omega) hVs q3 q4 q5 hr1 hM hby hlen (Nat.le_trans hb (Nat.le_trans hg.size hk1.size)) had).mono ?_
  rintro e w' ⟨rfl, n', F', G', B', hn', hd', hv', hB', hst⟩
  exact ⟨rfl, n', F', G', hd', hn', hv', B', hB', ((Step.grown B hg).trans ⟨hk1.mono (fun k _ hk => hB k (.inl hk)), fun k _ hk => hk⟩).trans hst⟩
theorem v_appendE (base d mb n : Nat) (ah kp wn : Int) (V : Cont) (B : Nat → Prop) (s : ByteArray) (ad : Addr) (zs : List Int) (M cd : Nat) (w : World) (h : DV w base d mb n false false ah kp wn V B) (hVs : (V s).isSome = true) (hnm : nameB s = true) (hn : n < 1048576) (hw : 0 ≤ wn ∧ wn ≤ 1000000000) (hr : SRd byteE w (some ad) zs) (hM : zs.length = M) (hby : ∀ z ∈ zs, 0 ≤ z ∧ z ≤ 255) (hlen : (oldV V s).1.length + M ≤ 4194304) (hb : base ≤ w.heap.size) (had : ad.block ≠ mb) (hadd : ad.block ≠ d) :
    Calls Tryz.prog 134 #[.pointer (some ⟨d, 0, none⟩), .string s, .slice (some ad) M cd] w fun e w' => e = .returned (.int .i64 0) ∧ ∃ n' B', n' ≤ n ∧ DV w' base d mb n' false false ah kp (wn + 1) (setV V s (some ((oldV V s).1 ++ zs, (oldV V s).2))) B' ∧ Step w w' B B' := by
  obtain ⟨hg, _⟩ := box3_facts w d s (.slice (some ad) M cd)
  obtain ⟨F, G, hd, hv, hB⟩ := id h
  have hd4 := hd.kept hg
  refine (v_appendBy base d mb n false ah kp wn V B s ad M cd (fun c w' => c = 0 ∧ ∃ n' B', n' ≤ n ∧ DV w' base d mb n' false false ah kp (wn + 1) (setV V s (some ((oldV V s).1 ++ zs, (oldV V s).2))) B' ∧ Step w w' B B') w h hnm hn hlen ?_).mono ?_
  · refine (d_writeGo46 base d mb n true false ah kp wn F G _ (fun w' => ∃ n' B', n' ≤ n ∧ DV w' base d mb n' false false ah kp (wn + 1) (setV V s (some ((oldV V s).1 ++ zs, (oldV V s).2))) B' ∧ Step w w' B B') _ hd4 hw ?_).mono ?_
    · intro w1 h1 hk1
      refine (app_closE base d mb n false false false ah ah kp wn (wn + 1) V B s ad zs M cd F G w w1 hd4 h1 hk1 hv hB hVs hnm hn hr hM hby hlen hb had hadd).mono ?_
      rintro e w' ⟨rfl, n', F', G', hd', hn', hv', B', hB', hst⟩
      exact ⟨rfl, n', B', hn', ⟨F', G', hd', hv', hB'⟩, hst⟩
    · rintro e w' ⟨rfl, hP⟩
      exact ⟨0, rfl, rfl, hP⟩
  · rintro e w' ⟨c, rfl, rfl, hP⟩
    exact ⟨rfl, hP⟩
theorem v_appendArmedE (base d mb n : Nat) (ah kp wn : Int) (V : Cont) (B : Nat → Prop) (s : ByteArray) (ad : Addr) (zs : List Int) (M cd : Nat) (w : World) (h : DV w base d mb n false true ah kp wn V B) (ha : 0 < ah ∧ ah ≤ 9223372036854775807) (hVs : (V s).isSome = true) (hnm : nameB s = true) (hn : n < 1048576) (hw : 0 ≤ wn ∧ wn ≤ 1000000000) (hr : SRd byteE w (some ad) zs) (hM : zs.length = M) (hby : ∀ z ∈ zs, 0 ≤ z ∧ z ≤ 255) (hlen : (oldV V s).1.length + M ≤ 4194304) (hb : base ≤ w.heap.size) (had : ad.block ≠ mb) (hadd : ad.block ≠ d) :
    Calls Tryz.prog 134 #[.pointer (some ⟨d, 0, none⟩), .string s, .slice (some ad) M cd] w fun e w' => e = .returned (.int .i64 0) ∧ ∃ n' B', n' ≤ n ∧ DV w' base d mb n' false true (ah - 1) kp (wn + 1) (setV V s (some ((oldV V s).1 ++ zs, (oldV V s).2))) B' ∧ Step w w' B B' := by
  obtain ⟨hg, _⟩ := box3_facts w d s (.slice (some ad) M cd)
  obtain ⟨F, G, hd, hv, hB⟩ := id h
  have hd4 := hd.kept hg
  refine (v_appendBy base d mb n true ah kp wn V B s ad M cd (fun c w' => c = 0 ∧ ∃ n' B', n' ≤ n ∧ DV w' base d mb n' false true (ah - 1) kp (wn + 1) (setV V s (some ((oldV V s).1 ++ zs, (oldV V s).2))) B' ∧ Step w w' B B') w h hnm hn hlen ?_).mono ?_
  · refine (d_writeArmed46 base d mb n true false ah kp wn F G _ (fun w' => ∃ n' B', n' ≤ n ∧ DV w' base d mb n' false true (ah - 1) kp (wn + 1) (setV V s (some ((oldV V s).1 ++ zs, (oldV V s).2))) B' ∧ Step w w' B B') _ hd4 hw ha ?_).mono ?_
    · intro w1 h1 hk1
      refine (app_closE base d mb n false true true ah (ah - 1) kp wn (wn + 1) V B s ad zs M cd F G w w1 hd4 h1 hk1 hv hB hVs hnm hn hr hM hby hlen hb had hadd).mono ?_
      rintro e w' ⟨rfl, n', F', G', hd', hn', hv', B', hB', hst⟩
      exact ⟨rfl, n', B', hn', ⟨F', G', hd', hv', hB'⟩, hst⟩
    · rintro e w' ⟨rfl, hP⟩
      exact ⟨0, rfl, rfl, hP⟩
  · rintro e w' ⟨c, rfl, rfl, hP⟩
    exact ⟨rfl, hP⟩
theorem x_appendE (base d mb n : Nat) (x : DSt) (B : Nat → Prop) (s : ByteArray) (ad : Addr) (zs : List Int) (M cd : Nat) (w : World) (h : DS w base d mb n x B) (hok : x.ok) (hon : x.off = false) (h0 : (x.append s zs).1 = 0) (hVs : (x.V s).isSome = true) (hnm : nameB s = true) (hn : n < 1048576) (hr : SRd byteE w (some ad) zs) (hM : zs.length = M) (hby : ∀ z ∈ zs, 0 ≤ z ∧ z ≤ 255) (hlen : (oldV x.V s).1.length + M ≤ 4194304) (hb : base ≤ w.heap.size) (had : ad.block ≠ mb) (hadd : ad.block ≠ d) :
    Calls Tryz.prog 134 #[.pointer (some ⟨d, 0, none⟩), .string s, .slice (some ad) M cd] w fun e w' => e = .returned (.int .i64 0) ∧ ∃ n' B', n' ≤ n ∧ DS w' base d mb n' (x.append s zs).2 B' ∧ Step w w' B B' := by
  obtain ⟨off, set, ah, kp, wn, V⟩ := x
  obtain ⟨hw, ha, hk⟩ := hok
  dsimp only at hon hVs
  subst hon
  unfold DSt.append at h0 ⊢
  rw [if_neg (by simp)] at h0 ⊢
  unfold DSt.wr at h0 ⊢
  cases set with
  | false =>
    refine (v_appendE base d mb n ah kp wn V B s ad zs M cd w h hVs hnm hn hw hr hM hby hlen hb had hadd).mono ?_
    rintro e w' ⟨rfl, n', B', hn', hd', hst⟩
    exact ⟨rfl, n', B', hn', hd', hst⟩
  | true =>
    rw [if_neg (by simp)] at h0 ⊢
    by_cases h1 : ah = 0
    · rw [if_pos h1] at h0
      cases h0
    · rw [if_neg h1]
      have h2 := ha rfl
      refine (v_appendArmedE base d mb n ah kp wn V B s ad zs M cd w h (by dsimp only at h2; omega) hVs hnm hn hw hr hM hby hlen hb had hadd).mono ?_
      rintro e w' ⟨rfl, n', B', hn', hd', hst⟩
      exact ⟨rfl, n', B', hn', hd', hst⟩
set_option maxHeartbeats 8000000 in
theorem w_writeAE (base d mb n : Nat) (x : DSt) (p : Nat) (dir cp : ByteArray) (segs : List Nat) (op : Nat) (A B : Nat → Prop) (ad : Addr) (zs : List Int) (M cd : Nat) (w : World) (hdir : dirB dir = true) (ht : Tab w) (h : LogAt w base d mb n x p dir cp segs op A B) (hon : x.off = false) (hVs : (x.V (segN dir op)).isSome = true) (hap1 : (x.append (segN dir op) zs).1 = 0) (hok : x.ok) (hop : op < 99999999) (hn : n < 1048576) (hsg : segs.length ≤ 4194304) (hr : SRd byteE w (some ad) zs) (hM : zs.length = M) (hby : ∀ z ∈ zs, 0 ≤ z ∧ z ≤ 255) (hlen : (oldV x.V (segN dir op)).1.length + M ≤ 4194304) (hb : base ≤ w.heap.size) (had : ¬ B ad.block) (hadl : ad.block < w.heap.size) :
    Calls Tryz.prog 100 #[.pointer (some ⟨p, 0, none⟩), .slice (some ad) M cd] w fun e w' => e = .returned (.tuple #[]) ∧ ∃ n' A' B', n' ≤ n ∧ LogAt w' base d mb n' (x.append (segN dir op) zs).2 p dir cp (segsX segs op) op A' B' ∧ Step2 w w' A B A' B' := by
  have hds : dir.size ≤ 32 := by simp only [dirB, Bool.and_eq_true, decide_eq_true_eq] at hdir; exact hdir.2
  have HL : Hid (LogAt w base d mb n x p dir cp segs op A B) := h
  have hnm := seg_name hdir op
  obtain ⟨a, c, hW, _⟩ := h.wal
  obtain ⟨c0, c1, c2, c3, c4⟩ := hW.cells
  have HW : Hid (WRow w p d dir cp (.slice a segs.length c) (op : Int)) := hW
  have HGD : Hid (w.grownBy w.drew none) := gb_drew (World.grownBy.refl _ _)
  have HSG : Hid (Calls Tryz.prog 105 #[.pointer (some ⟨p, 0, none⟩), .int .i64 (op : Int)] w.drew fun e w' => e = .returned (.string (segN dir op)) ∧ w.drew.grownBy w' none) := w_segment p d dir cp _ _ op (by omega) _ (by omega) (ht.grown HGD.out) (hW.kept HGD.out (by simp))
  have HA1 : Hid ((x.append (segN dir op) zs).1 = 0) := hap1
  clear hap1
  have HVS : Hid ((x.V (segN dir op)).isSome = true) := hVs
  clear hVs
  have hBd : B d := by obtain ⟨F, G, _, _, hb⟩ := h.disk; exact hb d (.inl rfl)
  have hBm : B mb := by obtain ⟨F, G, _, _, hb⟩ := h.disk; exact hb mb (.inr (.inl rfl))
  have HAP : Hid (∀ w1, w.grownBy w1 none → Calls Tryz.prog 134 #[.pointer (some ⟨d, 0, none⟩), .string (segN dir op), .slice (some ad) M cd] w1 fun e w' => e = .returned (.int .i64 0) ∧ ∃ n' B', n' ≤ n ∧ LogAt w' base d mb n' (x.append (segN dir op) zs).2 p dir cp segs op A B' ∧ Step2 w w' A B A B') := fun w1 hg => by
    have h1 := HL.out.grown hg
    refine (x_appendE base d mb n x B (segN dir op) ad zs M cd w1 h1.disk hok hon HA1.out HVS.out hnm hn (hr.grown hg (by simp)) hM hby hlen (Nat.le_trans hb hg.size) (fun e => had (e ▸ hBm)) (fun e => had (e ▸ hBd))).mono ?_
    rintro e w' ⟨rfl, n', B', hn', hd', hst⟩
    obtain ⟨B'', h2, h3⟩ := h1.write hd' hst
    exact ⟨rfl, n', B'', hn', h2, (Step2.grown A B hg).trans h3⟩
  have HCELL : Hid (∀ w2, (∃ n' B', n' ≤ n ∧ LogAt w2 base d mb n' (x.append (segN dir op) zs).2 p dir cp segs op A B' ∧ Step2 w w2 A B A B') → w2.cell? ⟨p, 0, none⟩ = some (.pointer (some ⟨d, 0, none⟩)) ∧ w2.cell? ⟨p, 4, none⟩ = some (.int .i64 (op : Int))) := by
    rintro w2 ⟨n', B', _, h2, h3⟩
    obtain ⟨a2, c2, hW2, _⟩ := h2.wal
    exact ⟨hW2.cells.1, hW2.cells.2.2.2.2⟩
  clear h hW c1 c2 c3 hr hby hlen had hadl hBd hBm hM
  go_enter Tryz.func100, Tryz.ntmps100
  go_upto_region 0 with fail
  go_cut [4] from 5 (fun t4 wc => t4 = .int .i64 0 ∧ ∃ n' B', n' ≤ n ∧ LogAt wc base d mb n' (x.append (segN dir op) zs).2 p dir cp segs op A B' ∧ Step2 w wc A B A B')
  case first =>
    go_region_held3 (fun W => W.cell? ⟨p, 0, none⟩ = some (.pointer (some ⟨d, 0, none⟩)) ∧ W.cell? ⟨p, 4, none⟩ = some (.int .i64 (op : Int))) (go_keep) (first
      | (go_at_call 105; refine HSG.out.mono ?_; rintro e w1 ⟨rfl, hg1⟩; have HG1 : Hid (w.grownBy w1 none) := HGD.out.trans hg1; have c0' := (HW.out.kept HG1.out (by simp)).cells.1; have c4' := (HW.out.kept HG1.out (by simp)).cells.2.2.2.2; clear hg1)
      | (go_at_call 134; refine (HAP.out _ HG1.out).mono ?_; rintro e w2 ⟨rfl, hx2⟩; have HX2 : Hid (∃ n' B', n' ≤ n ∧ LogAt w2 base d mb n' (x.append (segN dir op) zs).2 p dir cp segs op A B' ∧ Step2 w w2 A B A B') := hx2; obtain ⟨c0'', c4''⟩ := HCELL.out w2 hx2; clear hx2))
    all_goals (go_wp2; go_meet)
    all_goals exact ⟨rfl, HX2.out⟩
  case rest =>
    obtain ⟨rfl, n', B', hn', hL', hS'⟩ := hcut
    have HL' : Hid (LogAt wc base d mb n' (x.append (segN dir op) zs).2 p dir cp segs op A B') := hL'
    have HS' : Hid (Step2 w wc A B A B') := hS'
    obtain ⟨a4, k4, hW4, hso4, hA4, hB4⟩ := hL'.wal
    have HD0 := fun w => w_done0 w
    have HHF : Hid (Calls Tryz.prog 101 #[.pointer (some ⟨p, 0, none⟩)] wc fun e w' => e = .returned (.bool (isOpen segs op)) ∧ ∃ k, w' = wc.drewN k) := w_hasFile p d dir cp a4 k4 segs op wc hW4 hso4.rd (by omega)
    have HW4 : Hid (WRow wc p d dir cp (.slice a4 segs.length k4) (op : Int)) := hW4
    have HSO4 : Hid (IOwn wc 0 (.slice a4 segs.length k4) segs.length (nI segs)) := hso4
    have HA4 : Hid (A p ∧ ∀ y, a4 = some y → A y.block ∧ y.block ≠ p) := ⟨hA4, hB4⟩
    clear hL' hS' hW4 hso4 hA4 hB4 HSG HAP
    go_wp2_with fail
    refine HHF.out.mono ?_
    rintro e w5 ⟨rfl, kq, rfl⟩
    obtain ⟨wk, ewk⟩ : ∃ wk, wk = wc.drewN kq := ⟨_, rfl⟩
    have hgk : wc.grownBy wk none := by rw [ewk]; exact gb_drewN wc kq
    have HLk : Hid (LogAt wk base d mb n' (x.append (segN dir op) zs).2 p dir cp segs op A B') := HL'.out.grown hgk
    have HSk : Hid (Step2 w wk A B A B') := HS'.out.trans (Step2.grown A B' hgk)
    have HWk : Hid (WRow wk p d dir cp (.slice a4 segs.length k4) (op : Int)) := HW4.out.kept hgk (by simp)
    have HSOk : Hid (IOwn wk 0 (.slice a4 segs.length k4) segs.length (nI segs)) := IOwn.kept HSO4.out hgk (by cases a4 <;> simp [Value.ownBlock])
    rw [← ewk]
    clear ewk hgk HHF HL' HS' HW4 HSO4
    cases ho : isOpen segs op with
    | true =>
      have HX : Hid (segsX segs op = segs) := by show _ = _; unfold segsX; rw [if_pos ho]
      go_wp2_with fail
      refine (HD0 _).mono ?_
      rintro e w1 ⟨rfl, rfl⟩
      go_wp2
      go_end0
      rw [HX.out]
      exact ⟨rfl, n', A, B', hn', HLk.out, HSk.out⟩
    | false =>
      have HX : Hid (segsX segs op = segs ++ [op]) := by show _ = _; unfold segsX; rw [if_neg (by rw [ho]; simp)]
      have hWd : WRow (wk.alloc (.cells #[.int .i64 (op : Int)] 3)).drew p d dir cp (.slice a4 segs.length k4) (op : Int) := (HWk.out.alloc _).drew
      have x3 := HWk.out.cells.2.2.2.1
      have x4 := HWk.out.cells.2.2.2.2
      have y3 : (wk.alloc (.cells #[.int .i64 (op : Int)] 3)).cell? ⟨p, 3, none⟩ = some (.slice a4 segs.length k4) := hWd.cells.2.2.2.1
      have y4 : (wk.alloc (.cells #[.int .i64 (op : Int)] 3)).cell? ⟨p, 4, none⟩ = some (.int .i64 (op : Int)) := hWd.cells.2.2.2.2
      have HWd : Hid (WRow (wk.alloc (.cells #[.int .i64 (op : Int)] 3)).drew p d dir cp (.slice a4 segs.length k4) (op : Int)) := hWd
      have HOW : Hid (IOwn (wk.alloc (.cells #[.int .i64 (op : Int)] 3)).drew 0 (.slice a4 segs.length k4) segs.length (nI segs)) := IOwn.kept HSOk.out (gb_drew (World.grownBy_alloc wk _ none)) (by cases a4 <;> simp [Value.ownBlock])
      have HPN : Hid (∀ k, Value.ownBlock (.slice a4 segs.length k4) = some k → k ≠ p) := fun k hk => by
        cases a4 with
        | none => cases hk
        | some y => have e : y.block = k := Option.some.inj hk; subst e; exact (HA4.out.2 y rfl).2
      have HIL : Hid (SRd intE (wk.alloc (.cells #[.int .i64 (op : Int)] 3)).drew (some ⟨wk.heap.size, 0, none⟩) [(op : Int)]) := ilit wk.drew [(op : Int)]
      clear hWd ho
      obtain ⟨L, eL⟩ : ∃ L, L = segs.length := ⟨_, rfl⟩
      have EL : Hid (L = segs.length) := eL
      rw [← eL] at x3 y3 hsg
      have HOW2 : Hid (IOwn (wk.alloc (.cells #[.int .i64 (op : Int)] 3)).drew 0 (.slice a4 L k4) L (nI segs)) := by show IOwn _ _ _ _ _; rw [eL]; exact HOW.out
      have HSTEP : Hid (∀ g3 o3 c3 w3, IOwn w3 0 (.slice (some ⟨g3, o3, none⟩) (L + 1) c3) (L + 1) (nI segs ++ [(op : Int)]) → (wk.alloc (.cells #[.int .i64 (op : Int)] 3)).drew.grownBy w3 (Value.ownBlock (.slice a4 L k4)) → (Value.ownBlock (.slice a4 L k4) = some g3 ∨ (wk.alloc (.cells #[.int .i64 (op : Int)] 3)).drew.heap.size ≤ g3) → w3.cell? ⟨p, 3, none⟩ = some (.slice a4 L k4) ∧ w3.frozen? ⟨p, 3, none⟩ = false ∧ ∃ A', LogAt (w3.setCell ⟨p, 3, none⟩ (.slice (some ⟨g3, o3, none⟩) (L + 1) c3)) base d mb n' (x.append (segN dir op) zs).2 p dir cp (segs ++ [op]) op A' B' ∧ Step2 wk (w3.setCell ⟨p, 3, none⟩ (.slice (some ⟨g3, o3, none⟩) (L + 1) c3)) A B' A' B') := by
        show ∀ g3 o3 c3 w3, _
        rw [eL]
        intro g3 o3 c3 w3 ho3 hg3 hgg
        have hW3 := HWd.out.kept hg3 (fun e => HPN.out p e.symm rfl)
        exact ⟨hW3.cells.2.2.2.1, hW3.frozen 3, LogAt.addSeg HLk.out HWk.out HSOk.out HA4.out.2 HA4.out.1 ho3 hg3 hgg⟩
      clear eL
      go_wp2_with fail
      go_region_law (refine step_append_I rfl (.tmp 28) (.tmp 33) rfl a4 L k4 (nI segs) (by simp [Act.eval]) HOW2.out ⟨wk.heap.size, 0, none⟩ (op : Int) (by simp [Act.eval]) HIL.out (by omega) ?_; intro g3 o3 c3 w3 ho3 hg3 hgg; obtain ⟨s3, z3, hx3⟩ := HSTEP.out g3 o3 c3 w3 ho3 hg3 hgg; have HX3 : Hid (∃ A', LogAt (w3.setCell ⟨p, 3, none⟩ (.slice (some ⟨g3, o3, none⟩) (L + 1) c3)) base d mb n' (x.append (segN dir op) zs).2 p dir cp (segs ++ [op]) op A' B' ∧ Step2 wk (w3.setCell ⟨p, 3, none⟩ (.slice (some ⟨g3, o3, none⟩) (L + 1) c3)) A B' A' B') := hx3; clear ho3 hg3 hgg hx3)
      all_goals go_wp2_with fail
      all_goals refine (HD0 _).mono ?_
      all_goals rintro e w1 ⟨rfl, rfl⟩
      all_goals go_wp2
      all_goals go_end0
      all_goals rw [HX.out]
      all_goals (obtain ⟨A', h1, h2⟩ := HX3.out; exact ⟨rfl, n', A', B', hn', h1, HSk.out.trans h2⟩)
def AppOutE (w : World) (base d mb n : Nat) (x : DSt) (p : Nat) (dir cp : ByteArray) (segs : List Nat) (op : Nat) (A B : Nat → Prop) (rec : List Int) (e : Ending) (w' : World) : Prop := e = .returned (.int .i64 0) ∧ ∃ n' A' B', n' ≤ n ∧ LogAt w' base d mb n' (appX x dir op rec) p dir cp (segsX segs (rollX x dir op).2) (rollX x dir op).2 A' B' ∧ Step2 w w' A B A' B'
set_option maxHeartbeats 8000000 in
theorem w_append1AE (base d mb n : Nat) (x : DSt) (p q r : Nat) (dir cp : ByteArray) (segs : List Nat) (op : Nat) (A B : Nat → Prop) (ad : Addr) (zs : List Int) (M cd : Nat) (w : World) (hdir : dirB dir = true) (ht : Tab w) (hf : Far A B) (h : LogAt w base d mb n x p dir cp segs op A B) (hon : x.off = false) (hsy : ∀ q, x.V (segN dir op) = some q → 4096 ≤ q.1.length → (x.sync (segN dir op)).1 = 0) (hro : (rollX x dir op).1.off = false) (hok2 : (rollX x dir op).1.ok) (hVs : ((rollX x dir op).1.V (segN dir (rollX x dir op).2)).isSome = true) (hap1 : ((rollX x dir op).1.append (segN dir (rollX x dir op).2) (frameR zs)).1 = 0) (hok : x.ok) (hw : x.wn ≤ 999999990) (hop : op < 99999998) (hn : n < 1048576) (hsg : segs.length ≤ 4194304) (hq : w.cell? ⟨q, 0, none⟩ = some (.pointer (some ⟨p, 0, none⟩))) (hqA : ¬ A q ∧ ¬ B q) (hrc : w.cell? ⟨r, 0, none⟩ = some (.slice (some ad) M cd)) (hrA : ¬ A r ∧ ¬ B r) (hr : SRd byteE w (some ad) (frameR zs)) (hM : (frameR zs).length = M) (hM0 : M ≠ 0) (hby : ∀ z ∈ frameR zs, 0 ≤ z ∧ z ≤ 255) (hlen : (oldV (rollX x dir op).1.V (segN dir (rollX x dir op).2)).1.length + M ≤ 4194304) (hb : base ≤ w.heap.size) (had : ¬ A ad.block ∧ ¬ B ad.block) (hadl : ad.block < w.heap.size) :
    Calls Tryz.prog 98 #[.pointer (some ⟨q, 0, none⟩), .pointer (some ⟨r, 0, none⟩)] w fun e w' => e = .returned (.tuple #[]) ∧ ∃ n' A' B', n' ≤ n ∧ LogAt w' base d mb n' (appX x dir op zs) p dir cp (segsX segs (rollX x dir op).2) (rollX x dir op).2 A' B' ∧ Step2 w w' A B A' B' := by
  have HRL : Hid (Calls Tryz.prog 99 #[.pointer (some ⟨p, 0, none⟩)] w fun e w' => e = .returned (.tuple #[]) ∧ ∃ n' B', n' ≤ n ∧ LogAt w' base d mb n' (rollX x dir op).1 p dir cp segs (rollX x dir op).2 A B' ∧ Step2 w w' A B A B') := w_rollA base d mb n x p dir cp segs op A B w hdir ht h hon hsy hok (by omega)
  have hrx := rollX_le x dir op
  have HAP1 : Hid (((rollX x dir op).1.append (segN dir (rollX x dir op).2) (frameR zs)).1 = 0) := hap1
  have HVS : Hid (((rollX x dir op).1.V (segN dir (rollX x dir op).2)).isSome = true) := hVs
  clear hsy hap1 hVs
  have hql : q < w.heap.size := cell_lt hq
  have hrl : r < w.heap.size := cell_lt hrc
  clear h
  go_enter Tryz.func98, Tryz.ntmps98
  go_wp2_with fail
  refine HRL.out.mono ?_
  rintro e w1 ⟨rfl, n1, B1, hn1, hL1, hS1⟩
  have ht1 := ht.step hS1 hf
  have q1 : w1.cell? ⟨q, 0, none⟩ = some (.pointer (some ⟨p, 0, none⟩)) := cell_kept hS1.kept hql (fun h => h.elim hqA.1 hqA.2) hq
  have r1 : w1.cell? ⟨r, 0, none⟩ = some (.slice (some ad) M cd) := cell_kept hS1.kept hrl (fun h => h.elim hrA.1 hrA.2) hrc
  have HWR : Hid (Calls Tryz.prog 100 #[.pointer (some ⟨p, 0, none⟩), .slice (some ad) M cd] w1 fun e w' => e = .returned (.tuple #[]) ∧ ∃ n' A' B', n' ≤ n1 ∧ LogAt w' base d mb n' (appX x dir op zs) p dir cp (segsX segs (rollX x dir op).2) (rollX x dir op).2 A' B' ∧ Step2 w1 w' A B1 A' B') := w_writeAE base d mb n1 (rollX x dir op).1 p dir cp segs (rollX x dir op).2 A B1 ad (frameR zs) M cd w1 hdir ht1.1 hL1 hro HVS.out HAP1.out hok2 (by omega) (by omega) hsg (srd_kept hr hS1.kept hadl (fun h => h.elim had.1 had.2)) hM hby hlen (Nat.le_trans hb hS1.kept.size) (fun h => had.2 (hS1.oldB _ hadl h)) (Nat.lt_of_lt_of_le hadl hS1.kept.size)
  have HS1 : Hid (Step2 w w1 A B A B1) := hS1
  clear hS1 hL1 ht1 HRL hq hrc
  go_wp2_with fail
  refine HWR.out.mono ?_
  rintro e w2 ⟨rfl, n2, A2, B2, hn2, hL2, hS2⟩
  have HR2 : Hid (n2 ≤ n ∧ LogAt w2 base d mb n2 (appX x dir op zs) p dir cp (segsX segs (rollX x dir op).2) (rollX x dir op).2 A2 B2 ∧ Step2 w w2 A B A2 B2) := ⟨by omega, hL2, HS1.out.trans hS2⟩
  clear hn2 hL2 hS2 HWR
  go_wp2
  go_end0
  exact ⟨rfl, n2, A2, B2, HR2.out⟩
set_option maxHeartbeats 8000000 in
theorem w_appendAE (base d mb n : Nat) (x : DSt) (p : Nat) (dir cp : ByteArray) (segs : List Nat) (op : Nat) (A B : Nat → Prop) (a : Option Addr) (zs : List Int) (L cap : Nat) (w : World) (hdir : dirB dir = true) (ht : Tab w) (hf : Far A B) (h : LogAt w base d mb n x p dir cp segs op A B) (hon : x.off = false) (hsy : ∀ q, x.V (segN dir op) = some q → 4096 ≤ q.1.length → (x.sync (segN dir op)).1 = 0) (hro : (rollX x dir op).1.off = false) (hok2 : (rollX x dir op).1.ok) (hVs : ((rollX x dir op).1.V (segN dir (rollX x dir op).2)).isSome = true) (hap1 : ((rollX x dir op).1.append (segN dir (rollX x dir op).2) (frameR zs)).1 = 0) (hok : x.ok) (hw : x.wn ≤ 999999990) (hop : op < 99999998) (hn : n < 1048576) (hsg : segs.length ≤ 4194304) (hr : Rd w a zs) (hL : zs.length = L) (hnil : a = none → cap = 0) (hz : L ≤ 65536) (hlen : (oldV (rollX x dir op).1.V (segN dir (rollX x dir op).2)).1.length + (frameR zs).length ≤ 4194304) (hb : base ≤ w.heap.size) :
    Calls Tryz.prog 73 #[.pointer (some ⟨p, 0, none⟩), .slice a L cap] w (AppOutE w base d mb n x p dir cp segs op A B zs) := by
  have hfl : flist zs = frameR zs := by unfold flist; rw [if_neg (by omega)]
  have hfc : fcode zs = 0 := by unfold fcode; rw [if_neg (by omega)]
  have hgq : w.grownBy (w.alloc (.cells #[.pointer (some ⟨p, 0, none⟩)] 65)) none := World.grownBy_alloc w _ none
  have HFR : Hid (Calls Tryz.prog 96 #[.slice a L cap] (w.alloc (.cells #[.pointer (some ⟨p, 0, none⟩)] 65)) fun e w' => ∃ v N c, e = .returned (.tuple #[.slice v N c, .int .i64 0]) ∧ Out (w.alloc (.cells #[.pointer (some ⟨p, 0, none⟩)] 65)) w' v N c (frameR zs) ∧ (w.alloc (.cells #[.pointer (some ⟨p, 0, none⟩)] 65)).grownBy w' none) := f_frame a zs L cap (frameR zs) 0 _ (hr.grown hgq (by simp)) hL hnil (by omega) hfl hfc
  have HL : Hid (LogAt w base d mb n x p dir cp segs op A B) := h
  have HSYX : Hid (∀ q, x.V (segN dir op) = some q → 4096 ≤ q.1.length → (x.sync (segN dir op)).1 = 0) := hsy
  have HAP1 : Hid (((rollX x dir op).1.append (segN dir (rollX x dir op).2) (frameR zs)).1 = 0) := hap1
  have HVS : Hid (((rollX x dir op).1.V (segN dir (rollX x dir op).2)).isSome = true) := hVs
  clear hsy hap1 hVs
  have HT : Hid (Tab w) := ht
  have HGQ : Hid (w.grownBy (w.alloc (.cells #[.pointer (some ⟨p, 0, none⟩)] 65)) none) := hgq
  have hmf : ∀ (fn : Fn) (first cap : Array Value) (w : World), (Instr.makeFunc fn first cap).run Tryz.prog w = .ok (.func fn first cap) w := fun _ _ _ _ => rfl
  have hs1 : ∀ (w : World) o, (w.alloc o).heap.size = w.heap.size + 1 := fun w o => Array.size_push _
  clear h ht hgq hr hfl hfc
  go_enter Tryz.func73, Tryz.ntmps73
  go_wp2_with fail
  refine HFR.out.mono ?_
  rintro e w1 ⟨fv, FN, fc, rfl, hout, hg1⟩
  obtain ⟨ad, rfl⟩ : ∃ ad, fv = some ad := by
    cases fv with
    | some ad => exact ⟨ad, rfl⟩
    | none =>
      exfalso
      have h1 := hout.1
      have h2 := framing.pos zs
      have h3 := hout.2.2.1 rfl
      have h4 := hout.2.2.2.1
      omega
  go_wp2_with fail
  obtain ⟨W3, eW3⟩ : ∃ W3, W3 = w1.alloc (.cells #[.slice (some ad) FN fc] 37) := ⟨_, rfl⟩
  obtain ⟨W4, eW4⟩ : ∃ W4, W4 = W3.alloc (.cells #[.int .i64 0] 31) := ⟨_, rfl⟩
  have hz0 : (w.alloc (.cells #[.pointer (some ⟨p, 0, none⟩)] 65)).heap.size = w.heap.size + 1 := hs1 _ _
  have hz1 := hg1.size
  rw [hz0] at hz1
  have hz3 : W3.heap.size = w1.heap.size + 1 := by rw [eW3, hs1]
  have hz4 : W4.heap.size = w1.heap.size + 2 := by rw [eW4, hs1, hz3]
  have hg13 : w1.grownBy W4 none := by rw [eW4, eW3]; exact (World.grownBy_alloc w1 _ none).trans (World.grownBy_alloc _ _ none)
  have hgw4 : w.grownBy W4 none := (HGQ.out.trans hg1).trans hg13
  have hq4 : W4.rowIs w.heap.size 65 1 (fun _ => .pointer (some ⟨p, 0, none⟩)) := (row1 w (.pointer (some ⟨p, 0, none⟩)) 65).of_block ((hg1.trans hg13).block _ (by rw [hz0]; omega) (by simp))
  have hr4 : W4.rowIs w1.heap.size 37 1 (fun _ => .slice (some ad) FN fc) := by
    rw [eW4, eW3]
    exact (row1 w1 (.slice (some ad) FN fc) 37).alloc _
  have hs4 : W4.rowIs (w1.heap.size + 1) 31 1 (fun _ => .int .i64 0) := by
    have := row1 W3 (.int .i64 0) 31
    rw [hz3] at this
    rw [eW4]
    exact this
  have hL4 := HL.out.grown hgw4
  have hold : ∀ k, w.heap.size ≤ k → ¬ A k ∧ ¬ B k := fun k hk => ⟨fun ha => by have := HL.out.ltA k ha; omega, fun hb => by have := HL.out.ltB k hb; omega⟩
  have had : w.heap.size ≤ ad.block := by have := hout.2.2.2.2 ad rfl; rw [hz0] at this; omega
  have hfne : frameR zs ≠ [] := by have h2 := framing.pos zs; intro e; rw [e] at h2; simp at h2
  have hadl : ad.block < w1.heap.size := rd_lt hout.2.1 hfne
  have hpos := framing.pos zs
  have HC := w_caught47 #[.pointer (some ⟨w.heap.size, 0, none⟩), .pointer (some ⟨w1.heap.size, 0, none⟩)] (fun w2 => ∃ n' A' B', n' ≤ n ∧ LogAt w2 base d mb n' (appX x dir op zs) p dir cp (segsX segs (rollX x dir op).2) (rollX x dir op).2 A' B' ∧ Step2 W4 w2 A B A' B') W3 (by
    rw [← eW4, hz3]
    refine (w_append1AE base d mb n x p w.heap.size w1.heap.size dir cp segs op A B ad zs FN fc W4 hdir (HT.out.grown hgw4) hf hL4 hon HSYX.out hro hok2 HVS.out HAP1.out hok hw hop hn hsg (hq4.cell (i := 0) (by omega)) (hold _ (Nat.le_refl _)) (hr4.cell (i := 0) (by omega)) (hold _ (by omega)) (rd_srd (hout.2.1.grown hg13 (by simp))) hout.1 (by have := hout.1; omega) hout.2.1.2 (by have := hout.1; omega) (Nat.le_trans hb hgw4.size) (hold _ had) (Nat.lt_of_lt_of_le hadl hg13.size)).mono ?_
    rintro e w2 ⟨rfl, n', A', B', h1, h2, h3⟩
    refine ⟨rfl, ⟨n', A', B', h1, h2, h3⟩, ?_⟩
    have hs5 := hs4.of_block (h3.kept.block _ hs4.lt (fun h => h.elim (hold _ (by omega)).1 (hold _ (by omega)).2))
    exact ⟨hs5.cell (i := 0) (by omega), hs5.frozen 0⟩)
  rw [hz3] at HC
  have HC : Hid (Calls Tryz.prog 97 #[.func (.func 98) #[] #[.pointer (some ⟨w.heap.size, 0, none⟩), .pointer (some ⟨w1.heap.size, 0, none⟩)]] W3 fun e w' => e = .returned (.int .i64 0) ∧ ∃ w2, (∃ n' A' B', n' ≤ n ∧ LogAt w2 base d mb n' (appX x dir op zs) p dir cp (segsX segs (rollX x dir op).2) (rollX x dir op).2 A' B' ∧ Step2 W4 w2 A B A' B') ∧ w' = w2.setCell ⟨w1.heap.size + 1, 0, none⟩ (.int .i64 0)) := HC
  have HFIN : Hid (∀ w2, (∃ n' A' B', n' ≤ n ∧ LogAt w2 base d mb n' (appX x dir op zs) p dir cp (segsX segs (rollX x dir op).2) (rollX x dir op).2 A' B' ∧ Step2 W4 w2 A B A' B') → AppOutE w base d mb n x p dir cp segs op A B zs (.returned (.int .i64 0)) (w2.setCell ⟨w1.heap.size + 1, 0, none⟩ (.int .i64 0))) := by
    rintro w2 ⟨n', A', B', h1, h2, h3⟩
    refine ⟨rfl, n', A', B', h1, (h2.cell37 (fun ha => (hold _ (by omega)).1 (h3.oldA _ (by rw [hz4]; omega) ha)) (fun hb => (hold _ (by omega)).2 (h3.oldB _ (by rw [hz4]; omega) hb))).1, ((Step2.grown A B hgw4).trans h3).cell (by omega)⟩
  rw [← eW3]
  clear hz0 hz1 hz3 hz4 hg13 hgw4 hq4 hr4 hs4 hL4 hold had hfne hadl eW3 eW4 hout hg1 hpos HFR
  refine HC.out.mono ?_
  rintro e w3 ⟨rfl, w2, hx, rfl⟩
  have HX : Hid (AppOutE w base d mb n x p dir cp segs op A B zs (.returned (.int .i64 0)) (w2.setCell ⟨w1.heap.size + 1, 0, none⟩ (.int .i64 0))) := HFIN.out w2 hx
  clear hx HC HFIN
  go_wp2
  go_ret
  exact HX.out
end Go.Proofs.YtgpgkpciajajcaaGreatDoor

/- Package wal: mend and Open, where a draft stands beside whole segments. -/
namespace Go.Proofs.YtgpgkpciajajcaaGreatDoor
open Go.RowKit Go.Maps Go.Sort
set_option linter.unusedVariables false
set_option maxRecDepth 20000

/-- A folder of whole segments, and a draft. -/
structure DraftLog (V : Cont) (dir : ByteArray) (Ls : Sg) : Prop where
  folder : Folder V dir [] true (Ls.map Prod.fst)
  whole : Whole V dir Ls
  above : ∀ q ∈ Ls, 0 < q.1
  draft : ∃ q, V (newN dir) = some q
/-- What mend has made of it; what it tells lies above the log and the disk. -/
def TornMendL (base d mb n : Nat) (x' : DSt) (dir : ByteArray) (K : Kp) (LL : Sg) (B : Nat → Prop) (W : World) (p : Nat) (v : Sl) (w' : World) : Prop := ∃ (m n' : Nat) (A B' : Nat → Prop) (lo : Nat), RecsLo lo w' (slV v) m (cpRecs K ++ recsOf LL) ∧ n' ≤ n + 2 ∧ LogAt w' base d mb n' x' p dir (cpName dir K) (LL.map Prod.fst) (openN K LL) A B' ∧ Kept W w' (fun k => k = p ∨ B k) ∧ (∀ k, A k → k = p ∨ W.heap.size ≤ k) ∧ (∀ k, k < W.heap.size → B' k → B k) ∧ W.heap.size ≤ lo ∧ ∀ k, A k ∨ B' k → k < lo
end Go.Proofs.YtgpgkpciajajcaaGreatDoor

/- Open by what mend answers: the log that it hands out. Open where a draft stands. -/
namespace Go.Proofs.YtgpgkpciajajcaaGreatDoor
open Go.RowKit Go.Maps Go.Sort
set_option linter.unusedVariables false
set_option maxRecDepth 20000

/-- The log that Open hands out, whatever mend has done. -/
theorem openG_se {W w W4 w5 : World} {d mb n : Nat} {x' : DSt} {dir : ByteArray} {K : Kp} {LL : Sg} {B : Nat → Prop} {p : Nat} {v : Sl} (hMI : MendIn w W4 p d dir) (hT : TornMendL W.heap.size d mb n x' dir K LL B W4 p v w5) (hlog : Log x'.V dir K LL) (hc : x'.Calm) (hfrom : W.grownBy w none) (hlow : ∀ k, B k → W.heap.size ≤ k) (hltB : ∀ k, B k → k < w.heap.size) (ht : Tab W) :
    ∃ (m lo n' : Nat) (A B' : Nat → Prop), Se W (openW w5 p v) d mb n' x' p dir K LL A B' ∧ RecsLo lo (openW w5 p v) (slV v) m (cpRecs K ++ recsOf LL) ∧ n' ≤ n + 2 ∧ Kept w (openW w5 p v) B ∧ (∀ k, k < w.heap.size → B' k → B k) ∧ w.heap.size ≤ lo ∧ (∀ k, A k ∨ B' k → k < lo) := by
  obtain ⟨m, n', A, B', lo, h1, h2, h3, h4, h5, h6, h7, h8⟩ := hT
  have hk := openW_kept w5 p v
  have hs := hMI.size
  have hnew := hMI.new_
  have hBp : ∀ k, B' k → ¬ (k = p + 2 ∨ k = p + 3) := fun k hb hX => by
    have := hltB k (h6 k (by omega) hb)
    omega
  have hAp : ∀ k, A k → ¬ (k = p + 2 ∨ k = p + 3) := fun k ha hX => by
    rcases h5 k ha with e | e <;> omega
  obtain ⟨ts, r1, r2, r3, r4⟩ := h1
  have g4 := hMI.grown
  have hkw : Kept w (openW w5 p v) B := by
    refine ⟨hk.os.trans (h4.os.trans g4.os), hk.tape.trans (h4.tape.trans g4.tape), hk.output.trans (h4.output.trans g4.output), Nat.le_trans g4.size (Nat.le_trans h4.size hk.size), fun k hkl hX => ?_⟩
    have hkp : k < p := Nat.lt_of_lt_of_le hkl hMI.new_
    rw [hk.block k (by have := h4.size; omega) (by omega), h4.block k (by omega) (fun hY => hY.elim (fun e => by omega) (fun hb => hX hb))]
    exact g4.block k hkl (by simp)
  have hlowB : ∀ k, B' k → W.heap.size ≤ k := fun k hb => by
    rcases Nat.lt_or_ge k W4.heap.size with hl | hl
    · exact hlow k (h6 k hl hb)
    · exact Nat.le_trans (Nat.le_trans hfrom.size g4.size) hl
  refine ⟨m, lo, n', A, B', ⟨⟨h3.disk.others hk hBp, h3.wal.kept hk hAp, h3.apart, fun k hb => Nat.lt_of_lt_of_le (h3.ltB k hb) hk.size, fun k ha => Nat.lt_of_lt_of_le (h3.ltA k ha) hk.size⟩, hlog, hc, ?_, ?_, ht⟩, ⟨ts, sown_keptK r1 hk (fun k hkb hX => by have := (r1.block k hkb).1; omega), r2.keptK hk (fun k hkl _ hX => by omega), r3, r4⟩, h2, hkw, fun k hkl hb => h6 k (Nat.lt_of_lt_of_le hkl g4.size) hb, Nat.le_trans g4.size h7, h8⟩
  · exact ⟨hkw.os.trans hfrom.os, hkw.tape.trans hfrom.tape, hkw.output.trans hfrom.output, Nat.le_trans hfrom.size hkw.size, fun k hkl _ => (hkw.block k (Nat.lt_of_lt_of_le hkl hfrom.size) (fun hb => by have := hlow k hb; omega)).trans (hfrom.block k hkl (by simp))⟩
  · rintro k (ha | hb)
    · rcases h5 k ha with e | e
      · rw [e]; exact Nat.le_trans hfrom.size hnew
      · exact Nat.le_trans (Nat.le_trans hfrom.size g4.size) e
    · exact hlowB k hb
end Go.Proofs.YtgpgkpciajajcaaGreatDoor

