/- ObjWhole: what an armed Put leaves. -/
import Derived.Test.YtlmddmfoodejmaaWsl
namespace Go.Proofs.Ytlmddmfoodejmaa
open Go.RowKit Go.Maps
set_option linter.unusedVariables false
set_option maxRecDepth 20000

/-- What an armed Put may come to. -/
def PutCase (O : Objs) (k : ByteArray) (q : Nat × List Int) (wn : Int) (r : Int × DSt) : Prop := r.2.ok ∧ r.2.wn ≤ wn + 3 ∧ ((r.1 = 0 ∧ r.2.off = false ∧ r.2.V = objV (setO O k (some q))) ∨ (r.1 = 60 ∧ r.2.off = true ∧ ∃ f, r.2.V = draftV O k (some f)))
theorem arm_put {O : Objs} {x : DSt} (hon : x.off = false) (hok : x.ok) (hset : x.set = true) (hV : x.V = objV O) (hw : x.wn ≤ 999999900) (k : ByteArray) (q : Nat × List Int) : PutCase O k q x.wn (x.putW k (objB q.1 q.2)) := by
  obtain ⟨k1, k2⟩ := ok_putW x hok (by omega) k (objB q.1 q.2)
  refine ⟨k1, k2, ?_⟩
  obtain ⟨off, set, ah, kp, wn, V⟩ := x
  dsimp only at hon hset hV hw
  subst hon hset hV
  have hT : objV O (tN k) = none := objV_t O k
  have e0 : oldV (objV O) (tN k) = ([], 0) := by unfold oldV; rw [hT]; rfl
  have eA : (⟨false, true, ah, kp, wn, objV O⟩ : DSt).append (tN k) (objB q.1 q.2) = if ah = 0 then (60, ⟨true, false, 0, 0, wn + 1, fun t => (draftV O k (some (objB q.1 q.2, 0)) t).map (cutV kp)⟩) else (0, ⟨false, true, ah - 1, kp, wn + 1, draftV O k (some (objB q.1 q.2, 0))⟩) := by
    unfold DSt.append
    rw [if_neg (by simp)]
    dsimp only
    rw [e0, List.nil_append]
    unfold DSt.wr
    rw [if_neg (by simp)]
    dsimp only
    rw [if_pos rfl]
    rfl
  unfold DSt.putW
  by_cases h0 : ah = 0
  · rw [if_pos h0] at eA
    rw [eA, if_pos (by simp)]
    exact .inr ⟨rfl, rfl, _, draft_cut O k _ kp⟩
  · rw [if_neg h0] at eA
    rw [eA, if_neg (by simp)]
    dsimp only
    have eS : (⟨false, true, ah - 1, kp, wn + 1, draftV O k (some (objB q.1 q.2, 0))⟩ : DSt).sync (tN k) = if ah - 1 = 0 then (60, ⟨true, false, 0, 0, wn + 1 + 1, fun t => (draftV O k (some (objB q.1 q.2, 0)) t).map (cutV kp)⟩) else (0, ⟨false, true, ah - 1 - 1, kp, wn + 1 + 1, draftV O k (some (fileV q))⟩) := by
      unfold DSt.sync
      rw [if_neg (by simp)]
      dsimp only
      rw [draft_t]
      dsimp only
      unfold DSt.wr
      rw [if_neg (by simp)]
      dsimp only
      rw [draft_set]
      rfl
    by_cases h1 : ah - 1 = 0
    · rw [if_pos h1] at eS
      rw [eS, if_pos (by simp)]
      exact .inr ⟨rfl, rfl, _, draft_cut O k _ kp⟩
    · rw [if_neg h1] at eS
      rw [eS, if_neg (by simp)]
      dsimp only
      have eR : (⟨false, true, ah - 1 - 1, kp, wn + 1 + 1, draftV O k (some (fileV q))⟩ : DSt).rename (tN k) (oN k) = if ah - 1 - 1 = 0 then (60, ⟨true, false, 0, 0, wn + 1 + 1 + 1, fun t => (draftV O k (some (fileV q)) t).map (cutV kp)⟩) else (0, ⟨false, true, ah - 1 - 1 - 1, kp, wn + 1 + 1 + 1, objV (setO O k (some q))⟩) := by
        unfold DSt.rename
        rw [if_neg (by simp)]
        dsimp only
        rw [draft_t]
        dsimp only
        unfold DSt.wr
        rw [if_neg (by simp)]
        dsimp only
        rw [draft_place]
        rfl
      rw [eR]
      by_cases h2 : ah - 1 - 1 = 0
      · rw [if_pos h2]
        exact .inr ⟨rfl, rfl, _, draft_cut O k _ kp⟩
      · rw [if_neg h2]
        exact .inl ⟨rfl, rfl, rfl⟩
theorem objV_cut (O : Objs) (keep : Int) : (fun s => (objV O s).map (cutV keep)) = objV O := by
  have := draft_cut O nmA none keep
  rw [draft_none] at this
  rw [this]
  exact draft_none O nmA
theorem off_draft (O : Objs) (k : ByteArray) (f : List Int × Nat) : offV (draftV O k (some f)) [k] = objV O := by
  funext s
  unfold offV
  by_cases e : s = tN k
  · subst e
    rw [if_pos (by simp), objV_t]
  · rw [if_neg (by simpa using e)]
    exact setV_other _ _ e
theorem not_t (k : ByteArray) : Lib.hasPrefix (oN k).data.toList [116, 47] = false := by
  unfold Lib.hasPrefix oN
  rw [bN_list]
  simp [List.isPrefixOf]
theorem is_t (k : ByteArray) : Lib.hasPrefix (tN k).data.toList [116, 47] = true := by
  unfold Lib.hasPrefix tN
  rw [bN_list]
  simp [List.isPrefixOf]
theorem no_t {O : Objs} {s : ByteArray} (h1 : (objV O s).isSome = true) : Lib.hasPrefix s.data.toList [116, 47] = false := by
  by_cases h2 : s.data.toList.take 2 = [111, 47]
  · rw [o_of h2]
    exact not_t _
  · unfold objV at h1
    rw [if_neg h2] at h1
    cases h1
theorem drafts_none (O : Objs) : Drafts (objV O) [] := ⟨⟨List.nodup_nil, List.Pairwise.nil, fun s => by
    constructor
    · intro h; cases h
    · rintro ⟨h1, h2⟩
      have h2' : Lib.hasPrefix s.data.toList [116, 47] = true := h2
      rw [no_t h1] at h2'
      cases h2'⟩, fun k hk => by cases hk⟩
theorem drafts_one (O : Objs) {k : ByteArray} (hk : keyB k = true) (f : List Int × Nat) : Drafts (draftV O k (some f)) [k] := ⟨⟨by simp, by simp, fun s => by
    rw [List.map_cons, List.map_nil, List.mem_singleton]
    constructor
    · rintro rfl
      rw [draft_t]
      exact ⟨rfl, is_t k⟩
    · rintro ⟨h1, h2⟩
      by_cases e : s = tN k
      · exact e
      · have h1' : (objV O s).isSome = true := by
          have : draftV O k (some f) s = objV O s := setV_other _ _ e
          rw [← this]
          exact h1
        have h2' : Lib.hasPrefix s.data.toList [116, 47] = true := h2
        rw [no_t h1'] at h2'
        cases h2'⟩, fun j hj => by rw [List.mem_singleton] at hj; rw [hj]; exact hk⟩
/-- The power went and came: what a Put left, and the disk ready to be opened. -/
theorem power_case {O : Objs} {k : ByteArray} {q : Nat × List Int} {wn : Int} {r : Int × DSt} (h : PutCase O k q wn r) (hk : keyB k = true) (keep : Int) :
    ({ r.2.power keep with off := false } : DSt).Calm ∧ ({ r.2.power keep with off := false } : DSt).wn ≤ wn + 3 ∧ ∃ O' ks, ((r.1 = 0 ∧ O' = setO O k (some q)) ∨ (r.1 = 60 ∧ O' = O)) ∧ ks.length ≤ 1 ∧ Drafts ({ r.2.power keep with off := false } : DSt).V ks ∧ offV ({ r.2.power keep with off := false } : DSt).V ks = objV O' := by
  obtain ⟨⟨o1, o2, o3⟩, hw, hc⟩ := h
  obtain ⟨c, y⟩ := r
  obtain ⟨off, set, ah, kp, w0, V⟩ := y
  dsimp only at o1 hw hc ⊢
  rcases hc with ⟨rfl, hoff, hV⟩ | ⟨rfl, hoff, f, hV⟩
  · subst hoff hV
    have e : (⟨false, set, ah, kp, w0, objV (setO O k (some q))⟩ : DSt).power keep = ⟨true, false, 0, 0, w0, objV (setO O k (some q))⟩ := by
      unfold DSt.power
      rw [if_neg (by simp)]
      dsimp only
      rw [objV_cut]
    rw [e]
    refine ⟨⟨rfl, rfl, ⟨o1, by simp, by simp⟩⟩, hw, _, [], .inl ⟨rfl, rfl⟩, by simp, drafts_none _, offV_nil _⟩
  · subst hoff hV
    have e : (⟨true, set, ah, kp, w0, draftV O k (some f)⟩ : DSt).power keep = ⟨true, false, 0, 0, w0, draftV O k (some f)⟩ := by
      unfold DSt.power
      rw [if_pos rfl]
    rw [e]
    exact ⟨⟨rfl, rfl, ⟨o1, by simp, by simp⟩⟩, hw, _, [k], .inr ⟨rfl, rfl⟩, by simp, drafts_one O hk f, off_draft O k f⟩
/-- An armed disk under a store. -/
structure ArAt (W w : World) (d mb n : Nat) (x : DSt) (p : Nat) (O : Objs) (B : Nat → Prop) : Prop where
  disk : DS w W.heap.size d mb n x B
  row : StRow w p d
  pB : ¬ B p
  ltB : ∀ k, B k → k < w.heap.size
  low : ∀ k, B k → W.heap.size ≤ k
  from_ : W.grownBy w none
  V : x.V = objV O
  okO : ∀ k, (O k).isSome = true → keyB k = true ∧ OkO (O k)
  on : x.off = false
  set : x.set = true
  ok : x.ok
theorem ArAt.grown {W w w' : World} {d mb n : Nat} {x : DSt} {p : Nat} {O : Objs} {B : Nat → Prop} (h : ArAt W w d mb n x p O B) (hg : w.grownBy w' none) : ArAt W w' d mb n x p O B :=
  ⟨DV.kept h.disk hg, h.row.grown hg, h.pB, fun k hk => Nat.lt_of_lt_of_le (h.ltB k hk) hg.size, h.low, h.from_.trans hg, h.V, h.okO, h.on, h.set, h.ok⟩
theorem a_arm {W w : World} {d mb n : Nat} {x : DSt} {p : Nat} {O : Objs} {B : Nat → Prop} (h : StAt W w d mb n x p O B) (m keep : Int) (hm : 0 ≤ m ∧ m ≤ 9223372036854775807) (hk : -9223372036854775808 ≤ keep ∧ keep ≤ 9223372036854775807) :
    Calls Try.prog 12 #[.pointer (some ⟨d, 0, none⟩), .int .i64 m, .int .i64 keep] w fun e w' => e = .returned (.tuple #[]) ∧ ∃ x', ArAt W w' d mb n x' p O B ∧ x'.wn = x.wn := by
  refine (x_arm W.heap.size d mb n x B m keep w h.disk).mono ?_
  rintro e w' ⟨rfl, h1, h2⟩
  have ex : x.arm m keep = { x with set := true, ah := m, kp := keep } := by unfold DSt.arm; rw [if_neg (by omega)]
  rw [ex] at h1
  refine ⟨rfl, _, ⟨h1, h.row.of_block (h2.1.block p h.row.lt h.pB), h.pB, fun k hk => Nat.lt_of_lt_of_le (h.ltB k hk) h2.1.size, h.low, h2.from_ h.from_ h.low, h.V, h.okO, h.calm.on, rfl, ⟨h.calm.ok.1, fun _ => hm, hk⟩⟩, rfl⟩
theorem okAll {O : Objs} (h : ∀ k, (O k).isSome = true → keyB k = true ∧ OkO (O k)) (k : ByteArray) : OkO (O k) := by
  cases ho : O k with
  | none => trivial
  | some q => have := (h k (by rw [ho]; rfl)).2; rw [ho] at this; exact this
/-- A disk behind a Put that may have failed. -/
def LeftAt (W w : World) (d mb : Nat) (O : Objs) (k : ByteArray) (q : Nat × List Int) (wn : Int) (n : Nat) (r : Int × DSt) (B : Nat → Prop) : Prop := DS w W.heap.size d mb n r.2 B ∧ PutCase O k q wn r ∧ W.grownBy w none ∧ (∀ k, B k → W.heap.size ≤ k) ∧ ∀ k, B k → k < w.heap.size
theorem a_put {W w : World} {d mb n : Nat} {x : DSt} {p : Nat} {O : Objs} {B : Nat → Prop} (h : ArAt W w d mb n x p O B) (k : ByteArray) (a : Option Addr) (M cd : Nat) (dd : List Int) (hk : keyB k = true) (hw : x.wn ≤ 999999900) (hn : n ≤ 1000000) (hg : genO (O k) < 18446744073709551600) (hr : Rd w a dd) (hM : dd.length = M) (hnil : a = none → cd = 0) (hlen : M ≤ 1048576) :
    Calls Try.prog 10 #[.pointer (some ⟨p, 0, none⟩), .string k, .slice a M cd] w fun e w' => ∃ n' r B', (r.1 = 0 ∨ r.1 = 60) ∧ e = .returned (.tuple #[.int .u64 (if r.1 = 0 then (genO (O k) : Int) + 1 else 0), .int .i64 r.1]) ∧ n' ≤ n + 4 ∧ LeftAt W w' d mb O k (genO (O k) + 1, dd) x.wn n' r B' := by
  refine (o_put W.heap.size d mb n x B k p (O k) a M cd dd w h.disk h.row h.pB h.ok (by omega) h.ltB hk h.on (by rw [h.V, objV_t]) hn h.from_.size hg (by rw [h.V, objV_o]) (okAll h.okO k) hr hM hnil hlen).mono ?_
  rintro e w' ⟨rfl, n', B', h1, h2, h3, h4⟩
  have hc := arm_put h.on h.ok h.set h.V hw k (genO (O k) + 1, dd)
  refine ⟨n', _, B', ?_, rfl, h1, h2, hc, h3.from_ h.from_ h.low, h3.low h.from_ h.low, h4⟩
  rcases hc.2.2 with h | h
  · exact .inl h.1
  · exact .inr h.1
theorem a_off {W w : World} {d mb : Nat} {O : Objs} {k : ByteArray} {q : Nat × List Int} {wn : Int} {n : Nat} {r : Int × DSt} {B : Nat → Prop} (h : LeftAt W w d mb O k q wn n r B) (keep : Int) (hk : -9223372036854775808 ≤ keep ∧ keep ≤ 9223372036854775807) :
    Calls Try.prog 14 #[.pointer (some ⟨d, 0, none⟩), .int .i64 keep] w fun e w' => e = .returned (.tuple #[]) ∧ DS w' W.heap.size d mb n (r.2.power keep) B ∧ PutCase O k q wn r ∧ W.grownBy w' none ∧ (∀ k, B k → W.heap.size ≤ k) ∧ ∀ k, B k → k < w'.heap.size := by
  obtain ⟨h1, h2, h3, h4, h5⟩ := h
  refine (x_off W.heap.size d mb n r.2 B keep w h1 hk).mono ?_
  rintro e w' ⟨rfl, k1, k2⟩
  exact ⟨rfl, k1, h2, k2.from_ h3 h4, h4, fun k hk => Nat.lt_of_lt_of_le (h5 k hk) k2.1.size⟩
theorem a_on {W w : World} {d mb : Nat} {O : Objs} {k : ByteArray} {q : Nat × List Int} {wn keep : Int} {n : Nat} {r : Int × DSt} {B : Nat → Prop} (h : DS w W.heap.size d mb n (r.2.power keep) B ∧ PutCase O k q wn r ∧ W.grownBy w none ∧ (∀ k, B k → W.heap.size ≤ k) ∧ ∀ k, B k → k < w.heap.size) :
    Calls Try.prog 15 #[.pointer (some ⟨d, 0, none⟩)] w fun e w' => e = .returned (.tuple #[]) ∧ DS w' W.heap.size d mb n { r.2.power keep with off := false } B ∧ PutCase O k q wn r ∧ W.grownBy w' none ∧ (∀ k, B k → W.heap.size ≤ k) ∧ ∀ k, B k → k < w'.heap.size := by
  obtain ⟨h1, h2, h3, h4, h5⟩ := h
  refine (x_on W.heap.size d mb n (r.2.power keep) B w h1).mono ?_
  rintro e w' ⟨rfl, k1, k2⟩
  exact ⟨rfl, k1, h2, k2.from_ h3 h4, h4, fun k hk => Nat.lt_of_lt_of_le (h5 k hk) k2.1.size⟩
theorem a_open {W w : World} {d mb : Nat} {O : Objs} {k : ByteArray} {q : Nat × List Int} {wn keep : Int} {n : Nat} {r : Int × DSt} {B : Nat → Prop} (h : DS w W.heap.size d mb n { r.2.power keep with off := false } B ∧ PutCase O k q wn r ∧ W.grownBy w none ∧ (∀ k, B k → W.heap.size ≤ k) ∧ ∀ k, B k → k < w.heap.size) (hk : keyB k = true) (hw : wn ≤ 999999900) (hn : n ≤ 1000000) (hO : ∀ k, (O k).isSome = true → keyB k = true ∧ OkO (O k)) (hq : OkO (some q)) :
    Calls Try.prog 8 #[.pointer (some ⟨d, 0, none⟩)] w fun e w' => ∃ p n' x' B' O', e = .returned (.tuple #[.pointer (some ⟨p, 0, none⟩), .int .i64 0]) ∧ StAt W w' d mb n' x' p O' B' ∧ n' ≤ n + 1 ∧ ((r.1 = 0 ∧ O' = setO O k (some q)) ∨ (r.1 = 60 ∧ O' = O)) := by
  obtain ⟨h1, h2, h3, h4, h5⟩ := h
  obtain ⟨k1, k2, O', ks, k3, k4, k5, k6⟩ := power_case h2 hk keep
  have hO' : ∀ j, (O' j).isSome = true → keyB j = true ∧ OkO (O' j) := by
    rcases k3 with ⟨_, rfl⟩ | ⟨_, rfl⟩
    · exact setO_ok hO hk hq
    · exact hO
  refine (st_open O' ks h1 h5 h4 h3 k1 (by omega) (by omega) k5 (by omega) k6 hO').mono ?_
  rintro e w' ⟨p, n', x', B', rfl, j1, j2, j3, j4⟩
  exact ⟨p, n', x', B', O', rfl, j1, by omega, k3⟩
end Go.Proofs.Ytlmddmfoodejmaa
