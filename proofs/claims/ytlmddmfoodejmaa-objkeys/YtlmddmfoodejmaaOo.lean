/- A store, call by call, as a caller's walk uses it. -/
import Derived.Test.YtlmddmfoodejmaaOn
namespace Go.Proofs.Ytlmddmfoodejmaa
open Go.RowKit Go.Maps
set_option linter.unusedVariables false
set_option maxRecDepth 20000

/-- A store over a disk that is on and not armed; nothing of the world W has changed. -/
structure StAt (W w : World) (d mb n : Nat) (x : DSt) (p : Nat) (O : Objs) (B : Nat → Prop) : Prop where
  disk : DS w W.heap.size d mb n x B
  row : StRow w p d
  pB : ¬ B p
  ltB : ∀ k, B k → k < w.heap.size
  low : ∀ k, B k → W.heap.size ≤ k
  from_ : W.grownBy w none
  V : x.V = objV O
  okO : ∀ k, (O k).isSome = true → keyB k = true ∧ OkO (O k)
  calm : x.Calm
theorem Step.from_ {W w w' : World} {B B' : Nat → Prop} (h : Step w w' B B') (hW : W.grownBy w none) (hl : ∀ k, B k → W.heap.size ≤ k) : W.grownBy w' none :=
  ⟨h.1.os.trans hW.os, h.1.tape.trans hW.tape, h.1.output.trans hW.output, Nat.le_trans hW.size h.1.size, fun k hk _ => (h.1.block k (Nat.lt_of_lt_of_le hk hW.size) (fun hx => by have := hl k hx; omega)).trans (hW.block k hk (by simp))⟩
theorem Step.low {W w w' : World} {B B' : Nat → Prop} (h : Step w w' B B') (hW : W.grownBy w none) (hl : ∀ k, B k → W.heap.size ≤ k) : ∀ k, B' k → W.heap.size ≤ k := fun k hk => by
  rcases Nat.lt_or_ge k w.heap.size with h1 | h1
  · exact hl k (h.2 k h1 hk)
  · exact Nat.le_trans hW.size h1
section
variable {W w w' : World} {d mb n : Nat} {x : DSt} {p : Nat} {O : Objs} {B : Nat → Prop}
theorem StAt.grown (h : StAt W w d mb n x p O B) (hg : w.grownBy w' none) : StAt W w' d mb n x p O B :=
  ⟨DV.kept h.disk hg, h.row.grown hg, h.pB, fun k hk => Nat.lt_of_lt_of_le (h.ltB k hk) hg.size, h.low, h.from_.trans hg, h.V, h.okO, h.calm⟩
theorem StAt.Vk (h : StAt W w d mb n x p O B) (k : ByteArray) : x.V (oN k) = (O k).map fileV := by rw [h.V, objV_o]
theorem StAt.ok (h : StAt W w d mb n x p O B) (k : ByteArray) : OkO (O k) := by
  cases ho : O k with
  | none => trivial
  | some q => have := (h.okO k (by rw [ho]; rfl)).2; rw [ho] at this; exact this
theorem StAt.write {n' : Nat} {x' : DSt} {O' : Objs} {B' : Nat → Prop} (h : StAt W w d mb n x p O B) (hd : DS w' W.heap.size d mb n' x' B') (hs : Step w w' B B') (hb : ∀ k, B' k → k < w'.heap.size) (hV : x'.V = objV O') (hok : ∀ k, (O' k).isSome = true → keyB k = true ∧ OkO (O' k)) (hc : x'.Calm) : StAt W w' d mb n' x' p O' B' :=
  ⟨hd, h.row.of_block (hs.1.block p h.row.lt h.pB), fun hp => h.pB (hs.2 p h.row.lt hp), hb, hs.low h.from_ h.low, hs.from_ h.from_ h.low, hV, hok, hc⟩
theorem seen_on (h : StAt W w d mb n x p O B) (o : Option (Nat × List Int)) : seenO x o = o := by unfold seenO; rw [h.calm.on]; rfl
theorem calm_put (hc : x.Calm) (hV : x.V = objV O) (hw : x.wn ≤ 999999900) (k : ByteArray) (q : Nat × List Int) : (x.putW k (objB q.1 q.2)).1 = 0 ∧ (x.putW k (objB q.1 q.2)).2.Calm ∧ (x.putW k (objB q.1 q.2)).2.wn = x.wn + 3 ∧ (x.putW k (objB q.1 q.2)).2.V = objV (setO O k (some q)) := by
  have hT : x.V (tN k) = none := by rw [hV, objV_t]
  have e0 : oldV x.V (tN k) = ([], 0) := by unfold oldV; rw [hT]; rfl
  have k1 := calm_app x hc (tN k) (objB q.1 q.2)
  rw [e0, List.nil_append] at k1
  have h1 := calm_next x hc (by omega) (setV x.V (tN k) (some (objB q.1 q.2, 0)))
  have k2 := calm_sync _ h1 (tN k) (objB q.1 q.2, 0) (setV_same _ _ _)
  have h2 := calm_next _ h1 (by dsimp only; omega) (setV (setV x.V (tN k) (some (objB q.1 q.2, 0))) (tN k) (some (objB q.1 q.2, (objB q.1 q.2).length)))
  have k3 := calm_ren _ h2 (tN k) (oN k) (objB q.1 q.2, (objB q.1 q.2).length) (setV_same _ _ _)
  have h3 := calm_next _ h2 (by dsimp only; omega) (setV (setV (setV (setV x.V (tN k) (some (objB q.1 q.2, 0))) (tN k) (some (objB q.1 q.2, (objB q.1 q.2).length))) (tN k) none) (oN k) (some (objB q.1 q.2, (objB q.1 q.2).length)))
  have e : x.putW k (objB q.1 q.2) = (0, { x with wn := x.wn + 1 + 1 + 1, V := setV (setV (setV (setV x.V (tN k) (some (objB q.1 q.2, 0))) (tN k) (some (objB q.1 q.2, (objB q.1 q.2).length))) (tN k) none) (oN k) (some (objB q.1 q.2, (objB q.1 q.2).length)) }) := by
    unfold DSt.putW
    rw [k1]
    rw [if_neg (by simp)]
    dsimp only
    rw [k2]
    rw [if_neg (by simp)]
    dsimp only
    exact k3
  rw [e]
  refine ⟨rfl, h3, by dsimp only; omega, ?_⟩
  show setV (setV (setV (setV x.V _ _) _ _) _ _) _ _ = _
  rw [setV_setV, hV]
  exact draft_place O k _ q
theorem setO_ok (hO : ∀ k, (O k).isSome = true → keyB k = true ∧ OkO (O k)) {k : ByteArray} (hk : keyB k = true) {q : Nat × List Int} (hq : OkO (some q)) : ∀ j, (setO O k (some q) j).isSome = true → keyB j = true ∧ OkO (setO O k (some q) j) := fun j hj => by
  by_cases e : j = k
  · subst e
    rw [setO_same]
    exact ⟨hk, hq⟩
  · rw [setO_other _ _ e] at hj ⊢
    exact hO j hj
/-- What Put leaves. -/
def PutAt (W w : World) (d mb n : Nat) (x : DSt) (p : Nat) (O : Objs) (B : Nat → Prop) (k : ByteArray) (dd : List Int) (e : Ending) (w' : World) : Prop :=
  e = .returned (.tuple #[.int .u64 ((genO (O k) : Int) + 1), .int .i64 0]) ∧ ∃ n' x' B', StAt W w' d mb n' x' p (setO O k (some (genO (O k) + 1, dd))) B' ∧ n' ≤ n + 4 ∧ x'.wn = x.wn + 3 ∧ Step w w' B B'
theorem put_at (h : StAt W w d mb n x p O B) {k : ByteArray} (hk : keyB k = true) (hw : x.wn ≤ 999999900) (hg : genO (O k) < 18446744073709551600) {dd : List Int} (hlen : dd.length ≤ 1048576) {e : Ending} (hr : RepOut w W.heap.size d mb n (genO (O k)) (x.putW k (objB (genO (O k) + 1) dd)) B e w') : PutAt W w d mb n x p O B k dd e w' := by
  obtain ⟨c1, c2, c3, c4⟩ := calm_put (q := (genO (O k) + 1, dd)) h.calm h.V hw k
  dsimp only at c1 c2 c3 c4
  obtain ⟨h1, n', B', h2, h3, h4, h5⟩ := hr
  rw [c1, if_pos rfl] at h1
  exact ⟨h1, n', _, B', h.write h3 h4 h5 c4 (setO_ok h.okO hk ⟨by simp, by show genO (O k) + 1 < _; omega, hlen⟩) c2, h2, c3, h4⟩
theorem st_put (h : StAt W w d mb n x p O B) (k : ByteArray) (a : Option Addr) (M cd : Nat) (dd : List Int) (hk : keyB k = true) (hw : x.wn ≤ 999999900) (hn : n ≤ 1000000) (hg : genO (O k) < 18446744073709551600) (hr : Rd w a dd) (hM : dd.length = M) (hnil : a = none → cd = 0) (hlen : M ≤ 1048576) :
    Calls Try.prog 10 #[.pointer (some ⟨p, 0, none⟩), .string k, .slice a M cd] w (PutAt W w d mb n x p O B k dd) :=
  (o_put W.heap.size d mb n x B k p (O k) a M cd dd w h.disk h.row h.pB h.calm.ok (by omega) h.ltB hk h.calm.on (by rw [h.V, objV_t]) hn h.from_.size hg (h.Vk k) (h.ok k) hr hM hnil hlen).mono (fun e w' hq => put_at h hk hw hg (by omega) hq)
theorem st_putIf (h : StAt W w d mb n x p O B) (k : ByteArray) (a : Option Addr) (M cd : Nat) (dd : List Int) (u : Int) (hu : (genO (O k) : Int) = u) (hk : keyB k = true) (hw : x.wn ≤ 999999900) (hn : n ≤ 1000000) (hg : genO (O k) < 18446744073709551600) (hr : Rd w a dd) (hM : dd.length = M) (hnil : a = none → cd = 0) (hlen : M ≤ 1048576) :
    Calls Try.prog 20 #[.pointer (some ⟨p, 0, none⟩), .string k, .slice a M cd, .int .u64 u] w (PutAt W w d mb n x p O B k dd) :=
  (o_putIf W.heap.size d mb n x B k p (O k) a M cd dd w h.disk h.row h.pB h.calm.ok (by omega) h.ltB hk h.calm.on (by rw [h.V, objV_t]) hn h.from_.size hg (h.Vk k) (h.ok k) hr hM hnil hlen u hu).mono (fun e w' hq => put_at h hk hw hg (by omega) hq)
theorem st_putIfNot (h : StAt W w d mb n x p O B) (k : ByteArray) (a : Option Addr) (M cd : Nat) (u : Int) (hu : (genO (O k) : Int) ≠ u) (hk : keyB k = true) (hlen : M ≤ 1048576) :
    Calls Try.prog 20 #[.pointer (some ⟨p, 0, none⟩), .string k, .slice a M cd, .int .u64 u] w fun e w' => e = .returned (.tuple #[.int .u64 (genO (O k) : Int), .int .i64 112]) ∧ w.grownBy w' none :=
  o_putIfNot W.heap.size d mb n x B k p (O k) a M cd w h.disk h.row hk h.calm.on (h.Vk k) (h.ok k) hlen u hu
theorem st_find (h : StAt W w d mb n x p O B) (k : ByteArray) : findE x (O k) = if genO (O k) = 0 then 111 else 0 := by
  unfold findE
  rw [h.calm.on, if_neg (by simp)]
theorem st_get (h : StAt W w d mb n x p O B) (k : ByteArray) (hk : keyB k = true) :
    Calls Try.prog 16 #[.pointer (some ⟨p, 0, none⟩), .string k] w fun e w' => ∃ v N c, e = .returned (.tuple #[.slice v N c, .int .u64 (genO (O k) : Int), .int .i64 (findE x (O k))]) ∧ Out w w' v N c (dataO (O k)) ∧ w.grownBy w' none := by
  have := o_get W.heap.size d mb n x B k p (O k) w h.disk h.row hk (h.Vk k) (h.ok k)
  rw [seen_on h] at this
  exact this
theorem st_slice (h : StAt W w d mb n x p O B) (k : ByteArray) (hk : keyB k = true) (g : Nat) (D : List Int) (hO : O k = some (g, D)) (f m : Nat) (T : Int) (hfm : f + m ≤ D.length) (hT : T = ((f + m : Nat) : Int)) :
    Calls Try.prog 24 #[.pointer (some ⟨p, 0, none⟩), .string k, .int .i64 (f : Int), .int .i64 T] w fun e w' => ∃ a c, e = .returned (.tuple #[.slice a m c, .int .i64 0]) ∧ SOwn byteE 5 w' w.heap.size (.slice a m c) m ((D.drop f).take m) ∧ (∀ z ∈ (D.drop f).take m, 0 ≤ z ∧ z ≤ 255) ∧ w.grownBy w' none :=
  o_slice W.heap.size d mb n x B k p g D f m T w h.disk h.row hk h.calm.on (by rw [h.Vk k, hO]) (by rw [← hO]; exact h.ok k) hfm hT
theorem st_sliceNot (h : StAt W w d mb n x p O B) (k : ByteArray) (hk : keyB k = true) (g : Nat) (D : List Int) (hO : O k = some (g, D)) (f t : Int) (hf : 0 ≤ f) (hft : f ≤ t) (ht : (D.length : Int) < t) :
    Calls Try.prog 24 #[.pointer (some ⟨p, 0, none⟩), .string k, .int .i64 f, .int .i64 t] w fun e w' => e = .returned (.tuple #[.slice none 0 0, .int .i64 113]) ∧ w.grownBy w' none :=
  o_sliceNot W.heap.size d mb n x B k p g D f t w h.disk h.row hk h.calm.on (by rw [h.Vk k, hO]) (by rw [← hO]; exact h.ok k) hf hft ht
theorem st_delete (h : StAt W w d mb n x p O B) (k : ByteArray) (hk : keyB k = true) (hw : x.wn ≤ 999999900) (h0 : genO (O k) ≠ 0) :
    Calls Try.prog 28 #[.pointer (some ⟨p, 0, none⟩), .string k] w fun e w' => e = .returned (.int .i64 0) ∧ ∃ n' x' B', StAt W w' d mb n' x' p (setO O k none) B' ∧ n' ≤ n + 1 ∧ x'.wn = x.wn + 1 ∧ Step w w' B B' := by
  refine (o_delete W.heap.size d mb n x B k p (O k) w h.disk h.row h.calm.ok hk (h.Vk k) (h.ok k) (by rw [st_find h, if_neg h0])).mono ?_
  rintro e w' ⟨rfl, n', B', h1, h2, h3⟩
  have hV : ∃ q, x.V (oN k) = some q := by
    rw [h.Vk k]
    cases ho : O k with
    | none => rw [ho] at h0; exact absurd rfl h0
    | some q => exact ⟨_, rfl⟩
  obtain ⟨q, hq⟩ := hV
  rw [calm_del x h.calm (oN k) q hq] at h2 ⊢
  refine ⟨rfl, n', _, _, h.write (DS.bound h2) ⟨h3.1, fun k hk hb => h3.2 k hk hb.1⟩ (fun k hk => hk.2) (by show setV x.V _ _ = _; rw [h.V, objV_del]) (fun j hj => ?_) (calm_next x h.calm (by omega) _), h1, rfl, ⟨h3.1, fun k hk hb => h3.2 k hk hb.1⟩⟩
  by_cases e : j = k
  · subst e; rw [setO_same] at hj; cases hj
  · rw [setO_other _ _ e] at hj ⊢
    exact h.okO j hj
theorem st_deleteNone (h : StAt W w d mb n x p O B) (k : ByteArray) (hk : keyB k = true) (h0 : genO (O k) = 0) :
    Calls Try.prog 28 #[.pointer (some ⟨p, 0, none⟩), .string k] w fun e w' => e = .returned (.int .i64 111) ∧ w.grownBy w' none := by
  have e : findE x (O k) = 111 := by rw [st_find h, if_pos h0]
  have := o_deleteNot W.heap.size d mb n x B k p (O k) w h.disk h.row hk (h.Vk k) (h.ok k) (by rw [e]; decide)
  rw [e] at this
  exact this
theorem st_list (h : StAt W w d mb n x p O B) (pre : ByteArray) (hn : n ≤ 4194304) (hp : pre.size ≤ 4611686018427387904) :
    Calls Try.prog 23 #[.pointer (some ⟨p, 0, none⟩), .string pre] w fun e w' => ∃ a c ks, e = .returned (.slice a ks.length c) ∧ SOwn strE 9 w' w.heap.size (.slice a ks.length c) ks.length ks ∧ KeysOf O pre ks ∧ w.grownBy w' none :=
  o_list W.heap.size d mb n x B p O pre w h.disk h.row h.calm.on hn h.V h.okO hp
end
/-- Open of a disk. -/
theorem st_open {W w : World} {d mb n : Nat} {x : DSt} {B : Nat → Prop} (O : Objs) (ks : List ByteArray) (hd : DS w W.heap.size d mb n x B) (ltB : ∀ k, B k → k < w.heap.size) (low : ∀ k, B k → W.heap.size ≤ k) (hW : W.grownBy w none) (hc : x.Calm) (hw : x.wn + ks.length ≤ 999999980) (hn : n ≤ 4194304) (hD : Drafts x.V ks) (hkl : ks.length ≤ 4194304) (hV : offV x.V ks = objV O) (hok : ∀ k, (O k).isSome = true → keyB k = true ∧ OkO (O k)) :
    Calls Try.prog 8 #[.pointer (some ⟨d, 0, none⟩)] w fun e w' => ∃ p n' x' B', e = .returned (.tuple #[.pointer (some ⟨p, 0, none⟩), .int .i64 0]) ∧ StAt W w' d mb n' x' p O B' ∧ n' ≤ n + ks.length ∧ x'.wn ≤ x.wn + ks.length ∧ Step w w' B B' := by
  refine (o_open W.heap.size d mb n x B ks w hd hc hw ltB hn hD hkl).mono ?_
  rintro e w' ⟨p, x', n', B', rfl, h1, h2, h3, h4, h5, h6, h7, h8, h9, h10⟩
  exact ⟨p, n', x', B', rfl, ⟨h2, h3, h4, h6, h7.low hW low, h7.from_ hW low, by rw [h10, hV], hok, h8⟩, h1, h9, h7⟩
def O0 : Objs := fun _ => none
theorem objV_0 : objV O0 = fun _ => none := by funext s; unfold objV O0; split <;> rfl
theorem drafts_0 : Drafts (fun _ => none) [] := ⟨⟨List.nodup_nil, List.Pairwise.nil, fun s => by simp⟩, fun k hk => by cases hk⟩
theorem calm_0 : (⟨false, false, 0, 0, 0, fun _ => none⟩ : DSt).Calm := ⟨rfl, rfl, ⟨by simp, by simp, by simp⟩⟩
/-- A new disk. -/
theorem st_new (W : World) : Calls Try.prog 7 #[] W fun e w' => ∃ d mb B, e = .returned (.pointer (some ⟨d, 0, none⟩)) ∧ DS w' W.heap.size d mb 0 ⟨false, false, 0, 0, 0, fun _ => none⟩ B ∧ W.grownBy w' none ∧ (∀ k, B k → W.heap.size ≤ k) ∧ ∀ k, B k → k < w'.heap.size := by
  refine (v_new W).mono ?_
  rintro e w' ⟨d, mb, B, rfl, h1, h2, h3⟩
  exact ⟨d, mb, _, rfl, DS.bound h1, h2, fun k hk => h3 k hk.1, fun k hk => hk.2⟩
/-- .. and opened. -/
theorem st_open0 {W w : World} {d mb : Nat} {B : Nat → Prop} (hd : DS w W.heap.size d mb 0 ⟨false, false, 0, 0, 0, fun _ => none⟩ B) (hW : W.grownBy w none) (low : ∀ k, B k → W.heap.size ≤ k) (ltB : ∀ k, B k → k < w.heap.size) :
    Calls Try.prog 8 #[.pointer (some ⟨d, 0, none⟩)] w fun e w' => ∃ p x' B', e = .returned (.tuple #[.pointer (some ⟨p, 0, none⟩), .int .i64 0]) ∧ StAt W w' d mb 0 x' p O0 B' ∧ x'.wn ≤ 0 ∧ Step w w' B B' := by
  refine (st_open O0 [] hd ltB low hW calm_0 (by simp) (by omega) drafts_0 (by simp) (by rw [offV_nil, objV_0]) (fun k hk => by cases hk)).mono ?_
  rintro e w' ⟨p, n', x', B', rfl, h1, h2, h3, h4⟩
  have hn : n' = 0 := by simpa using h2
  subst hn
  exact ⟨p, x', B', rfl, h1, by simpa using h3, h4⟩
end Go.Proofs.Ytlmddmfoodejmaa
