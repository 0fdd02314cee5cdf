/- ObjKeys: a store with the list of its keys. -/
import Derived.Test.YtlmddmfoodejmaaWkb
import Derived.Test.YtlmddmfoodejmaaWwa
namespace Go.Proofs.Ytlmddmfoodejmaa
open Go.RowKit Go.Maps
set_option linter.unusedVariables false
set_option maxRecDepth 20000

theorem DS.others {w w' : World} {base d mb n : Nat} {x : DSt} {B X : Nat → Prop} (h : DS w base d mb n x B) (hg : Kept w w' X) (hX : ∀ k, B k → ¬ X k) : DS w' base d mb n x B := by
  obtain ⟨F, G, hd, hv, hb⟩ := h
  exact ⟨F, G, hd.others hg (hX _ (hb _ (.inl rfl))) (hX _ (hb _ (.inr (.inl rfl)))) (fun s b hs => ⟨hX _ (hb _ (.inr (.inr ⟨s, b, hs, .inl rfl⟩))), fun y hy => hX _ (hb _ (.inr (.inr ⟨s, b, hs, .inr ⟨y, hy, rfl⟩⟩)))⟩), hv, hb⟩
theorem own_sown {w : World} {base g n cap : Nat} {zs : List Int} (h : Own w base g n cap zs) : SOwn byteE 5 w base (.slice (some ⟨g, 0, none⟩) n cap) n zs := by
  have e : byteE.flat zs = bs zs := by
    unfold Elem.flat bs
    rw [List.map_eq_flatMap]
    rfl
  unfold SOwn
  rw [e]
  exact h.1
/-- A store, and a list of texts of the caller's. -/
def KsG (W w : World) (d mb p : Nat) (O : Objs) (T : List ByteArray) (v : Value) (TN N : Nat) : Prop := ∃ n x B, StAt W w d mb n x p O B ∧ n ≤ 4 * N ∧ x.wn ≤ 3 * N ∧ SOwn strE 9 w W.heap.size v TN T ∧ ∀ g, v.ownBlock = some g → ¬ B g ∧ g ≠ p
section
variable {W w w' : World} {d mb p : Nat} {O : Objs} {T : List ByteArray} {v : Value} {TN N : Nat}
theorem KsG.grown (h : KsG W w d mb p O T v TN N) (hg : w.grownBy w' none) : KsG W w' d mb p O T v TN N := by
  obtain ⟨n, x, B, h1, h2, h3, h4, h5⟩ := h
  refine ⟨n, x, B, h1.grown hg, h2, h3, SOwn.kept h4 hg ?_, h5⟩
  cases hv : v.ownBlock with
  | none => exact .inl rfl
  | some k => exact .inr (by simp)
theorem KsG.from_ (h : KsG W w d mb p O T v TN N) : W.grownBy w none := by
  obtain ⟨n, x, B, h1, h2⟩ := h
  exact h1.from_
theorem KsG.own (h : KsG W w d mb p O T v TN N) : SOwn strE 9 w W.heap.size v TN T := by
  obtain ⟨n, x, B, h1, h2, h3, h4, h5⟩ := h
  exact h4
theorem KsG.more (h : KsG W w d mb p O T v TN N) : KsG W w d mb p O T v TN (N + 1) := by
  obtain ⟨n, x, B, h1, h2, h3, h4⟩ := h
  exact ⟨n, x, B, h1, by omega, by omega, h4⟩
theorem ks_put (h : KsG W w d mb p O T v TN N) (k : ByteArray) (a : Option Addr) (M cd : Nat) (dd : List Int) (hk : keyB k = true) (hN : N ≤ 1000) (hg : genO (O k) ≤ 1000) (hr : Rd w a dd) (hM : dd.length = M) (hnil : a = none → cd = 0) (hlen : M ≤ 1048576) :
    Calls Try.prog 10 #[.pointer (some ⟨p, 0, none⟩), .string k, .slice a M cd] w fun e w' => (∃ G, e = .returned (.tuple #[.int .u64 G, .int .i64 0])) ∧ KsG W w' d mb p (setO O k (some (genO (O k) + 1, dd))) T v TN (N + 1) := by
  obtain ⟨n, x, B, h1, h2, h3, h4, h5⟩ := h
  refine (st_put h1 k a M cd dd hk (by omega) (by omega) (by omega) hr hM hnil hlen).mono ?_
  rintro e w' ⟨rfl, n', x', B', k1, k2, k3, k4⟩
  refine ⟨⟨_, rfl⟩, n', x', B', k1, by omega, by omega, sown_keptX h4 k4.1 (fun g hg => (h5 g hg).1), fun g hg => ⟨fun hb => (h5 g hg).1 (k4.2 g (h4.block g hg).2 hb), (h5 g hg).2⟩⟩
theorem ks_list (h : KsG W w d mb p O T v TN N) (hN : N ≤ 1000) (pre : ByteArray) (hp : pre.size ≤ 4611686018427387904) :
    Calls Try.prog 23 #[.pointer (some ⟨p, 0, none⟩), .string pre] w fun e w' => ∃ a c ks, e = .returned (.slice a ks.length c) ∧ SRd strE w' a ks ∧ KeysOf O pre ks ∧ w.grownBy w' none := by
  obtain ⟨n, x, B, h1, h2, h3, h4⟩ := h
  refine (st_list h1 pre (by omega) hp).mono ?_
  rintro e w' ⟨a, c, ks, rfl, k1, k2, k3⟩
  exact ⟨a, c, ks, rfl, k1.rd, k2, k3⟩
theorem ks_get (h : KsG W w d mb p O T v TN N) (k : ByteArray) (hk : keyB k = true) (q : Nat × List Int) (hq : O k = some q) (hq1 : 1 ≤ q.1) :
    Calls Try.prog 16 #[.pointer (some ⟨p, 0, none⟩), .string k] w fun e w' => ∃ v c, e = .returned (.tuple #[.slice v q.2.length c, .int .u64 (q.1 : Int), .int .i64 0]) ∧ Rd w' v q.2 ∧ w.grownBy w' none := by
  obtain ⟨n, x, B, h1, h2⟩ := h
  have := st_get h1 k hk
  rw [st_find h1, hq, if_neg (show ¬ genO (some q) = 0 by show ¬ q.1 = 0; omega)] at this
  refine this.mono ?_
  rintro e w' ⟨v, N, c, rfl, k1, k2⟩
  obtain rfl : N = q.2.length := k1.1.symm
  exact ⟨v, c, rfl, k1.2.1, k2⟩
theorem ks_app (h : KsG W w d mb p O T v TN N) {T' : List ByteArray} {TN' g c : Nat} (ho : SOwn strE 9 w' W.heap.size (.slice (some ⟨g, 0, none⟩) TN' c) TN' T') (hg : w.grownBy w' v.ownBlock) (hgg : v.ownBlock = some g ∨ g = w.heap.size) : KsG W w' d mb p O T' (.slice (some ⟨g, 0, none⟩) TN' c) TN' N := by
  obtain ⟨n, x, B, h1, h2, h3, h4, h5⟩ := h
  have hk : Kept w w' (fun k => v.ownBlock = some k) := Kept.of hg (fun k hk => hk)
  have hp : ¬ v.ownBlock = some p := fun e => (h5 p e).2 rfl
  refine ⟨n, x, B, ⟨DS.others h1.disk hk (fun k hb e => (h5 k e).1 hb), h1.row.of_block (hk.block p h1.row.lt hp), h1.pB, fun k hk' => Nat.lt_of_lt_of_le (h1.ltB k hk') hg.size, h1.low, ?_, h1.V, h1.okO, h1.calm⟩, h2, h3, ho, fun g' hg' => ?_⟩
  · exact gb_trans h1.from_ hg (fun k hk' => .inl (h4.block k hk').1)
  · have e : g = g' := Option.some.inj hg'
    subst e
    rcases hgg with e | e
    · exact h5 g e
    · subst e
      exact ⟨fun hb => Nat.lt_irrefl _ (h1.ltB _ hb), fun e => Nat.lt_irrefl _ (e ▸ h1.row.lt)⟩
end
theorem ks_new (W : World) {w : World} {d mb : Nat} {B : Nat → Prop} (hd : DS w W.heap.size d mb 0 ⟨false, false, 0, 0, 0, fun _ => none⟩ B) (hW : W.grownBy w none) (low : ∀ k, B k → W.heap.size ≤ k) (ltB : ∀ k, B k → k < w.heap.size) :
    Calls Try.prog 8 #[.pointer (some ⟨d, 0, none⟩)] w fun e w' => ∃ p, e = .returned (.tuple #[.pointer (some ⟨p, 0, none⟩), .int .i64 0]) ∧ KsG W w' d mb p O0 [] (.slice none 0 0) 0 0 := by
  refine (st_open0 hd hW low ltB).mono ?_
  rintro e w' ⟨p, x', B', rfl, h1, h2, h3⟩
  exact ⟨p, rfl, 0, x', B', h1, by omega, by omega, SOwn.nil 9 _ _, fun g hg => by cases hg⟩
theorem wpList_append_g {α : Type} {E : Elem α} {P : Program} {t e : TypeId} {bytes : Nat} (T : ElemOf E P t e bytes) {w : World} {ops : Array Oper} {rest : List Oper} {o : Oper} {a : Act} {Q : Exit → Act → World → Prop} (hw : Region.wanted o (yielded ops a.tmps) = true) (s x : Operand)
    (ho : o.op = .call { callee := .builtin .append, args := #[s, x], argTypes := #[t, t] }) (base : Nat) (v : Value) (n : Nat) (xs : List α) (hs : a.eval s = v) (hown : SOwn E e w base v n xs)
    (ad : Addr) (zs : List α) (m cap : Nat) (hx : a.eval x = .slice (some ad) m cap) (hm : zs.length = m) (hr : SRd E w (some ad) zs) (hm0 : 0 < m) (hlen : (n + m) * bytes ≤ 140737488355328) (hmax : n + m ≤ maxLen) (hb : base ≤ w.heap.size)
    (h : ∀ g c w', SOwn E e w' base (.slice (some ⟨g, 0, none⟩) (n + m) c) (n + m) (xs ++ zs) → w.grownBy w' v.ownBlock → (v.ownBlock = some g ∨ g = w.heap.size) → wpList P ops Q rest (a.put o.dst (.slice (some ⟨g, 0, none⟩) (n + m) c)) w') : wpList P ops Q (o :: rest) a w := by
  obtain ⟨i0, z, hi, hz0, hz1, hz2, hz3⟩ := T.info
  subst hm
  show if Region.wanted o (yielded ops a.tmps) then _ else _
  rw [if_pos hw]
  refine .inl (wp_append_lies w s x t ho base e i0 z E.size bytes T.under hi hz0 hz1 hz2 hz3 E.pos _ n (E.flat xs) hs hown ad zs.length cap (E.flat zs) hx (E.flat_len zs) hr.news (E.flat_one zs) hm0 hmax hlen hb w.heap.size rfl ?_)
  intro g c w' hown' hg hgg _
  rw [← E.flat_app] at hown'
  exact h g c w' hown' hg hgg
end Go.Proofs.Ytlmddmfoodejmaa
