/- Package obj: Open, the whole. -/
import Derived.Test.YtlmddmfoodejmaaOl
namespace Go.Proofs.Ytlmddmfoodejmaa
open Go.RowKit Go.Maps
set_option linter.unusedVariables false
set_option maxRecDepth 20000

theorem x_up {w : World} {base d mb n : Nat} {x : DSt} {B : Nat → Prop} (h : DS w base d mb n x B) : Calls Try.prog 25 #[.pointer (some ⟨d, 0, none⟩)] w fun e w' => e = .returned (.bool !x.off) ∧ w = w' :=
  d_up d mb x.off x.set x.ah x.kp x.wn w (DV.row h)
open Classical in
noncomputable def offV (V : Cont) (ks : List ByteArray) : Cont := fun s => if s ∈ ks.map tN then none else V s
theorem offV_nil (V : Cont) : offV V [] = V := by funext s; simp [offV]
theorem offV_cons (V : Cont) (k : ByteArray) (ks : List ByteArray) : offV (setV V (tN k) none) ks = offV V (k :: ks) := by
  funext s
  unfold offV
  by_cases h1 : s ∈ ks.map tN
  · rw [if_pos h1, if_pos (by rw [List.map_cons]; exact List.mem_cons_of_mem _ h1)]
  · rw [if_neg h1]
    by_cases h2 : s = tN k
    · rw [h2, setV_same, if_pos (by rw [List.map_cons]; exact List.mem_cons_self)]
    · rw [setV_other _ _ h2, if_neg (by rw [List.map_cons, List.mem_cons]; rintro (h | h); exact h2 h; exact h1 h)]
theorem calm_clear (x : DSt) (h : x.Calm) (hw : x.wn ≤ 999999980) (k : ByteArray) : (x.clear k).1 = 0 ∧ (x.clear k).2.Calm ∧ (x.clear k).2.wn ≤ x.wn + 1 ∧ (x.clear k).2.V = setV x.V (tN k) none := by
  unfold DSt.clear
  cases hV : x.V (tN k) with
  | none =>
    have e : x.delete (tN k) = (62, x) := by
      unfold DSt.delete
      rw [if_neg (by rw [h.on]; simp), hV]
    rw [e]
    refine ⟨rfl, h, by dsimp only; omega, ?_⟩
    show x.V = _
    rw [← hV, setV_self]
  | some q =>
    rw [calm_del x h (tN k) q hV]
    exact ⟨rfl, calm_next x h (by omega) _, by dsimp only; omega, rfl⟩
theorem turn_mono {P : World → Prop} {Q Q' : Int → World → Prop} (hQ : ∀ c w, Q c w → Q' c w) : ∀ (fs : List (Nat × Value)) (w : World), Turn P Q fs w → Turn P Q' fs w := by
  intro fs
  induction fs with
  | nil => intro w h; exact hQ 0 w h
  | cons p fs ih =>
    intro w h
    refine Calls.mono h ?_
    rintro e w1 ⟨c, h1, h2, h3, h4⟩
    exact ⟨c, h1, h2, fun hc => hQ c w1 (h3 hc), fun hc => ih w1 (h4 hc)⟩
/-- Where the deletions end. -/
def OpenQ (w : World) (base d mb n : Nat) (V : Cont) (W : Int) (B : Nat → Prop) (c : Int) (w' : World) : Prop := c = 0 ∧ ∃ x' n' B', n' ≤ n ∧ DS w' base d mb n' x' B' ∧ Step w w' B B' ∧ (∀ k, B' k → k < w'.heap.size) ∧ x'.Calm ∧ x'.wn ≤ W ∧ x'.V = V
theorem open_turn (base d mb : Nat) (a : Option Addr) (fs : List (Nat × Value)) (g : Nat) (ha : ∀ y, a = some y → y = ⟨g, 0, none⟩) : ∀ (ks : List ByteArray) (n : Nat) (x : DSt) (B : Nat → Prop) (w : World), DS w base d mb n x B → x.Calm → x.wn + ks.length ≤ 999999980 → (∀ k, B k → k < w.heap.size) → (∀ k ∈ ks, keyB k = true) → (a ≠ none → g < w.heap.size ∧ ¬ B g) → SRd fnE w a fs →
    Turn (fun w' => SRd fnE w' a fs) (OpenQ w base d mb (n + ks.length) (offV x.V ks) (x.wn + ks.length) B) (ks.map (clr d)) w := by
  intro ks
  induction ks with
  | nil =>
    intro n x B w h hc hw hB hk hg hf
    refine ⟨rfl, x, n, B, Nat.le_refl _, h, Step.grown B (World.grownBy.refl _ _), hB, hc, by simp, (offV_nil _).symm⟩
  | cons k ks ih =>
    intro n x B w h hc hw hB hk hg hf
    rw [List.length_cons] at hw
    have hk0 := hk k List.mem_cons_self
    obtain ⟨c1, c2, c3, c4⟩ := calm_clear x hc (by omega) k
    refine (o_clear base d mb n x B k (.slice none 0 0) w h hc.ok hB hk0).mono ?_
    rintro e w1 ⟨rfl, n1, B1, hn1, hd1, hs1⟩
    have hf1 : SRd fnE w1 a fs := by
      cases a with
      | none =>
        rcases hf with h0 | ⟨b, o, e, _⟩
        · exact .inl h0
        · cases e
      | some y =>
        have := ha y rfl
        subst this
        obtain ⟨h1, h2⟩ := hg (by simp)
        exact srd_keptX hf hs1.1 h1 h2
    refine ⟨(x.clear k).1, rfl, hf1, fun hne => absurd c1 hne, fun _ => ?_⟩
    have hih := ih n1 (x.clear k).2 (fun k => B1 k ∧ k < w1.heap.size) w1 (DS.bound hd1) c2 (by omega) (fun k hk => hk.2) (fun k' hk' => hk k' (List.mem_cons_of_mem _ hk')) (fun hne => by
      obtain ⟨h1, h2⟩ := hg hne
      exact ⟨Nat.lt_of_lt_of_le h1 hs1.1.size, fun hb => h2 (hs1.2 g h1 hb.1)⟩) hf1
    rw [c4, offV_cons] at hih
    refine turn_mono ?_ _ _ hih
    rintro c w' ⟨hc0, x', n', B', k1, k2, k3, k4, k5, k6, k7⟩
    exact ⟨hc0, x', n', B', by rw [List.length_cons]; omega, k2, hs1.trans ⟨k3.1.mono (fun k _ hb => hb.1), fun k hk hb => (k3.2 k hk hb).1⟩, k4, k5, by rw [List.length_cons]; omega, k7⟩
/-- What Open answers. -/
def OpOut (w : World) (base d mb n : Nat) (V : Cont) (W : Int) (B : Nat → Prop) (e : Ending) (w' : World) : Prop := ∃ p x' n' B', e = .returned (.tuple #[.pointer (some ⟨p, 0, none⟩), .int .i64 0]) ∧ n' ≤ n ∧ DS w' base d mb n' x' B' ∧ StRow w' p d ∧ ¬ B' p ∧ w.heap.size ≤ p ∧ (∀ k, B' k → k < w'.heap.size) ∧ Step w w' B B' ∧ x'.Calm ∧ x'.wn ≤ W ∧ x'.V = V
set_option maxHeartbeats 8000000 in
theorem o_open (base d mb n : Nat) (x : DSt) (B : Nat → Prop) (ks : List ByteArray) (w : World) (h : DS w base d mb n x B) (hc : x.Calm) (hw : x.wn + ks.length ≤ 999999980) (hB : ∀ k, B k → k < w.heap.size) (hn : n ≤ 4194304) (hD : Drafts x.V ks) (hkl : ks.length ≤ 4194304) :
    Calls Try.prog 8 #[.pointer (some ⟨d, 0, none⟩)] w (OpOut w base d mb (n + ks.length) (offV x.V ks) (x.wn + ks.length) B) := by
  have HU := x_up h
  rw [hc.on] at HU
  have HDEL := o_deletions base d mb n x B ks w h hc.on hn hD
  obtain ⟨L, hL⟩ : ∃ L, L = ks.length := ⟨_, rfl⟩
  have HT : Hid (∀ a c w1, SOwn fnE 73 w1 w.heap.size (.slice a ks.length c) ks.length (ks.map (clr d)) → w.grownBy w1 none → Calls Try.prog 26 #[.slice a L c] w1 (TurnOut (OpenQ w base d mb (n + ks.length) (offV x.V ks) (x.wn + ks.length) B))) := fun a c w1 ho hg => by
    obtain ⟨g, hg1⟩ : ∃ g, ∀ y, a = some y → y = ⟨g, 0, none⟩ ∧ w.heap.size ≤ g ∧ g < w1.heap.size := by
      by_cases h0 : Value.slice a ks.length c = .slice none 0 0
      · exact ⟨0, fun y hy => by subst hy; cases h0⟩
      · obtain ⟨g, cap, e1, e2, e3, _⟩ := ho.some h0
        exact ⟨g, fun y hy => by subst hy; injection e1 with e1; exact ⟨Option.some.inj e1, e2, e3⟩⟩
    have ht := open_turn base d mb a (ks.map (clr d)) g (fun y hy => (hg1 y hy).1) ks n x B w1 (DV.kept h hg) hc hw (fun k hk => Nat.lt_of_lt_of_le (hB k hk) hg.size) hD.keys (fun hne => by
      cases a with
      | none => exact absurd rfl hne
      | some y =>
        obtain ⟨_, h1, h2⟩ := hg1 y rfl
        exact ⟨h2, fun hb => by have := hB g hb; omega⟩) ho.rd
    have := o_inTurn a (ks.map (clr d)) L c _ _ w1 (fun w h => h) ho.rd (by
      intro p hp
      obtain ⟨k, _, rfl⟩ := List.mem_map.1 hp
      exact .inl rfl) (by rw [List.length_map, hL]) (by omega) ht
    refine this.mono ?_
    rintro e w' ⟨c, rfl, hc0, x', n', B', k1, k2, k3, k4⟩
    exact ⟨c, rfl, hc0, x', n', B', k1, k2, (Step.grown B hg).trans k3, k4⟩
  have HDEL : Hid (Calls Try.prog 27 #[.pointer (some ⟨d, 0, none⟩)] w fun e w' => ∃ a c, e = .returned (.slice a L c) ∧ SOwn fnE 73 w' w.heap.size (.slice a ks.length c) ks.length (ks.map (clr d)) ∧ w.grownBy w' none) := by
    rw [hL]
    exact HDEL
  generalize x.wn + ((ks.length : Nat) : Int) = W at HT ⊢
  generalize n + ks.length = M at HT ⊢
  generalize offV x.V ks = V at HT ⊢
  clear h hc hw hB hn hD hkl hL
  go_enter Try.func8, Try.ntmps8
  go_wp2_with fail
  refine HU.mono ?_
  rintro e w0 ⟨rfl, rfl⟩
  clear HU
  go_wp2_with fail
  refine HDEL.out.mono ?_
  rintro e w1 ⟨a, c, rfl, ho, hg⟩
  have HC := HT.out a c w1 ho hg
  clear HDEL HT ho hg
  go_wp2_with fail
  refine HC.mono ?_
  rintro e w2 ⟨c, rfl, rfl, x', n', B', k1, k2, k3, k4, k5, k6, k7⟩
  have HF : Hid (n' ≤ M ∧ DS w2 base d mb n' x' B' ∧ Step w w2 B B' ∧ (∀ k, B' k → k < w2.heap.size) ∧ x'.Calm ∧ x'.wn ≤ W ∧ x'.V = V) := ⟨k1, k2, k3, k4, k5, k6, k7⟩
  clear HC k1 k2 k3 k4 k5 k6 k7
  go_wp2
  go_ret2
  obtain ⟨k1, k2, k3, k4, k5, k6, k7⟩ := HF.out
  have hg := World.grownBy_alloc w2 (.cells #[.pointer (some ⟨d, 0, none⟩)] 63) none
  refine ⟨w2.heap.size, x', n', B', rfl, k1, DV.kept k2 hg, ?_, fun hb => Nat.lt_irrefl _ (k4 _ hb), k3.1.size, fun k hk => Nat.lt_of_lt_of_le (k4 k hk) hg.size, k3.trans (Step.grown B' hg), k5, k6, k7⟩
  exact World.rowIs_alloc w2 #[.pointer (some ⟨d, 0, none⟩)] 63 _ (fun i hi => by
    have h0 : i = 0 := by simp at hi; omega
    subst h0
    rfl)
end Go.Proofs.Ytlmddmfoodejmaa
