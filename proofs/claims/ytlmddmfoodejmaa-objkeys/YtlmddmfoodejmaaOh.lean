/- Package obj: a Put's writes. -/
import Derived.Test.YtlmddmfoodejmaaOd
import Derived.Test.YtlmddmfoodejmaaOg
namespace Go.Proofs.Ytlmddmfoodejmaa
open Go.RowKit Go.Maps
set_option linter.unusedVariables false
set_option maxRecDepth 20000

theorem DS.bound {w : World} {base d mb n : Nat} {x : DSt} {B : Nat → Prop} (h : DS w base d mb n x B) : DS w base d mb n x (fun k => B k ∧ k < w.heap.size) := by
  obtain ⟨F, G, hd, hv, hb⟩ := h
  refine ⟨F, G, hd, hv, fun k hk => ⟨hb k hk, ?_⟩⟩
  rcases hk with e | e | ⟨s, b, hs, e | ⟨y, hy, e⟩⟩
  · subst e; exact hd.row.lt
  · subst e; exact hd.map.lt
  · subst e; exact (hd.lt s _ hs).1
  · subst e; exact (hd.slc hs hy).2.1
/-- A disk that is on and not armed. -/
structure DSt.Calm (x : DSt) : Prop where
  on : x.off = false
  free : x.set = false
  ok : x.ok
theorem calm_wr (x : DSt) (h : x.Calm) (l : Bool) (V : Cont) : x.wr l V = (0, { x with wn := x.wn + 1, V := V }) := by
  unfold DSt.wr
  rw [if_pos h.free]
theorem calm_app (x : DSt) (h : x.Calm) (s : ByteArray) (zs : List Int) : x.append s zs = (0, { x with wn := x.wn + 1, V := setV x.V s (some ((oldV x.V s).1 ++ zs, (oldV x.V s).2)) }) := by
  unfold DSt.append
  rw [if_neg (by rw [h.on]; simp), calm_wr x h]
theorem calm_sync (x : DSt) (h : x.Calm) (s : ByteArray) (q : List Int × Nat) (hV : x.V s = some q) : x.sync s = (0, { x with wn := x.wn + 1, V := setV x.V s (some (q.1, q.1.length)) }) := by
  unfold DSt.sync
  rw [if_neg (by rw [h.on]; simp), hV]
  exact calm_wr x h _ _
theorem calm_ren (x : DSt) (h : x.Calm) (s t : ByteArray) (q : List Int × Nat) (hV : x.V s = some q) : x.rename s t = (0, { x with wn := x.wn + 1, V := setV (setV x.V s none) t (some q) }) := by
  unfold DSt.rename
  rw [if_neg (by rw [h.on]; simp), hV]
  exact calm_wr x h _ _
theorem calm_del (x : DSt) (h : x.Calm) (s : ByteArray) (q : List Int × Nat) (hV : x.V s = some q) : x.delete s = (0, { x with wn := x.wn + 1, V := setV x.V s none }) := by
  unfold DSt.delete
  rw [if_neg (by rw [h.on]; simp), hV]
  exact calm_wr x h _ _
theorem calm_next (x : DSt) (h : x.Calm) (hw : x.wn ≤ 999999990) (V : Cont) : ({ x with wn := x.wn + 1, V := V } : DSt).Calm := by
  obtain ⟨h1, h2, h3⟩ := h.ok
  exact ⟨h.on, h.free, ⟨by dsimp only; omega, h2, h3⟩⟩
theorem ok_wr (x : DSt) (h : x.ok) (hw : x.wn ≤ 999999990) (l : Bool) (V : Cont) : (x.wr l V).2.ok ∧ (x.wr l V).2.wn ≤ x.wn + 1 := by
  obtain ⟨h1, h2, h3⟩ := h
  unfold DSt.wr
  split
  · exact ⟨⟨by dsimp only; omega, h2, h3⟩, by dsimp only; omega⟩
  · split
    · exact ⟨⟨by dsimp only; omega, by simp, by simp⟩, by dsimp only; omega⟩
    · exact ⟨⟨by dsimp only; omega, fun hs => by have := h2 hs; dsimp only; omega, h3⟩, by dsimp only; omega⟩
theorem ok_app (x : DSt) (h : x.ok) (hw : x.wn ≤ 999999990) (s : ByteArray) (zs : List Int) : (x.append s zs).2.ok ∧ (x.append s zs).2.wn ≤ x.wn + 1 := by
  unfold DSt.append
  split
  · exact ⟨h, by dsimp only; omega⟩
  · exact ok_wr x h hw _ _
theorem ok_sync (x : DSt) (h : x.ok) (hw : x.wn ≤ 999999990) (s : ByteArray) : (x.sync s).2.ok ∧ (x.sync s).2.wn ≤ x.wn + 1 := by
  unfold DSt.sync
  split
  · exact ⟨h, by dsimp only; omega⟩
  · split
    · exact ⟨h, by dsimp only; omega⟩
    · exact ok_wr x h hw _ _
theorem ok_ren (x : DSt) (h : x.ok) (hw : x.wn ≤ 999999990) (s t : ByteArray) : (x.rename s t).2.ok ∧ (x.rename s t).2.wn ≤ x.wn + 1 := by
  unfold DSt.rename
  split
  · exact ⟨h, by dsimp only; omega⟩
  · split
    · exact ⟨h, by dsimp only; omega⟩
    · exact ok_wr x h hw _ _
theorem ok_del (x : DSt) (h : x.ok) (hw : x.wn ≤ 999999990) (s : ByteArray) : (x.delete s).2.ok ∧ (x.delete s).2.wn ≤ x.wn + 1 := by
  unfold DSt.delete
  split
  · exact ⟨h, by dsimp only; omega⟩
  · split
    · exact ⟨h, by dsimp only; omega⟩
    · exact ok_wr x h hw _ _
/-- What a Put's writes make of a disk that is on and has no draft there. -/
def DSt.putW (x : DSt) (k : ByteArray) (zs : List Int) : Int × DSt :=
  if (x.append (tN k) zs).1 ≠ 0 then x.append (tN k) zs
  else if ((x.append (tN k) zs).2.sync (tN k)).1 ≠ 0 then (x.append (tN k) zs).2.sync (tN k)
  else ((x.append (tN k) zs).2.sync (tN k)).2.rename (tN k) (oN k)
theorem ok_putW (x : DSt) (h : x.ok) (hw : x.wn ≤ 999999980) (k : ByteArray) (zs : List Int) : (x.putW k zs).2.ok ∧ (x.putW k zs).2.wn ≤ x.wn + 3 := by
  obtain ⟨h1, h2⟩ := ok_app x h (by omega) (tN k) zs
  obtain ⟨h3, h4⟩ := ok_sync _ h1 (by omega) (tN k)
  obtain ⟨h5, h6⟩ := ok_ren _ h3 (by omega) (tN k) (oN k)
  unfold DSt.putW
  split
  · exact ⟨h1, by omega⟩
  · split
    · exact ⟨h3, by omega⟩
    · exact ⟨h5, by omega⟩
theorem clear_none (x : DSt) (k : ByteArray) (hon : x.off = false) (hT : x.V (tN k) = none) : x.clear k = (0, x) := by
  have e : x.delete (tN k) = (62, x) := by
    unfold DSt.delete
    rw [if_neg (by rw [hon]; simp), hT]
  unfold DSt.clear
  rw [e]
  rfl
/-- Where a Put's writes end. -/
def PutQ (w : World) (base d mb n : Nat) (r : Int × DSt) (B : Nat → Prop) (c : Int) (w' : World) : Prop := c = r.1 ∧ ∃ n' B', n' ≤ n + 4 ∧ DS w' base d mb n' r.2 B' ∧ Step w w' B B' ∧ ∀ k, B' k → k < w'.heap.size
/-- The list of writes, and that it stays. -/
def draws (d : Nat) (k : ByteArray) (v : Value) : List (Nat × Value) := [(38, drV d k v), (43, drV d k v), (44, drV d k v), (45, drV d k v)]
theorem srd_keptX {α : Type} {E : Elem α} {w w' : World} {X : Nat → Prop} {b off : Nat} {l : List α} (h : SRd E w (some ⟨b, off, none⟩) l) (hk : Kept w w' X) (hb : b < w.heap.size) (hn : ¬ X b) : SRd E w' (some ⟨b, off, none⟩) l := by
  rcases h with h | ⟨b', o', e, hc⟩
  · exact .inl h
  · refine .inr ⟨b', o', e, fun j v hj => ?_⟩
    have e' : b' = b := by cases e; rfl
    subst e'
    have h1 := hc j v hj
    have h2 := hk.block b' hb hn
    unfold World.cell? at h1 ⊢
    dsimp only at h1 ⊢
    rw [h2]
    exact h1
theorem put_turn (base d mb n : Nat) (x : DSt) (B : Nat → Prop) (k : ByteArray) (b : Nat) (zs : List Int) (M cd g : Nat) (w : World) (h : DS w base d mb n x B) (hok : x.ok) (hw : x.wn ≤ 999999980) (hB : ∀ k, B k → k < w.heap.size) (hk : keyB k = true) (hon : x.off = false) (hT : x.V (tN k) = none) (hn : n ≤ 1000000) (hr : SRd byteE w (some ⟨b, 0, none⟩) zs) (hM : zs.length = M) (hby : ∀ z ∈ zs, 0 ≤ z ∧ z ≤ 255) (hlen : M ≤ 4194304) (hbs : base ≤ w.heap.size) (hbl : b < w.heap.size) (hbB : ¬ B b) (hgl : g < w.heap.size) (hgB : ¬ B g) (hf : SRd fnE w (some ⟨g, 0, none⟩) (draws d k (.slice (some ⟨b, 0, none⟩) M cd))) :
    Turn (fun w' => SRd fnE w' (some ⟨g, 0, none⟩) (draws d k (.slice (some ⟨b, 0, none⟩) M cd))) (PutQ w base d mb n (x.putW k zs) B) (draws d k (.slice (some ⟨b, 0, none⟩) M cd)) w := by
  have hBd : ∀ {w n x B}, DS w base d mb n x B → B d := fun h => by obtain ⟨F, G, _, _, hb⟩ := h; exact hb d (.inl rfl)
  have hBm : ∀ {w n x B}, DS w base d mb n x B → B mb := fun h => by obtain ⟨F, G, _, _, hb⟩ := h; exact hb mb (.inr (.inl rfl))
  have e0 : oldV x.V (tN k) = ([], 0) := by unfold oldV; rw [hT]; rfl
  -- clear
  have h1 := o_clear base d mb n x B k (.slice (some ⟨b, 0, none⟩) M cd) w h hok hB hk
  rw [clear_none x k hon hT] at h1
  refine h1.mono ?_
  rintro e w1 ⟨rfl, n1, B1, hn1, hd1, hs1⟩
  have hg1 : ¬ B1 g := fun hb => hgB (hs1.2 g hgl hb)
  have hb1 : ¬ B1 b := fun hb => hbB (hs1.2 b hbl hb)
  have hf1 := srd_keptX hf hs1.1 hgl hgB
  have hr1 := srd_keptX hr hs1.1 hbl hbB
  have hgl1 := Nat.lt_of_lt_of_le hgl hs1.1.size
  have hbl1 := Nat.lt_of_lt_of_le hbl hs1.1.size
  refine ⟨0, rfl, hf1, fun hc => absurd rfl hc, fun _ => ?_⟩
  -- write
  have hd1' := DS.bound hd1
  obtain ⟨r2, hr2⟩ : ∃ r2, r2 = x.append (tN k) zs := ⟨_, rfl⟩
  obtain ⟨k1, k2⟩ := ok_app x hok (by omega) (tN k) zs
  rw [← hr2] at k1 k2
  have h2 := o_write base d mb n1 x _ k ⟨b, 0, none⟩ zs M cd w1 hd1' hok (fun k hk => hk.2) hk (by omega) hr1 hM hby (by rw [e0]; simpa using hlen) (Nat.le_trans hbs hs1.1.size) (fun e => hb1 (by have e' : b = mb := e; rw [e']; exact hBm hd1)) (fun e => hb1 (by have e' : b = d := e; rw [e']; exact hBd hd1))
  rw [← hr2] at h2
  refine h2.mono ?_
  rintro e w2 ⟨rfl, n2, B2, hn2, hd2, hs2⟩
  have hg2 : ¬ B2 g := fun hb => hg1 (hs2.2 g hgl1 hb).1
  have hf2 := srd_keptX hf1 hs2.1 hgl1 (fun hb => hg1 hb.1)
  have hgl2 := Nat.lt_of_lt_of_le hgl1 hs2.1.size
  have st2 : Step w w2 B (fun k => B2 k ∧ k < w2.heap.size) := hs1.trans ⟨hs2.1.mono (fun k _ hb => hb.1), fun k hk hb => (hs2.2 k hk hb.1).1⟩
  refine ⟨r2.1, rfl, hf2, fun hc => ?_, fun hc => ?_⟩
  · have e : x.putW k zs = r2 := by unfold DSt.putW; rw [← hr2, if_pos hc]
    rw [e]
    exact ⟨rfl, n2, _, by omega, hd2.bound, st2, fun k hk => hk.2⟩
  -- sync
  have hd2' := DS.bound hd2
  obtain ⟨r3, hr3⟩ : ∃ r3, r3 = r2.2.sync (tN k) := ⟨_, rfl⟩
  obtain ⟨k3, k4⟩ := ok_sync r2.2 k1 (by omega) (tN k)
  rw [← hr3] at k3 k4
  have h3 := o_sync base d mb n2 r2.2 _ k (.slice (some ⟨b, 0, none⟩) M cd) w2 hd2' k1 (fun k hk => hk.2) hk
  rw [← hr3] at h3
  refine h3.mono ?_
  rintro e w3 ⟨rfl, n3, B3, hn3, hd3, hs3⟩
  have hf3 := srd_keptX hf2 hs3.1 hgl2 (fun hb => hg2 hb.1)
  have hg3 : ¬ B3 g := fun hb => hg2 (hs3.2 g hgl2 hb).1
  have hgl3 := Nat.lt_of_lt_of_le hgl2 hs3.1.size
  have st3 : Step w w3 B (fun k => B3 k ∧ k < w3.heap.size) := st2.trans ⟨hs3.1, fun k hk hb => hs3.2 k hk hb.1⟩
  refine ⟨r3.1, rfl, hf3, fun hc' => ?_, fun hc' => ?_⟩
  · have e : x.putW k zs = r3 := by unfold DSt.putW; rw [← hr2, if_neg (fun h => h hc), ← hr3, if_pos hc']
    rw [e]
    exact ⟨rfl, n3, _, by omega, hd3.bound, st3, fun k hk => hk.2⟩
  -- place
  have hd3' := DS.bound hd3
  have h4 := o_place base d mb n3 r3.2 _ k (.slice (some ⟨b, 0, none⟩) M cd) w3 hd3' k3 (fun k hk => hk.2) hk (by omega)
  refine h4.mono ?_
  rintro e w4 ⟨rfl, n4, B4, hn4, hd4, hs4⟩
  have hf4 := srd_keptX hf3 hs4.1 hgl3 (fun hb => hg3 hb.1)
  have st4 : Step w w4 B (fun k => B4 k ∧ k < w4.heap.size) := st3.trans ⟨hs4.1, fun k hk hb => hs4.2 k hk hb.1⟩
  have e : x.putW k zs = r3.2.rename (tN k) (oN k) := by unfold DSt.putW; rw [← hr2, if_neg (fun h => h hc), ← hr3, if_neg (fun h => h hc')]
  have hq : PutQ w base d mb n (x.putW k zs) B (r3.2.rename (tN k) (oN k)).1 w4 := by
    rw [e]
    exact ⟨rfl, n4, _, by omega, hd4.bound, st4, fun k hk => hk.2⟩
  refine ⟨_, rfl, hf4, fun _ => hq, fun hc'' => ?_⟩
  have hq' := hq
  rw [hc''] at hq'
  exact hq'
end Go.Proofs.Ytlmddmfoodejmaa
