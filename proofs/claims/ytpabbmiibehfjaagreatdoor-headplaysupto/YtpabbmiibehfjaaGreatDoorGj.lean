/- Several texts in one: Hh, Hi, Hj. -/
import Derived.Test.YtpabbmiibehfjaaGreatDoorGi
/- Package head: postings; a series is posted. -/
namespace Go.Proofs.YtpabbmiibehfjaaGreatDoor
open Go.RowKit Go.Maps
set_option linter.unusedVariables false
set_option maxRecDepth 20000

/-- What a head's struct holds. -/
def HeadF (m1 m2 lim : Nat) : Nat → Value
  | 0 => .map (some m1)
  | 1 => .map (some m2)
  | _ => .int .i64 lim
def HRow (w : World) (hb m1 m2 lim : Nat) : Prop := w.rowIs hb 69 3 (HeadF m1 m2 lim)
theorem HRow.cells {w : World} {hb m1 m2 lim : Nat} (h : HRow w hb m1 m2 lim) : w.cell? ⟨hb, 0, none⟩ = some (.map (some m1)) ∧ w.cell? ⟨hb, 1, none⟩ = some (.map (some m2)) ∧ w.cell? ⟨hb, 2, none⟩ = some (.int .i64 lim) :=
  ⟨World.rowIs.cell h (i := 0) (by omega), World.rowIs.cell h (i := 1) (by omega), World.rowIs.cell h (i := 2) (by omega)⟩
theorem HRow.lt {w : World} {hb m1 m2 lim : Nat} (h : HRow w hb m1 m2 lim) : hb < w.heap.size := World.rowIs.lt h
theorem HRow.stay {w w' : World} {hb m1 m2 lim : Nat} (h : HRow w hb m1 m2 lim) (hs : w'.heap[hb]? = w.heap[hb]?) : HRow w' hb m1 m2 lim := World.rowIs.of_block h hs
theorem HRow.kept {w w' : World} {hb m1 m2 lim : Nat} (h : HRow w hb m1 m2 lim) (hg : w.grownBy w' none) : HRow w' hb m1 m2 lim := h.stay (hg.block hb h.lt (by simp))
theorem HRow.typed {w : World} {hb m1 m2 lim : Nat} (h : HRow w hb m1 m2 lim) : Typed w hb 69 := rowIs_typed h
/-- The postings in block m2: D tells the series of a label; their blocks are among B. -/
def PostIs (w : World) (base m2 n : Nat) (D : Lab → List Nat) (B : Nat → Prop) : Prop :=
  ∃ F : Lab → Option Sl, MapG posM w m2 n F ∧ B m2 ∧ (∀ l s, okK l → F l = some s → SOwn ptsE 77 w base (slV (some s)) s.2.1 (D l) ∧ B s.1) ∧ (∀ l, okK l → F l = none → D l = []) ∧ (∀ l l' s s', okK l → okK l' → l ≠ l' → F l = some s → F l' = some s' → s.1 ≠ s'.1)
/-- The blocks that postings may be written in. -/
def PB (w : World) (m2 : Nat) (B : Nat → Prop) (k : Nat) : Prop := k = m2 ∨ (Typed w k 77 ∧ B k)
theorem typed_stay {w w' : World} {b : Nat} {t : TypeId} (h : Typed w b t) (hs : w'.heap[b]? = w.heap[b]?) : Typed w' b t := by
  obtain ⟨c, h⟩ := h
  exact ⟨c, hs.trans h⟩
theorem typed_lt {w : World} {b : Nat} {t : TypeId} (h : Typed w b t) : b < w.heap.size := by
  obtain ⟨c, h⟩ := h
  exact (Array.getElem?_eq_some_iff.1 h).1
theorem PostIs.stay {w w' : World} {base m2 n : Nat} {D : Lab → List Nat} {B : Nat → Prop} (h : PostIs w base m2 n D B) (hs : ∀ k, k < w.heap.size → PB w m2 B k → w'.heap[k]? = w.heap[k]?) : PostIs w' base m2 n D B := by
  obtain ⟨F, h1, h2, h3, h4, h5⟩ := h
  refine ⟨F, mapG_stay posM h1 (hs m2 (mapG_lt posM h1) (.inl rfl)), h2, fun l s hl hF => ?_, h4, h5⟩
  obtain ⟨h6, h7⟩ := h3 l s hl hF
  refine ⟨sown_stay h6 (fun x hx => ?_), h7⟩
  have ht := sown_typed h6
  cases hx
  exact hs _ (typed_lt ht) (.inr ⟨ht, h7⟩)
theorem PostIs.kept {w w' : World} {base m2 n : Nat} {D : Lab → List Nat} {B : Nat → Prop} (h : PostIs w base m2 n D B) (hg : w.grownBy w' none) : PostIs w' base m2 n D B := h.stay (fun k hk _ => hg.block k hk (by simp))
theorem PostIs.mono {w : World} {base m2 n m : Nat} {D : Lab → List Nat} {B B' : Nat → Prop} (h : PostIs w base m2 n D B) (hn : n ≤ m) (hB : ∀ k, B k → B' k) : PostIs w base m2 m D B' := by
  obtain ⟨F, h1, h2, h3, h4, h5⟩ := h
  exact ⟨F, mapG_size posM h1 hn, hB _ h2, fun l s hl hF => ⟨(h3 l s hl hF).1, hB _ (h3 l s hl hF).2⟩, h4, h5⟩
theorem PostIs.congr {w : World} {base m2 n : Nat} {D D' : Lab → List Nat} {B : Nat → Prop} (h : PostIs w base m2 n D B) (hD : ∀ l, okK l → D l = D' l) : PostIs w base m2 n D' B := by
  obtain ⟨F, h1, h2, h3, h4, h5⟩ := h
  exact ⟨F, h1, h2, fun l s hl hF => ⟨by rw [← hD l hl]; exact (h3 l s hl hF).1, (h3 l s hl hF).2⟩, fun l hl hF => by rw [← hD l hl]; exact h4 l hl hF, h5⟩
theorem PostIs.isMap {w : World} {base m2 n : Nat} {D : Lab → List Nat} {B : Nat → Prop} (h : PostIs w base m2 n D B) : IsMap w m2 := by
  obtain ⟨F, h1, _⟩ := h
  exact mapG_map posM h1
def setD (D : Lab → List Nat) (l : Lab) (x : List Nat) : Lab → List Nat := fun k => if k = l then x else D k
/-- One posting has turned, in its own row or a new one. -/
theorem post_put {w w' : World} {base m2 n : Nat} {D : Lab → List Nat} {B : Nat → Prop} {F : Lab → Option Sl} {l : Lab} {s : Sl} {x : List Nat} {n' : Nat} (hF : MapG posM w m2 n F ∧ B m2 ∧ (∀ l s, okK l → F l = some s → SOwn ptsE 77 w base (slV (some s)) s.2.1 (D l) ∧ B s.1) ∧ (∀ l, okK l → F l = none → D l = []) ∧ (∀ l l' s s', okK l → okK l' → l ≠ l' → F l = some s → F l' = some s' → s.1 ≠ s'.1))
    (hl : okK l) (hm : MapG posM w' m2 n' (setK F l (some s))) (ho : SOwn ptsE 77 w' base (slV (some s)) s.2.1 x) (hk : Kept w w' (fun k => k = m2 ∨ (slV (F l)).ownBlock = some k)) (hw : (slV (F l)).ownBlock = some s.1 ∨ w.heap.size ≤ s.1) :
    ∃ B', PostIs w' base m2 n' (setD D l x) B' ∧ Kept w w' (PB w m2 B) ∧ (∀ k, k < w.heap.size → B' k → B k) ∧ (∀ k, B k → B' k) ∧ ∀ k, B' k → B k ∨ k < w'.heap.size := by
  obtain ⟨h1, h2, h3, h4, h5⟩ := hF
  have hown : ∀ k, (slV (F l)).ownBlock = some k → Typed w k 77 ∧ B k := by
    intro k hk
    cases hFl : F l with
    | none => rw [hFl] at hk; simp [slV, Value.ownBlock] at hk
    | some t =>
      obtain ⟨h6, h7⟩ := h3 l t hl hFl
      rw [hFl] at hk
      simp only [slV, Value.ownBlock, Option.some.injEq] at hk
      subst hk
      exact ⟨sown_typed h6, h7⟩
  have hs1 : s.1 < w'.heap.size := typed_lt (sown_typed ho)
  refine ⟨fun k => B k ∨ k = s.1, ⟨setK F l (some s), hm, .inl h2, fun l' t hl' hF' => ?_, fun l' hl' hF' => ?_, fun a b s1 s2 ha hb hab h6 h7 => ?_⟩, hk.mono (fun k _ hX => ?_), fun k hlt hb => ?_, fun k hb => .inl hb, fun k hb => ?_⟩
  · unfold setD
    by_cases e : l' = l
    · subst e
      rw [setK_same] at hF'
      cases hF'
      rw [if_pos rfl]
      exact ⟨ho, .inr rfl⟩
    · rw [setK_other F _ e] at hF'
      rw [if_neg e]
      obtain ⟨h6, h7⟩ := h3 l' t hl' hF'
      refine ⟨sown_stay h6 (fun y hy => ?_), .inl h7⟩
      cases hy
      refine hk.block _ (typed_lt (sown_typed h6)) (fun hX => ?_)
      rcases hX with hX | hX
      · exact Typed.map (sown_typed h6) (mapG_map posM h1) hX
      · cases hFl : F l with
        | none => rw [hFl] at hX; simp [slV, Value.ownBlock] at hX
        | some t2 =>
          rw [hFl] at hX
          simp only [slV, Value.ownBlock, Option.some.injEq] at hX
          exact h5 l' l t t2 hl' hl e hF' hFl hX.symm
  · unfold setD
    by_cases e : l' = l
    · subst e
      rw [setK_same] at hF'
      cases hF'
    · rw [setK_other F _ e] at hF'
      rw [if_neg e]
      exact h4 l' hl' hF'
  · have key : ∀ l' t, okK l' → l' ≠ l → F l' = some t → t.1 ≠ s.1 := by
      intro l' t hl' hne hFt e
      rcases hw with hw | hw
      · cases hFl : F l with
        | none => rw [hFl] at hw; simp [slV, Value.ownBlock] at hw
        | some t2 =>
          rw [hFl] at hw
          simp only [slV, Value.ownBlock, Option.some.injEq] at hw
          exact h5 l' l t t2 hl' hl hne hFt hFl (by rw [e, hw])
      · have := typed_lt (sown_typed (h3 l' t hl' hFt).1)
        simp only at this
        omega
    by_cases ea : a = l
    · subst ea
      rw [setK_same] at h6
      cases h6
      rw [setK_other F _ (fun e => hab e.symm)] at h7
      exact (key b s2 hb (fun e => hab e.symm) h7).symm
    · rw [setK_other F _ ea] at h6
      by_cases eb : b = l
      · subst eb
        rw [setK_same] at h7
        cases h7
        exact key a s1 ha ea h6
      · rw [setK_other F _ eb] at h7
        exact h5 a b s1 s2 ha hb hab h6 h7
  · rcases hX with hX | hX
    · exact .inl hX
    · exact .inr (hown k hX)
  · rcases hb with hb | hb
    · exact hb
    · subst hb
      rcases hw with hw | hw
      · exact (hown _ hw).2
      · omega
  · rcases hb with hb | hb
    · exact .inl hb
    · subst hb; exact .inr hs1
end Go.Proofs.YtpabbmiibehfjaaGreatDoor

/- Package head: post. -/
namespace Go.Proofs.YtpabbmiibehfjaaGreatDoor
open Go.RowKit Go.Maps
set_option linter.unusedVariables false
set_option maxRecDepth 20000

theorem box2_cells (w : World) (l : Lab) : (w.alloc (.cells #[.string l.1, .string l.2] 62)).cell? ⟨w.heap.size, 0, none⟩ = some (.string l.1) ∧ (w.alloc (.cells #[.string l.1, .string l.2] 62)).cell? ⟨w.heap.size, 1, none⟩ = some (.string l.2) := by
  constructor
  · rw [cell_of_row _ w.heap.size 0 _ 62 _ (heap_alloc_new w _)]; rfl
  · rw [cell_of_row _ w.heap.size 1 _ 62 _ (heap_alloc_new w _)]; rfl
theorem slV_own (o : Option Sl) (g : Nat) (h : (slV o).ownBlock = some g) : ∃ s, o = some s ∧ s.1 = g := by
  cases o with
  | none => simp [slV, Value.ownBlock] at h
  | some s => exact ⟨s, rfl, by simpa [slV, Value.ownBlock] using h⟩
theorem slV_form (o : Option Sl) : ∃ a n c, slV o = .slice a n c := by
  cases o with
  | none => exact ⟨_, _, _, rfl⟩
  | some s => exact ⟨_, _, _, rfl⟩
def PostOut (w : World) (base m2 n : Nat) (D : Lab → List Nat) (B : Nat → Prop) (l : Lab) (x : List Nat) (w' : World) : Prop :=
  ∃ B', PostIs w' base m2 n (setD D l x) B' ∧ Kept w w' (PB w m2 B) ∧ (∀ k, k < w.heap.size → B' k → B k) ∧ (∀ k, B k → B' k) ∧ ∀ k, B' k → B k ∨ k < w'.heap.size
set_option maxHeartbeats 8000000 in
theorem h_post (base hb m1 m2 lim n : Nat) (D : Lab → List Nat) (B : Nat → Prop) (es : List Ent) (f : Ent) (l : Lab) (w : World) (hrow : HRow w hb m1 m2 lim) (h : PostIs w base m2 n D B) (hD : D l = es.map (·.p)) (he : ∀ e ∈ es, EntIs w base e ∧ e.ls.length ≤ 16) (hf : EntIs w base f) (hf2 : f.ls.length ≤ 16) (hs : Sets (es.map (·.ls))) (hl : okK l) (hn : n < maxLen) (hz : es.length ≤ 4194303) (hbs : base ≤ w.heap.size) :
    Calls Tryz.prog 66 #[.pointer (some ⟨hb, 0, none⟩), .agg #[.string l.1, .string l.2], .pointer (some ⟨f.p, 0, none⟩)] w fun e w' => e = .returned (.tuple #[]) ∧ PostOut w base m2 (n + 1) D B l ((D l).take (insAt (es.map (·.ls)) f.ls) ++ [f.p] ++ (D l).drop (insAt (es.map (·.ls)) f.ls)) w' := by
  obtain ⟨F, hF⟩ := h
  have hF0 := hF
  obtain ⟨hm, hBm, h3, h4, h5⟩ := hF
  obtain ⟨_, c1, _⟩ := hrow.cells
  obtain ⟨l1, l2⟩ := l
  have hown : SOwn ptsE 77 w base (slV (F (l1, l2))) es.length (D (l1, l2)) := by
    cases hFl : F (l1, l2) with
    | none =>
      have h6 := h4 _ hl hFl
      rw [hD] at h6
      obtain rfl : es = [] := by simpa using h6
      rw [hD]
      exact SOwn.nil 77 w base
    | some s =>
      obtain ⟨h6, _⟩ := h3 _ s hl hFl
      have h7 := h6.len
      rw [hD, List.length_map] at h7
      rw [h7]
      exact h6
  obtain ⟨W, eW⟩ : ∃ W, W = w.alloc (.cells #[.string l1, .string l2] 62) := ⟨_, rfl⟩
  have hgW : w.grownBy W none := by rw [eW]; exact World.grownBy_alloc w _ none
  have HGW : Hid (w.grownBy W none) := hgW
  have k0 : W.cell? ⟨w.heap.size, 0, none⟩ = some (.string l1) := by rw [eW]; exact (box2_cells w (l1, l2)).1
  have k1 : W.cell? ⟨w.heap.size, 1, none⟩ = some (.string l2) := by rw [eW]; exact (box2_cells w (l1, l2)).2
  have c1W : W.cell? ⟨hb, 1, none⟩ = some (.map (some m2)) := hgW.cell c1 (by simp)
  have hlk : (Instr.lookup 64 (.map (some m2)) (.agg #[.string l1, .string l2]) false).run Tryz.prog W.drew = .ok (slV (F (l1, l2))) W.drew := mapG_look posM (mapG_kept posM hm (gb_drew hgW) (by simp)) (l1, l2) hl
  obtain ⟨a, L, c, hv⟩ := slV_form (F (l1, l2))
  have hL : es.length = L := by
    have h6 := hown
    rw [hv] at h6
    rcases h6.2 with ⟨h', h0⟩ | ⟨g, cap, cur, h', _⟩
    · simp only [Value.slice.injEq] at h'; omega
    · simp only [Value.slice.injEq] at h'; omega
  rw [hv] at hlk hown
  rw [hL] at hown hz
  have HOW : Hid (SOwn ptsE 77 w base (.slice a L c) L (D (l1, l2))) := hown
  obtain ⟨I, eI⟩ : ∃ I, I = insAt (es.map (·.ls)) f.ls := ⟨_, rfl⟩
  have hIL : I ≤ L := by
    rw [eI, ← hL]
    unfold insAt
    refine Nat.le_trans List.countP_le_length ?_
    rw [List.length_map]
    exact Nat.le_refl _
  rw [← eI]
  have HBS : Hid (∀ w1, w.grownBy w1 none → Calls Tryz.prog 77 #[.slice a L c, .pointer (some ⟨f.p, 0, none⟩), .func (.func 78) #[] #[]] w1 fun e w' => ∃ b, e = .returned (.tuple #[.int .i64 I, .bool b]) ∧ w1.grownBy w' none) := fun w1 hg => by
    rw [eI]
    refine l_bsearch base es f a L c w1 ?_ hL (by omega) (fun e hm => ⟨(he e hm).1.kept hg, (he e hm).2⟩) (hf.kept hg) hf2 hs
    rw [← hD]
    exact hown.rd.grown hg (by simp)
  have HB0 : Hid (base ≤ w.heap.size) := hbs
  have HFIN : Hid (∀ (w2 w3 : World) (g c' : Nat), w.grownBy w2 none → SOwn ptsE 77 w3 base (.slice (some ⟨g, 0, none⟩) (L + 1) c') (L + 1) ((D (l1, l2)).take I ++ [f.p] ++ (D (l1, l2)).drop I) → w2.grownBy w3 (Value.ownBlock (.slice a L c)) → (some g = Value.ownBlock (.slice a L c) ∨ w2.heap.size ≤ g) →
      ∃ w4, (Instr.mapUpdate 64 (.map (some m2)) (.agg #[.string l1, .string l2]) (.slice (some ⟨g, 0, none⟩) (L + 1) c')).run Tryz.prog w3 = .ok () w4 ∧ PostOut w base m2 (n + 1) D B (l1, l2) ((D (l1, l2)).take I ++ [f.p] ++ (D (l1, l2)).drop I) w4 ∧ w3.grownBy w4 (some m2)) := by
    intro w2 w3 g c' hg2 ho3 hg3 hw3
    have hm2 : ∀ k, Value.ownBlock (.slice a L c) = some k → k ≠ m2 := fun k hk e => by
      rw [← hv] at hk
      obtain ⟨s, hs1, rfl⟩ := slV_own _ _ hk
      exact Typed.map (sown_typed (h3 _ s hl hs1).1) (mapG_map posM hm) e
    have hm3 := mapG_kept posM (mapG_kept posM hm hg2 (by simp)) hg3 (fun e => hm2 m2 e.symm rfl)
    obtain ⟨w4, hput, hm4, hg4⟩ := mapG_put posM hm3 (l1, l2) hl hn (g, L + 1, c')
    refine ⟨w4, hput, ?_, hg4⟩
    have hne : g ≠ m2 := by
      intro e
      have ht := sown_typed ho3
      exact Typed.map ht (mapG_map posM hm3) e
    refine post_put (s := (g, L + 1, c')) hF0 hl hm4 (SOwn.kept ho3 hg4 (.inr (by simpa [slV, Value.ownBlock] using hne))) ?_ ?_
    · rw [hv]
      refine (Kept.of hg2 (X := fun k => k = m2 ∨ Value.ownBlock (.slice a L c) = some k) (by simp)).trans ((Kept.of hg3 (X := fun k => k = m2 ∨ Value.ownBlock (.slice a L c) = some k) (fun k hk => .inr hk)).trans (Kept.of hg4 (X := fun k => k = m2 ∨ Value.ownBlock (.slice a L c) = some k) (fun k hk => .inl (Option.some.inj hk).symm)) (fun k _ h => h)) (fun k _ h => h)
    · rw [hv]
      rcases hw3 with h | h
      · exact .inl h.symm
      · exact .inr (Nat.le_trans hg2.size h)
  have HCL : Hid (∀ (w2 w3 w4 : World), w.grownBy w2 none → w2.grownBy w3 (Value.ownBlock (.slice a L c)) → w3.grownBy w4 (some m2) → w2.cell? ⟨w.heap.size, 0, none⟩ = some (.string l1) → w2.cell? ⟨w.heap.size, 1, none⟩ = some (.string l2) → ∀ w', (w' = w3 ∨ w' = w4) → w'.cell? ⟨hb, 1, none⟩ = some (.map (some m2)) ∧ w'.cell? ⟨w.heap.size, 0, none⟩ = some (.string l1) ∧ w'.cell? ⟨w.heap.size, 1, none⟩ = some (.string l2)) := by
    intro w2 w3 w4 g2 g3 g4 q0 q1 w' hw'
    have hbl : ∀ k, Value.ownBlock (.slice a L c) = some k → Typed w k 77 := fun k hk => by
      rw [← hv] at hk
      obtain ⟨s, hs1, rfl⟩ := slV_own _ _ hk
      exact sown_typed (h3 _ s hl hs1).1
    have n1 : some hb ≠ Value.ownBlock (.slice a L c) := fun e => Typed.ne (hbl hb e.symm) hrow.typed (by decide) rfl
    have n2 : some w.heap.size ≠ Value.ownBlock (.slice a L c) := fun e => by have := typed_lt (hbl _ e.symm); omega
    have n3 : hb ≠ m2 := Typed.map hrow.typed (mapG_map posM hm)
    have n4 : w.heap.size ≠ m2 := by have := mapG_lt posM hm; omega
    have d1 : w3.cell? ⟨hb, 1, none⟩ = some (.map (some m2)) := g3.cell (g2.cell c1 (by simp)) n1
    have d2 : w3.cell? ⟨w.heap.size, 0, none⟩ = some (.string l1) := g3.cell q0 n2
    have d3 : w3.cell? ⟨w.heap.size, 1, none⟩ = some (.string l2) := g3.cell q1 n2
    rcases hw' with rfl | rfl
    · exact ⟨d1, d2, d3⟩
    · exact ⟨g4.cell d1 (by simpa using n3), g4.cell d2 (by simpa using n4), g4.cell d3 (by simpa using n4)⟩
  generalize f.p = q at HBS HFIN ⊢
  clear hF0 hm hBm h3 h4 h5 hrow hD he hf hf2 hs hl hn hv hL eI hown hbs hgW
  subst eW
  go_enter Tryz.func66, Tryz.ntmps66
  go_wp2
  generalize w.alloc (.cells #[.string l1, .string l2] 62) = W at HGW k0 k1 c1W hlk ⊢
  go_region
  have HGD : Hid (w.grownBy W.drew none) := gb_drew HGW.out
  go_wp2_with fail
  refine (HBS.out _ HGD.out).mono ?_
  rintro e w1 ⟨bb, rfl, hg1⟩
  have c1' : w1.cell? ⟨hb, 1, none⟩ = some (.map (some m2)) := hg1.cell c1W (by simp)
  have k0' : w1.cell? ⟨w.heap.size, 0, none⟩ = some (.string l1) := hg1.cell k0 (by simp)
  have k1' : w1.cell? ⟨w.heap.size, 1, none⟩ = some (.string l2) := hg1.cell k1 (by simp)
  have HG1 : Hid (w.grownBy w1 none) := HGD.out.trans hg1
  have HGA : Hid (w.grownBy (w1.drew.alloc (.cells #[.pointer (some ⟨q, 0, none⟩)] 77)) none) := (gb_drew HG1.out).trans (World.grownBy_alloc w1.drew _ none)
  have HPA : Hid (Pair (w1.drew.alloc (.cells #[.pointer (some ⟨q, 0, none⟩)] 77)) w1.heap.size q) := heap_alloc_new w1.drew _
  have HIN : Hid (Calls Tryz.prog 79 #[.slice a L c, .int .i64 I, .slice (some ⟨w1.heap.size, 0, none⟩) 1 1] (w1.drew.alloc (.cells #[.pointer (some ⟨q, 0, none⟩)] 77)) fun e w' => ∃ g c', e = .returned (.slice (some ⟨g, 0, none⟩) (L + 1) c') ∧ SOwn ptsE 77 w' base (.slice (some ⟨g, 0, none⟩) (L + 1) c') (L + 1) ((D (l1, l2)).take I ++ [q] ++ (D (l1, l2)).drop I) ∧ (w1.drew.alloc (.cells #[.pointer (some ⟨q, 0, none⟩)] 77)).grownBy w' (Value.ownBlock (.slice a L c)) ∧ (some g = Value.ownBlock (.slice a L c) ∨ (w1.drew.alloc (.cells #[.pointer (some ⟨q, 0, none⟩)] 77)).heap.size ≤ g)) := by
    refine g_insert _ L base _ I _ q _ (SOwn.kept HOW.out HGA.out (by cases a <;> simp [Value.ownBlock])) HPA.out (fun e => ?_) hIL (by omega) (Nat.le_trans HB0.out HGA.out.size)
    have h1 := (SOwn.block HOW.out _ e).2
    have h2 := HG1.out.size
    omega
  have n1 := World.new_ne w1.drew ⟨hb, 1, none⟩ c1'
  have n2 := World.new_ne w1.drew ⟨w.heap.size, 0, none⟩ k0'
  have n3 := World.new_ne w1.drew ⟨w.heap.size, 1, none⟩ k1'
  clear hg1 hlk c1W k0 k1 c1
  go_wp2
  go_region_held3 (fun X => X.cell? ⟨hb, 1, none⟩ = some (.map (some m2)) ∧ X.cell? ⟨w.heap.size, 0, none⟩ = some (.string l1) ∧ X.cell? ⟨w.heap.size, 1, none⟩ = some (.string l2)) (go_keep) (first
    | (go_at_call 79; refine HIN.out.mono ?_; rintro e w3 ⟨g, c', rfl, ho3, hg3, hw3⟩; obtain ⟨w4, hput, hpo, hg4⟩ := HFIN.out _ w3 g c' HGA.out ho3 hg3 hw3; have HPO : Hid (PostOut w base m2 (n + 1) D B (l1, l2) ((D (l1, l2)).take I ++ [q] ++ (D (l1, l2)).drop I) w4) := hpo; obtain ⟨d1, d2, d3⟩ := HCL.out _ w3 w4 HGA.out hg3 hg4 ((World.grownBy_alloc w1.drew _ none).cell k0' (by simp)) ((World.grownBy_alloc w1.drew _ none).cell k1' (by simp)) w3 (.inl rfl); obtain ⟨e1, e2, e3⟩ := HCL.out _ w3 w4 HGA.out hg3 hg4 ((World.grownBy_alloc w1.drew _ none).cell k0' (by simp)) ((World.grownBy_alloc w1.drew _ none).cell k1' (by simp)) w4 (.inr rfl); clear ho3 hg3 hw3 hpo hg4))
  all_goals go_wp2
  all_goals go_end0
  all_goals exact ⟨rfl, HPO.out⟩
end Go.Proofs.YtpabbmiibehfjaaGreatDoor

/- Package head: series without points are taken out of a posting. -/
namespace Go.Proofs.YtpabbmiibehfjaaGreatDoor
open Go.RowKit Go.Maps
set_option linter.unusedVariables false
set_option maxRecDepth 20000

def isE (e : Ent) : Bool := decide (e.ps = [])
def ptrOf (b : Nat) : Value := .pointer (some ⟨b, 0, none⟩)
/-- The first series without points, or -1. -/
def IdxAt (es : List Ent) (r : Int) : Prop := (r = -1 ∧ ∀ e ∈ es, isE e = false) ∨ ∃ (i : Nat) (e : Ent), r = (i : Int) ∧ es[i]? = some e ∧ isE e = true ∧ ∀ (j : Nat) (f : Ent), j < i → es[j]? = some f → isE f = false
set_option maxHeartbeats 1000000 in
theorem l_index (base : Nat) (es : List Ent) (a : Option Addr) (n c : Nat) (w : World) (hr : SRd ptsE w a (es.map (·.p))) (hn : es.length = n) (hz : n ≤ 4194304) (he : ∀ e ∈ es, EntIs w base e) :
    Calls Tryz.prog 93 #[.slice a n c, .func (.func 68) #[] #[]] w fun e w' => ∃ r, e = .returned (.int .i64 r) ∧ IdxAt es r ∧ w = w' := by
  have HR : Hid (SRd ptsE w a (es.map (·.p))) := hr
  have HN : Hid (es.length = n) := hn
  have HE : Hid (∀ (i : Nat) (e : Ent), es[i]? = some e → Calls Tryz.prog 68 #[.pointer (some ⟨e.p, 0, none⟩)] w fun r w' => r = .returned (.bool (isE e)) ∧ w = w') := fun i e hi => h_empty base e w (he e (List.mem_of_getElem? hi))
  clear hr hn he
  go_enter Tryz.func93, Tryz.ntmps93
  go_wp2
  go_loopw [8] (fun i wr => ∃ k : Nat, k ≤ n ∧ i = .int .i64 k ∧ (∀ j f, j < k → es[j]? = some f → isE f = false) ∧ wr = w) (fun i _ => n - (intOf i).toNat)
  case atStart => exact ⟨0, Nat.zero_le _, rfl, fun j f h => by omega, rfl⟩
  case round =>
    obtain ⟨k, hk, rfl, hall, rfl⟩ := hrel
    have HALL : Hid (∀ j f, j < k → es[j]? = some f → isE f = false) := hall
    clear hall
    by_cases hlt : k < n
    · have hi : (k : Int) < (n : Int) := by omega
      have hnl := HN.out
      obtain ⟨e, hem⟩ : ∃ e, es[k]? = some e := ⟨_, List.getElem?_eq_getElem (by omega)⟩
      obtain ⟨b, off, rfl, hc⟩ := ptr_cell (i := k) (p := e.p) HR.out (by rw [List.getElem?_map, hem]; rfl)
      have HEM : Hid (es[k]? = some e) := hem
      have HC := HE.out k e hem
      clear hem hnl
      cases hq : isE e with
      | true =>
        rw [hq] at HC
        have HQ : Hid (isE e = true) := hq
        clear hq
        go_wp2_with fail
        refine HC.mono ?_
        rintro r w1 ⟨rfl, rfl⟩
        go_wp2
        go_ret
        exact ⟨k, rfl, .inr ⟨k, e, rfl, HEM.out, HQ.out, HALL.out⟩, rfl⟩
      | false =>
        rw [hq] at HC
        have HQ : Hid (isE e = false) := hq
        clear hq
        go_wp2_with fail
        refine HC.mono ?_
        rintro r w1 ⟨rfl, rfl⟩
        go_wp2
        go_roundw
        case rel =>
          refine ⟨k + 1, by omega, by go_num, fun j f hj hf => ?_, by trivial⟩
          by_cases hjk : j < k
          · exact HALL.out j f hjk hf
          · obtain rfl : j = k := by omega
            have := hf.symm.trans HEM.out
            cases this
            exact HQ.out
        case measure => simp [intOf]; omega
    · obtain rfl : k = n := by omega
      have hi : ¬ (k : Int) < (k : Int) := by omega
      go_wp2
      go_ret
      refine ⟨-1, rfl, .inl ⟨rfl, fun e hm => ?_⟩, rfl⟩
      obtain ⟨j, hj⟩ := List.getElem?_of_mem hm
      exact HALL.out j e (by rw [← HN.out]; exact (List.getElem?_eq_some_iff.1 hj).1) hj
theorem rowIs_setCells {t : TypeId} {n b : Nat} : ∀ (vs : List Value) (o : Nat) (w : World) (f : Nat → Value), w.rowIs b t n f → ∃ f', (w.setCells b o vs).rowIs b t n f' ∧ (∀ k, k < o → f' k = f k)
  | [], o, w, f, h => ⟨f, h, fun _ _ => rfl⟩
  | v :: r, o, w, f, h => by
    obtain ⟨f', h1, h2⟩ := rowIs_setCells r (o + 1) _ _ (h.set o v)
    refine ⟨f', h1, fun k hk => ?_⟩
    rw [h2 k (by omega)]
    exact if_neg (by omega)
theorem gb_setCells (b : Nat) : ∀ (vs : List Value) (o : Nat) (w : World), w.grownBy (w.setCells b o vs) (some b)
  | [], o, w => World.grownBy.refl _ _
  | v :: r, o, w => (gb_set (p := ⟨b, o, none⟩) rfl).trans (gb_setCells b r (o + 1) _)
/-- What the row holds while series are taken out. -/
structure DelAt (es : List Ent) (f : Nat → Value) (i j : Nat) : Prop where
  len : ((es.take j).filter fun e => !isE e).length = i
  low : ∀ k e, ((es.take j).filter fun e => !isE e)[k]? = some e → f k = ptrOf e.p
  high : ∀ k e, j ≤ k → es[k]? = some e → f k = ptrOf e.p
  le : i < j
theorem DelAt.skip {es : List Ent} {f : Nat → Value} {i j : Nat} {e : Ent} (h : DelAt es f i j) (he : es[j]? = some e) (hq : isE e = true) : DelAt es f i (j + 1) := by
  have e1 : (es.take (j + 1)).filter (fun e => !isE e) = (es.take j).filter fun e => !isE e := by
    rw [List.take_add_one, he, List.filter_append]
    simp [hq]
  exact ⟨by rw [e1]; exact h.len, by rw [e1]; exact h.low, fun k e hk => h.high k e (by omega), by have := h.le; omega⟩
theorem DelAt.keep {es : List Ent} {f : Nat → Value} {i j : Nat} {e : Ent} (h : DelAt es f i j) (he : es[j]? = some e) (hq : isE e = false) : DelAt es (fun k => if k = i then ptrOf e.p else f k) (i + 1) (j + 1) := by
  have e1 : (es.take (j + 1)).filter (fun e => !isE e) = ((es.take j).filter fun e => !isE e) ++ [e] := by
    rw [List.take_add_one, he, List.filter_append]
    simp [hq]
  have hl := h.le
  refine ⟨by rw [e1, List.length_append, h.len]; rfl, fun k x hk => ?_, fun k x hk hx => ?_, by omega⟩
  · rw [e1] at hk
    show (if k = i then ptrOf e.p else f k) = _
    by_cases hki : k = i
    · rw [if_pos hki]
      subst hki
      rw [List.getElem?_append_right (by rw [h.len]; exact Nat.le_refl _), h.len, Nat.sub_self] at hk
      simp at hk
      rw [hk]
    · rw [if_neg hki]
      refine h.low k x ?_
      have h1 := (List.getElem?_eq_some_iff.1 hk).1
      rw [List.length_append, h.len] at h1
      simp at h1
      rw [List.getElem?_append_left (by rw [h.len]; omega)] at hk
      exact hk
  · show (if k = i then ptrOf e.p else f k) = _
    rw [if_neg (by omega)]
    exact h.high k x (by omega) hx
theorem pts_flat (l : List Nat) : ptsE.flat l = l.map ptrOf := by
  induction l with
  | nil => rfl
  | cons x r ih => show ptsE.flat (x :: r) = _; rw [List.map_cons, ← ih]; rfl
theorem pts_own_row {w : World} {base g n c : Nat} {l : List Nat} (h : SOwn ptsE 77 w base (.slice (some ⟨g, 0, none⟩) n c) n l) : ∃ f, w.rowIs g 77 c f ∧ (∀ k p, l[k]? = some p → f k = ptrOf p) ∧ n ≤ c ∧ c ≤ maxLen ∧ base ≤ g := by
  rcases h.2 with ⟨h', _⟩ | ⟨g', cap, cur, h', h1, h2, h3, h4, h5, h6⟩
  · simp at h'
  · simp only [Value.slice.injEq, Option.some.injEq, Addr.mk.injEq] at h'
    obtain ⟨⟨rfl, _⟩, _, rfl⟩ := h'
    have h5' : cur.size = c := by rw [h5]; exact Nat.mul_one _
    refine ⟨fun i => cur.getD i undef, ⟨cur, h2, h5', fun i hi => ?_⟩, fun k p hk => ?_, h3, h4, h1⟩
    · rw [Array.getElem?_eq_getElem (by omega)]
      simp [h5', hi]
    · have hk1 := (List.getElem?_eq_some_iff.1 hk).1
      have hl := h.len
      have e : (ptsE.flat l)[k]? = some (ptrOf p) := by rw [pts_flat, List.getElem?_map, hk]; rfl
      rw [← h6, List.getElem?_take] at e
      split at e
      · simp only [Array.getElem?_toList] at e
        simp [Array.getD_eq_getD_getElem?, e]
      · cases e
theorem pts_own_of {w : World} {base g n c : Nat} {l : List Nat} {f : Nat → Value} (h : w.rowIs g 77 c f) (hl : l.length = n) (hf : ∀ k p, l[k]? = some p → f k = ptrOf p) (hn : n ≤ c) (hc : c ≤ maxLen) (hb : base ≤ g) : SOwn ptsE 77 w base (.slice (some ⟨g, 0, none⟩) n c) n l := by
  obtain ⟨cur, h1, h2, h3⟩ := h
  refine ⟨by rw [ptsE.flat_len, hl], .inr ⟨g, c, cur, rfl, hb, h1, hn, hc, by rw [h2]; exact (Nat.mul_one _).symm, ?_⟩⟩
  rw [pts_flat, show n * ptsE.size = n from Nat.mul_one _]
  apply List.ext_getElem?
  intro k
  rw [List.getElem?_take, List.getElem?_map]
  by_cases hk : k < n
  · rw [if_pos hk, Array.getElem?_toList, h3 k (by omega)]
    obtain ⟨p, hp⟩ : ∃ p, l[k]? = some p := ⟨_, List.getElem?_eq_getElem (by omega)⟩
    rw [hp, hf k p hp]
    rfl
  · rw [if_neg hk, List.getElem?_eq_none (by omega)]
    rfl
theorem idx_del {es : List Ent} {i : Nat} {e : Ent} {f : Nat → Value} (he : es[i]? = some e) (hq : isE e = true) (hlo : ∀ j f, j < i → es[j]? = some f → isE f = false) (hf : ∀ k e, es[k]? = some e → f k = ptrOf e.p) : DelAt es f i (i + 1) := by
  have e0 : (es.take i).filter (fun e => !isE e) = es.take i := by
    rw [List.filter_eq_self]
    intro x hx
    obtain ⟨j, hj⟩ := List.getElem?_of_mem hx
    rw [List.getElem?_take] at hj
    split at hj
    · rw [hlo j x (by assumption) hj]; rfl
    · cases hj
  have e1 : (es.take (i + 1)).filter (fun e => !isE e) = es.take i := by
    rw [List.take_add_one, he, List.filter_append, e0]
    simp [hq]
  have hi := (List.getElem?_eq_some_iff.1 he).1
  refine ⟨by rw [e1, List.length_take]; omega, fun k x hk => ?_, fun k x hk hx => hf k x hx, by omega⟩
  rw [e1, List.getElem?_take] at hk
  split at hk
  · exact hf k x hk
  · cases hk
set_option maxHeartbeats 2000000 in
theorem l_delete (base : Nat) (es : List Ent) (g n c : Nat) (w : World) (ho : SOwn ptsE 77 w base (.slice (some ⟨g, 0, none⟩) n c) n (es.map (·.p))) (hz : n ≤ 4194304) (he : ∀ e ∈ es, EntIs w base e) :
    Calls Tryz.prog 80 #[.slice (some ⟨g, 0, none⟩) n c, .func (.func 68) #[] #[]] w fun e w' => ∃ m, e = .returned (.slice (some ⟨g, 0, none⟩) m c) ∧ SOwn ptsE 77 w' base (.slice (some ⟨g, 0, none⟩) m c) m ((es.filter fun e => !isE e).map (·.p)) ∧ w.grownBy w' (some g) := by
  have hn : es.length = n := by have := ho.len; rwa [List.length_map] at this
  have HO : Hid (SOwn ptsE 77 w base (.slice (some ⟨g, 0, none⟩) n c) n (es.map (·.p))) := ho
  obtain ⟨f0, hr0, hf0, hnc, hcm, hbg⟩ := pts_own_row ho
  have HX := l_index base es (some ⟨g, 0, none⟩) n c w ho.rd hn hz he
  have HN : Hid (es.length = n) := hn
  have HE : Hid (∀ (i : Nat) (e : Ent) (w1 : World), es[i]? = some e → w.grownBy w1 (some g) → Calls Tryz.prog 68 #[.pointer (some ⟨e.p, 0, none⟩)] w1 fun r w' => r = .returned (.bool (isE e)) ∧ w1 = w') := fun i e w1 hi hg => by
    have h1 := he e (List.mem_of_getElem? hi)
    have h2 : Typed w g 77 := rowIs_typed hr0
    refine h_empty base e w1 (h1.stay (hg.block _ h1.lt.1 ?_) (fun x hx => hg.block _ (h1.lt.2.1 x hx).2 ?_) (fun x hx => hg.block _ (h1.lt.2.2 x hx).2 ?_))
    · exact fun e => Typed.ne (rowIs_typed h1.row) h2 (by decide) (Option.some.inj e)
    · intro e'
      have h3 := h1.lab
      rw [hx] at h3
      exact Typed.ne (sown_typed h3) h2 (by decide) (Option.some.inj e')
    · intro e'
      have h3 := h1.pts
      rw [hx] at h3
      exact Typed.ne (sown_typed h3) h2 (by decide) (Option.some.inj e')
  have HR0 : Hid (w.rowIs g 77 c f0) := hr0
  have HF0 : Hid (∀ (k : Nat) (e : Ent), es[k]? = some e → f0 k = ptrOf e.p) := fun k e hk => hf0 k e.p (by rw [List.getElem?_map, hk]; rfl)
  have HB : Hid (base ≤ g) := hbg
  have HCM : Hid (c ≤ maxLen) := hcm
  have hcI : (c : Int) ≤ 9223372036854775807 := by unfold maxLen at hcm; omega
  clear ho hr0 hf0 hbg hcm he hn
  go_enter Tryz.func80, Tryz.ntmps80
  go_wp2_with fail
  refine HX.mono ?_
  rintro e w1 ⟨r, rfl, hx, rfl⟩
  clear HX
  rcases hx with ⟨rfl, hall⟩ | ⟨i0, e0, rfl, hi0, hq0, hlo0⟩
  · have HALL : Hid (∀ e ∈ es, isE e = false) := hall
    clear hall
    go_wp2
    go_ret
    refine ⟨n, rfl, ?_, World.grownBy.refl _ _⟩
    rw [List.filter_eq_self.2 (fun e he => by rw [HALL.out e he]; rfl)]
    exact HO.out
  · have HD0 : Hid (DelAt es f0 i0 (i0 + 1)) := idx_del hi0 hq0 hlo0 HF0.out
    have hi0n : i0 < n := by rw [← HN.out]; exact (List.getElem?_eq_some_iff.1 hi0).1
    have q0 : ((i0 : Int) == -1) = false := by simp
    clear hi0 hq0 hlo0
    go_wp2
    go_loopw [5, 6] (fun x y wr => ∃ (i j : Nat) (f : Nat → Value), x = .int .i64 i ∧ y = .int .i64 j ∧ j ≤ n ∧ i < n ∧ wr.rowIs g 77 c f ∧ DelAt es f i j ∧ w.grownBy wr (some g)) (fun _ y _ => n - (intOf y).toNat)
    case atStart => exact ⟨i0, i0 + 1, f0, rfl, by go_num, by omega, hi0n, HR0.out, HD0.out, World.grownBy.refl _ _⟩
    case round =>
      obtain ⟨i, j, f, rfl, rfl, hjn, hin, hrow, hd, hg⟩ := hrel
      have HROW : Hid (wr.rowIs g 77 c f) := hrow
      have HD : Hid (DelAt es f i j) := hd
      have HG : Hid (w.grownBy wr (some g)) := hg
      clear hrow hd hg HD0
      by_cases hlt : j < n
      · have hji : (j : Int) < (n : Int) := by omega
        have hnl := HN.out
        obtain ⟨e, hem⟩ : ∃ e, es[j]? = some e := ⟨_, List.getElem?_eq_getElem (by omega)⟩
        have HEM : Hid (es[j]? = some e) := hem
        have cj : wr.cell? ⟨g, j, none⟩ = some (.pointer (some ⟨e.p, 0, none⟩)) := by rw [HROW.out.cell (by omega), HD.out.high j e (Nat.le_refl _) hem]; rfl
        have ci : wr.cell? ⟨g, i, none⟩ = some (f i) := HROW.out.cell (by omega)
        have fi := HROW.out.frozen i
        have HC := HE.out j e wr hem HG.out
        have hii : (i : Int) < (n : Int) := by omega
        clear hem hnl
        cases hq : isE e with
        | false =>
          rw [hq] at HC
          have HQ : Hid (isE e = false) := hq
          clear hq
          go_wp2_with fail
          refine HC.mono ?_
          rintro r w2 ⟨rfl, rfl⟩
          go_wp2
          go_roundw
          case rel => exact ⟨i + 1, j + 1, _, by go_num, by go_num, by omega, by have := HD.out.le; omega, HROW.out.set i _, HD.out.keep HEM.out HQ.out, HG.out.trans (gb_set rfl)⟩
          case measure => simp [intOf]; omega
        | true =>
          rw [hq] at HC
          have HQ : Hid (isE e = true) := hq
          clear hq
          go_wp2_with fail
          refine HC.mono ?_
          rintro r w2 ⟨rfl, rfl⟩
          go_wp2
          go_roundw
          case rel => exact ⟨i, j + 1, f, rfl, by go_num, by omega, by omega, HROW.out, HD.out.skip HEM.out HQ.out, HG.out⟩
          case measure => simp [intOf]; omega
      · obtain rfl : j = n := by omega
        have hji : ¬ (j : Int) < (j : Int) := by omega
        have hs1 := fun w' => cut_low g j c i (by omega) hnc (by omega) w'
        have hs2 := fun w' => cut_high g j c i (by omega) w'
        have hcl : ∀ ty, (Builtin.clear_ #[75] ty #[.slice (some ⟨g, i, none⟩) (j - i) (c - i)]).run Tryz.prog wr = .ok (.tuple #[]) (wr.setCells g i (List.replicate (j - i) (.pointer none))) :=
          fun ty => Lib.run_clear_slice wr _ _ ty _ Tryz.underlying75 (fun w => by kernel_rfl) rfl rfl g i _ _ (by omega) (fun t ht => by rw [HROW.out.cell (by omega)]; rfl) (fun t ht => HROW.out.frozen _)
        have HG2 : Hid (w.grownBy (wr.setCells g i (List.replicate (j - i) (.pointer none))) (some g)) := HG.out.trans (gb_setCells g _ i wr)
        have HFIN : Hid (SOwn ptsE 77 (wr.setCells g i (List.replicate (j - i) (.pointer none))) base (.slice (some ⟨g, 0, none⟩) i c) i ((es.filter fun e => !isE e).map (·.p))) := by
          obtain ⟨f', hr', hf'⟩ := rowIs_setCells (List.replicate (j - i) (.pointer none)) i wr f HROW.out
          have ht : es.take j = es := List.take_of_length_le (by rw [HN.out]; exact Nat.le_refl _)
          have hl := HD.out.len
          have hlow := HD.out.low
          rw [ht] at hl hlow
          refine pts_own_of hr' (by rw [List.length_map]; exact hl) (fun k p hk => ?_) (by omega) HCM.out HB.out
          rw [List.getElem?_map, Option.map_eq_some_iff] at hk
          obtain ⟨e, he, rfl⟩ := hk
          rw [hf' k (by rw [← hl]; exact (List.getElem?_eq_some_iff.1 he).1)]
          exact hlow k e he
        generalize wr.setCells g i (List.replicate (j - i) (.pointer none)) = W2 at hcl HG2 HFIN
        go_wp2
        go_ret
        exact ⟨i, rfl, HFIN.out, HG2.out⟩
end Go.Proofs.YtpabbmiibehfjaaGreatDoor

