/- Several texts in one: Hk, Hl, Ho. -/
import Derived.Test.YtpabbmiibehfjaaGreatDoorGj
/- Package head: thin. -/
namespace Go.Proofs.YtpabbmiibehfjaaGreatDoor
open Go.RowKit Go.Maps
set_option linter.unusedVariables false
set_option maxRecDepth 20000

/-- One posting is gone. -/
theorem post_del {w w' : World} {base m2 n : Nat} {D : Lab → List Nat} {B : Nat → Prop} {F : Lab → Option Sl} {l : Lab} (hF : MapG posM w m2 n F ∧ B m2 ∧ (∀ l s, okK l → F l = some s → SOwn ptsE 77 w base (slV (some s)) s.2.1 (D l) ∧ B s.1) ∧ (∀ l, okK l → F l = none → D l = []) ∧ (∀ l l' s s', okK l → okK l' → l ≠ l' → F l = some s → F l' = some s' → s.1 ≠ s'.1))
    (hl : okK l) (hm : MapG posM w' m2 n (setK F l none)) (hk : Kept w w' (fun k => k = m2 ∨ (slV (F l)).ownBlock = some k)) :
    PostOut w base m2 n D B l [] w' := by
  obtain ⟨h1, h2, h3, h4, h5⟩ := hF
  have hown : ∀ k, (slV (F l)).ownBlock = some k → Typed w k 77 ∧ B k := by
    intro k hk
    obtain ⟨t, hFl, rfl⟩ := slV_own _ _ hk
    obtain ⟨h6, h7⟩ := h3 l t hl hFl
    exact ⟨sown_typed h6, h7⟩
  refine ⟨B, ⟨setK F l none, hm, h2, fun l' t hl' hF' => ?_, fun l' hl' hF' => ?_, fun a b s1 s2 ha hb hab h6 h7 => ?_⟩, hk.mono (fun k _ hX => ?_), fun k _ hb => hb, fun k hb => hb, fun k hb => .inl hb⟩
  · unfold setD
    by_cases e : l' = l
    · subst e
      rw [setK_same] at hF'
      cases hF'
    · rw [setK_other F _ e] at hF'
      rw [if_neg e]
      obtain ⟨h6, h7⟩ := h3 l' t hl' hF'
      refine ⟨sown_stay h6 (fun y hy => ?_), h7⟩
      cases hy
      refine hk.block _ (typed_lt (sown_typed h6)) (fun hX => ?_)
      rcases hX with hX | hX
      · exact Typed.map (sown_typed h6) (mapG_map posM h1) hX
      · obtain ⟨t2, hFl, e2⟩ := slV_own _ _ hX
        exact h5 l' l t t2 hl' hl e hF' hFl e2.symm
  · unfold setD
    by_cases e : l' = l
    · rw [if_pos e]
    · rw [setK_other F _ e] at hF'
      rw [if_neg e]
      exact h4 l' hl' hF'
  · by_cases ea : a = l
    · subst ea
      rw [setK_same] at h6
      cases h6
    · rw [setK_other F _ ea] at h6
      by_cases eb : b = l
      · subst eb
        rw [setK_same] at h7
        cases h7
      · rw [setK_other F _ eb] at h7
        exact h5 a b s1 s2 ha hb hab h6 h7
  · rcases hX with hX | hX
    · exact .inl hX
    · exact .inr (hown k hX)
set_option maxHeartbeats 8000000 in
theorem h_thin (base hb m1 m2 lim n : Nat) (D : Lab → List Nat) (B : Nat → Prop) (es : List Ent) (l : Lab) (w : World) (hrow : HRow w hb m1 m2 lim) (h : PostIs w base m2 n D B) (hD : D l = es.map (·.p)) (hne : es ≠ []) (he : ∀ e ∈ es, EntIs w base e) (hl : okK l) (hn : n < maxLen) (hz : es.length ≤ 4194303) :
    Calls Tryz.prog 69 #[.pointer (some ⟨hb, 0, none⟩), .agg #[.string l.1, .string l.2]] w fun e w' => e = .returned (.tuple #[]) ∧ PostOut w base m2 (n + 1) D B l ((es.filter fun e => !isE e).map (·.p)) w' := by
  obtain ⟨F, hF⟩ := h
  have hF0 := hF
  obtain ⟨hm, hBm, h3, h4, h5⟩ := hF
  obtain ⟨_, c1, _⟩ := hrow.cells
  obtain ⟨l1, l2⟩ := l
  obtain ⟨⟨g, L, c⟩, hFl⟩ : ∃ s, F (l1, l2) = some s := by
    cases hFl : F (l1, l2) with
    | none => have := h4 _ hl hFl; rw [hD] at this; exact absurd (by simpa using this) hne
    | some s => exact ⟨s, rfl⟩
  have hown : SOwn ptsE 77 w base (.slice (some ⟨g, 0, none⟩) L c) L (es.map (·.p)) := by rw [← hD]; exact (h3 _ _ hl hFl).1
  have hL : es.length = L := by have := hown.len; rwa [List.length_map] at this
  have hgm : g ≠ m2 := Typed.map (sown_typed hown) (mapG_map posM hm)
  have hgh : g ≠ hb := fun e => Typed.ne (sown_typed hown) hrow.typed (by decide) e
  obtain ⟨W, eW⟩ : ∃ W, W = w.alloc (.cells #[.string l1, .string l2] 62) := ⟨_, rfl⟩
  have hgW : w.grownBy W none := by rw [eW]; exact World.grownBy_alloc w _ none
  have HGW : Hid (w.grownBy W.drew none) := gb_drew hgW
  have k0 : W.cell? ⟨w.heap.size, 0, none⟩ = some (.string l1) := by rw [eW]; exact (box2_cells w (l1, l2)).1
  have k1 : W.cell? ⟨w.heap.size, 1, none⟩ = some (.string l2) := by rw [eW]; exact (box2_cells w (l1, l2)).2
  have c1W : W.cell? ⟨hb, 1, none⟩ = some (.map (some m2)) := hgW.cell c1 (by simp)
  have hlk : (Instr.lookup 64 (.map (some m2)) (.agg #[.string l1, .string l2]) false).run Tryz.prog W.drew = .ok (.slice (some ⟨g, 0, none⟩) L c) W.drew := by
    have := mapG_look posM (mapG_kept posM hm HGW.out (by simp)) (l1, l2) hl
    rw [hFl] at this
    exact this
  have HDL : Hid (Calls Tryz.prog 80 #[.slice (some ⟨g, 0, none⟩) L c, .func (.func 68) #[] #[]] W.drew fun e w' => ∃ m, e = .returned (.slice (some ⟨g, 0, none⟩) m c) ∧ SOwn ptsE 77 w' base (.slice (some ⟨g, 0, none⟩) m c) m ((es.filter fun e => !isE e).map (·.p)) ∧ W.drew.grownBy w' (some g)) :=
    l_delete base es g L c W.drew (SOwn.kept hown HGW.out (by simp [Value.ownBlock])) (by omega) (fun e hm => (he e hm).kept HGW.out)
  have hgl : g < w.heap.size := typed_lt (sown_typed hown)
  have HCL : Hid (∀ w', W.drew.grownBy w' (some g) → w'.cell? ⟨hb, 1, none⟩ = some (.map (some m2)) ∧ w'.cell? ⟨w.heap.size, 0, none⟩ = some (.string l1) ∧ w'.cell? ⟨w.heap.size, 1, none⟩ = some (.string l2)) := fun w' hg => ⟨hg.cell c1W (by simpa using Ne.symm hgh), hg.cell k0 (by simp; omega), hg.cell k1 (by simp; omega)⟩
  have HKP : ∀ w2 w3, W.drew.grownBy w2 (some g) → w2.grownBy w3 (some m2) → Kept w w3 (fun k => k = m2 ∨ (slV (F (l1, l2))).ownBlock = some k) := fun w2 w3 g2 g3 => by
    rw [hFl]
    exact ((Kept.of HGW.out (X := fun k => k = m2 ∨ (slV (some (g, L, c))).ownBlock = some k) (by simp)).trans (Kept.of g2 (X := fun k => k = m2 ∨ (slV (some (g, L, c))).ownBlock = some k) (fun k hk => .inr hk)) (fun k _ h => h)).trans (Kept.of g3 (X := fun k => k = m2 ∨ (slV (some (g, L, c))).ownBlock = some k) (fun k hk => .inl (Option.some.inj hk).symm)) (fun k _ h => h)
  have HM2 : ∀ w2, W.drew.grownBy w2 (some g) → MapG posM w2 m2 n F := fun w2 g2 => mapG_kept posM (mapG_kept posM hm HGW.out (by simp)) g2 (fun e => hgm (Option.some.inj e).symm)
  have HDel : Hid (∀ w2, W.drew.grownBy w2 (some g) → (es.filter fun e => !isE e) = [] → ∃ w3, (∀ ty, (Builtin.delete_ #[64, 62] ty #[.map (some m2), .agg #[.string l1, .string l2]]).run Tryz.prog w2.drew = .ok (.tuple #[]) w3) ∧ PostOut w base m2 (n + 1) D B (l1, l2) ((es.filter fun e => !isE e).map (·.p)) w3 ∧ w2.grownBy w3 (some m2)) := by
    intro w2 g2 hnil
    have g2' : W.drew.grownBy w2.drew (some g) := gb_drew g2
    obtain ⟨w3, hrun, hm3, hg3⟩ := mapG_del posM (HM2 _ g2') (l1, l2) hl 0
    refine ⟨w3, fun ty => ?_, ?_, ?_⟩
    · obtain ⟨w3', hrun', _, _⟩ := mapG_del posM (HM2 _ g2') (l1, l2) hl ty
      have e : (Builtin.delete_ #[64, 62] ty #[.map (some m2), .agg #[.string l1, .string l2]]).run Tryz.prog w2.drew = (Builtin.delete_ #[64, 62] 0 #[.map (some m2), .agg #[.string l1, .string l2]]).run Tryz.prog w2.drew := by rfl
      rw [e]
      exact hrun
    · rw [hnil]
      obtain ⟨B', h6, h7⟩ := post_del hF0 hl hm3 (HKP _ _ g2' hg3)
      exact ⟨B', h6.mono (Nat.le_succ _) (fun k h => h), h7⟩
    · exact ⟨hg3.os, hg3.tape, hg3.output, hg3.size, hg3.block⟩
  have HPut : Hid (∀ w2 m, W.drew.grownBy w2 (some g) → SOwn ptsE 77 w2 base (.slice (some ⟨g, 0, none⟩) m c) m ((es.filter fun e => !isE e).map (·.p)) → ∃ w3, (Instr.mapUpdate 64 (.map (some m2)) (.agg #[.string l1, .string l2]) (.slice (some ⟨g, 0, none⟩) m c)).run Tryz.prog w2.drew = .ok () w3 ∧ PostOut w base m2 (n + 1) D B (l1, l2) ((es.filter fun e => !isE e).map (·.p)) w3 ∧ w2.grownBy w3 (some m2)) := by
    intro w2 m g2 ho2
    have g2' : W.drew.grownBy w2.drew (some g) := gb_drew g2
    obtain ⟨w3, hrun, hm3, hg3⟩ := mapG_put posM (HM2 _ g2') (l1, l2) hl hn (g, m, c)
    refine ⟨w3, hrun, ?_, ⟨hg3.os, hg3.tape, hg3.output, hg3.size, hg3.block⟩⟩
    refine post_put (s := (g, m, c)) hF0 hl hm3 (SOwn.kept (w := w2.drew) ho2 hg3 (.inr (by simpa [slV, Value.ownBlock] using hgm))) (HKP _ _ g2' hg3) (.inl ?_)
    rw [hFl]
    rfl
  have HLN : Hid (∀ (w2 : World) m, SOwn ptsE 77 w2 base (.slice (some ⟨g, 0, none⟩) m c) m ((es.filter fun e => !isE e).map (·.p)) → m = 0 → (es.filter fun e => !isE e) = []) := fun w2 m h0 h1 => by
    have := h0.len
    rw [h1] at this
    simpa using this
  generalize (es.filter fun e => !isE e) = fs at HDL HDel HPut HLN ⊢
  clear hF0 hm hBm h3 h4 h5 hrow hD he hl hn hL hown hgW hgl hFl hne hgm hgh HKP HM2 c1
  subst eW
  go_enter Tryz.func69, Tryz.ntmps69
  go_wp2
  generalize w.alloc (.cells #[.string l1, .string l2] 62) = W at HGW k0 k1 c1W hlk HDL HCL HDel HPut ⊢
  go_region_held3 (fun X => X.cell? ⟨hb, 1, none⟩ = some (.map (some m2)) ∧ X.cell? ⟨w.heap.size, 0, none⟩ = some (.string l1) ∧ X.cell? ⟨w.heap.size, 1, none⟩ = some (.string l2)) (go_keep) (first
    | (go_at_call 80; refine HDL.out.mono ?_; rintro e w2 ⟨m, rfl, ho2, hg2⟩; have HO2 : Hid (SOwn ptsE 77 w2 base (.slice (some ⟨g, 0, none⟩) m c) m (fs.map (·.p))) := ho2; have HG2 : Hid (W.drew.grownBy w2 (some g)) := hg2; obtain ⟨d1, d2, d3⟩ := HCL.out _ hg2; clear ho2 hg2))
  all_goals (
    by_cases h0 : m = 0
    · obtain ⟨w3, hdel, hpo, hg3⟩ := HDel.out _ HG2.out (HLN.out _ m HO2.out h0)
      have HPO : Hid (PostOut w base m2 (n + 1) D B (l1, l2) (fs.map (·.p)) w3) := hpo
      subst h0
      clear hpo hg3
      go_wp2
      go_region
      all_goals go_wp2
      all_goals ((try simp only [Exit.inBlock, Exit.then]); refine bodyPost_ret (results_none rfl _ _ _) rfl ?_)
      all_goals exact ⟨rfl, HPO.out⟩
    · obtain ⟨w3, hput, hpo, hg3⟩ := HPut.out _ m HG2.out HO2.out
      have HPO : Hid (PostOut w base m2 (n + 1) D B (l1, l2) (fs.map (·.p)) w3) := hpo
      have q0 : ((m : Int) == 0) = false := by simp; omega
      clear hpo hg3
      go_wp2
      go_region
      all_goals go_wp2
      all_goals go_end0
      all_goals exact ⟨rfl, HPO.out⟩)
end Go.Proofs.YtpabbmiibehfjaaGreatDoor

/- Package head: a whole head in memory. -/
namespace Go.Proofs.YtpabbmiibehfjaaGreatDoor
open Go.RowKit Go.Maps
set_option linter.unusedVariables false
set_option maxRecDepth 20000

def serF (es : List Ent) (s : ByteArray) : Option Nat := (es.find? fun e => decide (keyS e.ls = s)).map (·.p)
def posts (l : Lab) (e : Ent) : Bool := decide (l = noLab) || e.ls.any fun x => decide (x = l)
theorem posts_iff (l : Lab) (e : Ent) : posts l e = true ↔ l = noLab ∨ l ∈ e.ls := by
  unfold posts
  simp
theorem find_congr {α : Type} {f g : α → Bool} : ∀ (l : List α), (∀ x ∈ l, f x = g x) → l.find? f = l.find? g
  | [], _ => rfl
  | x :: r, h => by
    have h1 := h x (by simp)
    have h2 := find_congr r (fun y hy => h y (by simp [hy]))
    cases hx : g x with
    | true => rw [List.find?_cons_of_pos (by rw [h1, hx]), List.find?_cons_of_pos hx]
    | false => rw [List.find?_cons_of_neg (by rw [h1, hx]; simp), List.find?_cons_of_neg (by rw [hx]; simp), h2]
def postD (es : List Ent) (l : Lab) : List Nat := (es.filter (posts l)).map (·.p)
/-- A head in block hb: its series es, in order; its blocks are among B. -/
structure HeadIs (w : World) (base hb m1 m2 lim n : Nat) (es : List Ent) (B : Nat → Prop) : Prop where
  row : HRow w hb m1 m2 lim
  ser : MapG serM w m1 n (serF es)
  post : PostIs w base m2 n (postD es) B
  ent : ∀ e ∈ es, EntIs w base e
  ok : ∀ e ∈ es, checkR e.ls = 0
  sets : Sets (es.map (·.ls))
  apart : es.Pairwise fun e f => e.p ≠ f.p ∧ ∀ x y, e.pa = some x → f.pa = some y → x.block ≠ y.block
  maps : m1 ≠ m2
  own : B hb ∧ B m1 ∧ ∀ e ∈ es, B e.p ∧ ∀ x, e.pa = some x → B x.block
  lt : ∀ k, B k → base ≤ k ∧ k < w.heap.size
  base : base ≤ w.heap.size
  lab : ∀ e ∈ es, ∀ x, e.la = some x → B x.block
theorem HeadIs.kept {w w' : World} {base hb m1 m2 lim n : Nat} {es : List Ent} {B : Nat → Prop} (h : HeadIs w base hb m1 m2 lim n es B) (hg : w.grownBy w' none) : HeadIs w' base hb m1 m2 lim n es B :=
  ⟨h.row.kept hg, mapG_kept serM h.ser hg (by simp), h.post.kept hg, fun e he => (h.ent e he).kept hg, h.ok, h.sets, h.apart, h.maps, h.own, fun k hk => ⟨(h.lt k hk).1, Nat.lt_of_lt_of_le (h.lt k hk).2 hg.size⟩, Nat.le_trans h.base hg.size, h.lab⟩
/-- Blocks that are not the head's have turned: it stays. -/
theorem HeadIs.others {w w' : World} {base hb m1 m2 lim n : Nat} {es : List Ent} {B X : Nat → Prop} (h : HeadIs w base hb m1 m2 lim n es B) (hk : Kept w w' X) (hX : ∀ k, X k → ¬ B k) (hL : ∀ e ∈ es, ∀ x, e.la = some x → ¬ X x.block) : HeadIs w' base hb m1 m2 lim n es B := by
  have st : ∀ k, B k → w'.heap[k]? = w.heap[k]? := fun k hb => hk.block k (h.lt k hb).2 (fun x => hX k x hb)
  refine ⟨h.row.stay (st _ h.own.1), mapG_stay serM h.ser (st _ h.own.2.1), h.post.stay (fun k hlt hp => ?_), fun e he => (h.ent e he).stay (st _ (h.own.2.2 e he).1) (fun x hx => ?_) (fun x hx => st _ ((h.own.2.2 e he).2 x hx)), h.ok, h.sets, h.apart, h.maps, h.own, fun k hb => ⟨(h.lt k hb).1, Nat.lt_of_lt_of_le (h.lt k hb).2 hk.size⟩, Nat.le_trans h.base hk.size, h.lab⟩
  · rcases hp with hp | hp
    · obtain ⟨F, _, hm, _⟩ := h.post
      rw [hp]
      exact st _ hm
    · exact st _ hp.2
  · exact hk.block _ ((h.ent e he).lt.2.1 x hx).2 (hL e he x hx)
/-- From one world to another: postings have turned. -/
structure PostStep (w w' : World) (m2 : Nat) (B B' : Nat → Prop) : Prop where
  kept : Kept w w' (PB w m2 B)
  old : ∀ k, k < w.heap.size → B' k → B k
  more : ∀ k, B k → B' k
  lt : ∀ k, B' k → B k ∨ k < w'.heap.size
theorem PostStep.refl (w : World) (m2 : Nat) (B : Nat → Prop) : PostStep w w m2 B B := ⟨Kept.refl _ _, fun k _ h => h, fun k h => h, fun k h => .inl h⟩
theorem PostStep.grown {w w' : World} (m2 : Nat) (B : Nat → Prop) (h : w.grownBy w' none) : PostStep w w' m2 B B := ⟨Kept.of h (by simp), fun k _ h => h, fun k h => h, fun k h => .inl h⟩
theorem PostStep.trans {w w1 w2 : World} {m2 : Nat} {B B1 B2 : Nat → Prop} (h : PostStep w w1 m2 B B1) (h' : PostStep w1 w2 m2 B1 B2) : PostStep w w2 m2 B B2 := by
  refine ⟨h.kept.trans h'.kept (fun k hk hX => ?_), fun k hk hb => h.old k hk (h'.old k (Nat.lt_of_lt_of_le hk h.kept.size) hb), fun k hb => h'.more k (h.more k hb), fun k hb => ?_⟩
  · rcases hX with hX | ⟨hT, hB⟩
    · exact .inl hX
    · by_cases hp : PB w m2 B k
      · exact hp
      · exact .inr ⟨typed_stay hT (h.kept.block k hk hp).symm, h.old k hk hB⟩
  · rcases h'.lt k hb with hb | hb
    · rcases h.lt k hb with hb | hb
      · exact .inl hb
      · exact .inr (Nat.lt_of_lt_of_le hb h'.kept.size)
    · exact .inr hb
theorem PostOut.step {w w' : World} {base m2 n : Nat} {D : Lab → List Nat} {B : Nat → Prop} {l : Lab} {x : List Nat} (h : PostOut w base m2 n D B l x w') : ∃ B', PostIs w' base m2 n (setD D l x) B' ∧ PostStep w w' m2 B B' := by
  obtain ⟨B', h1, h2, h3, h4, h5⟩ := h
  exact ⟨B', h1, h2, h3, h4, h5⟩
/-- What is neither map m2 nor a row of pointers has stayed. -/
theorem PostStep.stay {w w' : World} {m2 : Nat} {B B' : Nat → Prop} (h : PostStep w w' m2 B B') (hm : IsMap w m2) {b : Nat} {t : TypeId} (hb : Typed w b t) (ht : t ≠ 77) : w'.heap[b]? = w.heap[b]? :=
  h.kept.block b (typed_lt hb) (fun hX => by
    rcases hX with hX | hX
    · exact Typed.map hb hm hX
    · exact Typed.ne hb hX.1 ht rfl)
theorem PostStep.entry {w w' : World} {m2 base : Nat} {B B' : Nat → Prop} {e : Ent} (h : PostStep w w' m2 B B') (hm : IsMap w m2) (he : EntIs w base e) : EntIs w' base e := by
  refine he.stay (h.stay hm (rowIs_typed he.row) (by decide)) (fun x hx => ?_) (fun x hx => ?_)
  · have := he.lab
    rw [hx] at this
    exact h.stay hm (sown_typed this) (by decide)
  · have := he.pts
    rw [hx] at this
    exact h.stay hm (sown_typed this) (by decide)
theorem PostStep.row {w w' : World} {m2 hb m1 lim : Nat} {B B' : Nat → Prop} (h : PostStep w w' m2 B B') (hm : IsMap w m2) (hr : HRow w hb m1 m2 lim) : HRow w' hb m1 m2 lim := hr.stay (h.stay hm hr.typed (by decide))
theorem PostStep.map {w w' : World} {m1 m2 n : Nat} {B B' : Nat → Prop} {F : ByteArray → Option Nat} (h : PostStep w w' m2 B B') (hm : MapG serM w m1 n F) (hne : m1 ≠ m2) : MapG serM w' m1 n F := by
  refine mapG_stay serM hm (h.kept.block m1 (mapG_lt serM hm) (fun hX => ?_))
  rcases hX with hX | hX
  · exact hne hX
  · exact Typed.map hX.1 (mapG_map serM hm) rfl

/-! Where a new series stands. -/
def ins (es : List Ent) (e : Ent) : List Ent := es.take (insAt (es.map (·.ls)) e.ls) ++ e :: es.drop (insAt (es.map (·.ls)) e.ls)
theorem ins_mem {es : List Ent} {e f : Ent} : f ∈ ins es e ↔ f = e ∨ f ∈ es := by
  unfold ins
  rw [List.mem_append, List.mem_cons]
  conv => rhs; rw [← List.take_append_drop (insAt (es.map (·.ls)) e.ls) es, List.mem_append]
  constructor
  · rintro (h | h | h)
    · exact .inr (.inl h)
    · exact .inl h
    · exact .inr (.inr h)
  · rintro (h | h | h)
    · exact .inr (.inl h)
    · exact .inl h
    · exact .inr (.inr h)
theorem ins_sets {es : List Ent} {e : Ent} (h : Sets (es.map (·.ls))) (hn : e.ls ∉ es.map (·.ls)) : Sets ((ins es e).map (·.ls)) := by
  unfold ins
  rw [List.map_append, List.map_cons, List.map_take, List.map_drop]
  exact sets_ins h hn
theorem split_at {es : List Ent} (h : Sets (es.map (·.ls))) (ls : List Lab) : es.take (insAt (es.map (·.ls)) ls) = es.filter (fun e => decide (cmpR e.ls ls < 0)) ∧ es.drop (insAt (es.map (·.ls)) ls) = es.filter (fun e => !decide (cmpR e.ls ls < 0)) := by
  have hi : insAt (es.map (·.ls)) ls = es.countP (fun e => decide (cmpR e.ls ls < 0)) := by
    unfold insAt
    rw [List.countP_map]
    rfl
  rw [hi]
  refine take_place _ es (fun i j hij a b ha hb hc => ?_)
  simp only [decide_eq_true_eq] at hc ⊢
  exact sets_mono h ls i j hij a.ls b.ls (by rw [List.getElem?_map, ha]; rfl) (by rw [List.getElem?_map, hb]; rfl) hc
theorem sets_filter {es : List Ent} (h : Sets (es.map (·.ls))) (g : Ent → Bool) : Sets ((es.filter g).map (·.ls)) := by
  unfold Sets at h ⊢
  rw [List.pairwise_map] at h ⊢
  exact h.filter g
theorem ins_filter {es : List Ent} (h : Sets (es.map (·.ls))) (e : Ent) (g : Ent → Bool) : (ins es e).filter g = if g e then ins (es.filter g) e else es.filter g := by
  have h1 := split_at h e.ls
  have h2 := split_at (sets_filter h g) e.ls
  unfold ins
  rw [List.filter_append, List.filter_cons, h1.1, h1.2, h2.1, h2.2, List.filter_filter, List.filter_filter, List.filter_filter, List.filter_filter]
  have c1 : (fun e' => g e' && decide (cmpR e'.ls e.ls < 0)) = fun e' => decide (cmpR e'.ls e.ls < 0) && g e' := by funext x; exact Bool.and_comm _ _
  have c2 : (fun e' => g e' && !decide (cmpR e'.ls e.ls < 0)) = fun e' => !decide (cmpR e'.ls e.ls < 0) && g e' := by funext x; exact Bool.and_comm _ _
  rw [c1, c2]
  split
  · rfl
  · have := h2
    rw [List.filter_filter, List.filter_filter] at this
    rw [← this.1, ← this.2, List.take_append_drop]
theorem ins_map {es : List Ent} (e : Ent) : (ins es e).map (·.p) = (es.map (·.p)).take (insAt (es.map (·.ls)) e.ls) ++ [e.p] ++ (es.map (·.p)).drop (insAt (es.map (·.ls)) e.ls) := by
  unfold ins
  rw [List.map_append, List.map_cons, List.map_take, List.map_drop]
  simp
theorem post_ins {es : List Ent} (h : Sets (es.map (·.ls))) (e : Ent) (l : Lab) (hp : posts l e = true) : postD (ins es e) l = (postD es l).take (insAt ((es.filter (posts l)).map (·.ls)) e.ls) ++ [e.p] ++ (postD es l).drop (insAt ((es.filter (posts l)).map (·.ls)) e.ls) := by
  unfold postD
  rw [ins_filter h, if_pos hp, ins_map]
theorem post_not {es : List Ent} (h : Sets (es.map (·.ls))) (e : Ent) (l : Lab) (hp : posts l e = false) : postD (ins es e) l = postD es l := by
  unfold postD
  rw [ins_filter h, if_neg (by rw [hp]; simp)]
theorem ser_ins {es : List Ent} {e : Ent} (hok : ∀ f ∈ es, checkR f.ls = 0) (he : checkR e.ls = 0) (hn : e.ls ∉ es.map (·.ls)) : serF (ins es e) = setK (serF es) (keyS e.ls) (some e.p) := by
  funext s
  unfold setK
  have hfind : ∀ l : List Ent, (∀ f ∈ l, f ∈ es) → l.find? (fun f => decide (keyS f.ls = keyS e.ls)) = none := by
    intro l hl
    rw [List.find?_eq_none]
    intro f hf hk
    simp only [decide_eq_true_eq] at hk
    have := keyS_inj (hok f (hl f hf)) he hk
    exact hn (List.mem_map.2 ⟨f, hl f hf, this⟩)
  by_cases hs : s = keyS e.ls
  · rw [if_pos hs]
    subst hs
    unfold serF ins
    rw [List.find?_append, hfind _ (fun f hf => List.mem_of_mem_take hf)]
    simp
  · rw [if_neg hs]
    unfold serF ins
    rw [List.find?_append, List.find?_cons_of_neg (by simpa using fun h => hs h.symm), ← List.find?_append, List.take_append_drop]
theorem ser_find {es : List Ent} {ls : List Lab} (hok : ∀ f ∈ es, checkR f.ls = 0) (hl : checkR ls = 0) : serF es (keyS ls) = (es.find? fun e => decide (e.ls = ls)).map (·.p) := by
  unfold serF
  congr 1
  refine find_congr es (fun e he => ?_)
  rw [Bool.eq_iff_iff]
  simp only [decide_eq_true_eq]
  exact ⟨fun h => keyS_inj (hok e he) hl h, fun h => by rw [h]⟩
end Go.Proofs.YtpabbmiibehfjaaGreatDoor

/- Package head: all, find, enter. -/
namespace Go.Proofs.YtpabbmiibehfjaaGreatDoor
open Go.RowKit Go.Maps
set_option linter.unusedVariables false
set_option maxRecDepth 20000

theorem post_all (es : List Ent) : postD es noLab = es.map (·.p) := by
  unfold postD
  rw [List.filter_eq_self.2 (fun e _ => (posts_iff noLab e).2 (.inl rfl))]
theorem okK_no : okK noLab := ⟨Nat.zero_le _, Nat.zero_le _⟩
theorem PostIs.at {w : World} {base m2 n : Nat} {D : Lab → List Nat} {B : Nat → Prop} (h : PostIs w base m2 n D B) (l : Lab) (hl : okK l) : ∃ a c, (Instr.lookup 64 (.map (some m2)) (.agg #[.string l.1, .string l.2]) false).run Tryz.prog w = .ok (.slice a (D l).length c) w ∧ SRd ptsE w a (D l) ∧ (a = none → c = 0) ∧ (D l).length ≤ c := by
  obtain ⟨F, h1, _, h3, h4, _⟩ := h
  have hlk := mapG_look posM h1 l hl
  cases hF : F l with
  | none =>
    rw [hF] at hlk
    rw [h4 l hl hF]
    exact ⟨none, 0, hlk, .inl rfl, fun _ => rfl, Nat.le_refl _⟩
  | some s =>
    rw [hF] at hlk
    obtain ⟨h6, _⟩ := h3 l s hl hF
    have hlen := h6.len
    rw [hlen]
    exact ⟨_, s.2.2, hlk, SOwn.rd h6, by simp, (sown_cap h6).1⟩
theorem h_all (base hb m1 m2 lim n : Nat) (es : List Ent) (B : Nat → Prop) (w : World) (h : HeadIs w base hb m1 m2 lim n es B) :
    Calls Tryz.prog 44 #[.pointer (some ⟨hb, 0, none⟩)] w fun e w' => ∃ a c, e = .returned (.slice a es.length c) ∧ SRd ptsE w a (es.map (·.p)) ∧ w = w' := by
  obtain ⟨_, c1, _⟩ := h.row.cells
  obtain ⟨a, c, hlk, hr, _⟩ := h.post.at noLab okK_no
  rw [post_all, List.length_map] at hlk
  rw [post_all] at hr
  have HR : Hid (SRd ptsE w a (es.map (·.p))) := hr
  have hlk' : (Instr.lookup 64 (.map (some m2)) (.agg #[.string ⟨#[]⟩, .string ⟨#[]⟩]) false).run Tryz.prog w = .ok (.slice a es.length c) w := hlk
  generalize es.length = L at hlk' ⊢
  clear h hr hlk
  go_enter Tryz.func44, Tryz.ntmps44
  go_wp2
  go_ret
  exact ⟨a, c, rfl, HR.out, rfl⟩
theorem h_find (base hb m1 m2 lim n : Nat) (es : List Ent) (B : Nat → Prop) (a : Option Addr) (L c : Nat) (ls : List Lab) (w : World) (h : HeadIs w base hb m1 m2 lim n es B) (hr : SRd labE w a ls) (hL : ls.length = L) (hok : checkR ls = 0) :
    Calls Tryz.prog 42 #[.pointer (some ⟨hb, 0, none⟩), .slice a L c] w fun e w' => e = .returned (ptrV ((es.find? fun e => decide (e.ls = ls)).map (·.p))) ∧ w.grownBy w' none := by
  obtain ⟨c0, _, _⟩ := h.row.cells
  have hgd : w.grownBy w.drew none := gb_drew (World.grownBy.refl _ _)
  have HK : Hid (Calls Tryz.prog 64 #[.slice a L c] w.drew fun e w' => e = .returned (.string (keyS ls)) ∧ w.drew.grownBy w' none) := h_key a L c ls w.drew (hr.grown hgd (by simp)) hL hok
  have HLK : Hid (∀ w1, w.grownBy w1 none → (Instr.lookup 63 (.map (some m1)) (.string (keyS ls)) false).run Tryz.prog w1 = .ok (ptrV ((es.find? fun e => decide (e.ls = ls)).map (·.p))) w1) := fun w1 hg => by
    rw [← ser_find h.ok hok]
    exact mapG_look serM (mapG_kept serM h.ser hg (by simp)) (keyS ls) (keyS_size hok)
  have HGD : Hid (w.grownBy w.drew none) := hgd
  generalize ptrV ((es.find? fun e => decide (e.ls = ls)).map (·.p)) = V at HLK ⊢
  generalize keyS ls = K at HK HLK
  clear h hr hL hok hgd
  go_enter Tryz.func42, Tryz.ntmps42
  go_wp2
  go_region_held3 (fun X => X.cell? ⟨hb, 0, none⟩ = some (.map (some m1))) (go_keep) (first
    | (go_at_call 64; refine HK.out.mono ?_; rintro e w1 ⟨rfl, hg1⟩; have HG1 : Hid (w.grownBy w1 none) := HGD.out.trans hg1; have c0' : w1.cell? ⟨hb, 0, none⟩ = some (.map (some m1)) := hg1.cell c0 (by simp); have hlk := HLK.out w1 HG1.out; clear hg1))
  all_goals go_wp2
  all_goals go_ret
  all_goals exact ⟨rfl, HG1.out⟩
end Go.Proofs.YtpabbmiibehfjaaGreatDoor

