/- Several texts in one: Hs, Ht, Hu. -/
import Derived.Test.YtpabbmiibehfjaaGreatDoorGl
/- Package head: fateIn, Fate. -/
namespace Go.Proofs.YtpabbmiibehfjaaGreatDoor
open Go.RowKit Go.Maps
set_option linter.unusedVariables false
set_option maxRecDepth 20000

def fateL (q : Pt) (T V : Int) : Int := if q.1 < T then 1 else if T < q.1 then 3 else if V = q.2 then 2 else 4
def fateV (lim N : Nat) (o : Option (List Pt)) (T V : Int) : Int :=
  match o with
  | none => if N = lim then 5 else 1
  | some ps => fateL (ps.getLastD (0, 0)) T V
set_option maxHeartbeats 2000000 in
theorem h_fateN (base hb m1 m2 lim n : Nat) (es : List Ent) (B : Nat → Prop) (x : Value) (T V : Int) (w : World) (h : HeadIs w base hb m1 m2 lim n es B) (hl : lim ≤ 4194304) (hz : es.length ≤ 4194303) :
    Calls Tryz.prog 41 #[.pointer (some ⟨hb, 0, none⟩), .pointer none, .agg #[x, .int .i64 T, .int .u64 V]] w fun e w' => e = .returned (.int .i64 (fateV lim es.length none T V)) ∧ w.grownBy w' none := by
  have H0 : Hid (HeadIs w base hb m1 m2 lim n es B) := h
  obtain ⟨W, eW⟩ : ∃ W, W = w.alloc (.cells #[x, .int .i64 T, .int .u64 V] 31) := ⟨_, rfl⟩
  have hgW : w.grownBy W none := by rw [eW]; exact World.grownBy_alloc w _ none
  have HGD : Hid (w.grownBy W.drew none) := gb_drew hgW
  have c2 : W.cell? ⟨hb, 2, none⟩ = some (.int .i64 lim) := hgW.cell h.row.cells.2.2 (by simp)
  have HA : Hid (Calls Tryz.prog 44 #[.pointer (some ⟨hb, 0, none⟩)] W.drew fun e w' => ∃ a c, e = .returned (.slice a es.length c) ∧ SRd ptsE W.drew a (es.map (·.p)) ∧ W.drew = w') := h_all base hb m1 m2 lim n es B W.drew (h.kept HGD.out)
  unfold fateV
  simp only
  generalize es.length = M at HA hz ⊢
  by_cases hM : M = lim
  · rw [if_pos hM]
    have q1 : ((M : Int) == (lim : Int)) = true := by simp; omega
    clear h hgW
    subst eW
    go_enter Tryz.func41, Tryz.ntmps41
    go_wp2
    generalize w.alloc (.cells #[x, .int .i64 T, .int .u64 V] 31) = W at HGD c2 HA ⊢
    go_region_held3 (fun X => X.cell? ⟨hb, 2, none⟩ = some (.int .i64 lim)) (go_keep) (first
      | (go_at_call 44; refine HA.out.mono ?_; rintro e w1 ⟨a, c, rfl, _, rfl⟩))
    all_goals go_wp2
    all_goals go_ret
    all_goals exact ⟨rfl, HGD.out⟩
  · rw [if_neg hM]
    have q1 : ((M : Int) == (lim : Int)) = false := by simp; omega
    clear h hgW
    subst eW
    go_enter Tryz.func41, Tryz.ntmps41
    go_wp2
    generalize w.alloc (.cells #[x, .int .i64 T, .int .u64 V] 31) = W at HGD c2 HA ⊢
    go_region_held3 (fun X => X.cell? ⟨hb, 2, none⟩ = some (.int .i64 lim)) (go_keep) (first
      | (go_at_call 44; refine HA.out.mono ?_; rintro e w1 ⟨a, c, rfl, _, rfl⟩))
    all_goals go_wp2
    all_goals go_ret
    all_goals exact ⟨rfl, HGD.out⟩
set_option maxHeartbeats 2000000 in
theorem h_fateS (base hb : Nat) (e : Ent) (x : Value) (T V : Int) (w : World) (h : EntIs w base e) (hne : e.ps ≠ []) (hz : e.ps.length ≤ 140737488355328) :
    Calls Tryz.prog 41 #[.pointer (some ⟨hb, 0, none⟩), .pointer (some ⟨e.p, 0, none⟩), .agg #[x, .int .i64 T, .int .u64 V]] w fun r w' => r = .returned (.int .i64 (fateL (e.ps.getLastD (0, 0)) T V)) ∧ w.grownBy w' none := by
  obtain ⟨W, eW⟩ : ∃ W, W = w.alloc (.cells #[x, .int .i64 T, .int .u64 V] 31) := ⟨_, rfl⟩
  have hgW : w.grownBy W none := by rw [eW]; exact World.grownBy_alloc w _ none
  have HGW : Hid (w.grownBy W none) := hgW
  have HLA : Hid (Calls Tryz.prog 49 #[.pointer (some ⟨e.p, 0, none⟩)] W fun r w' => r = .returned (.agg #[.int .i64 (e.ps.getLastD (0, 0)).1, .int .u64 (e.ps.getLastD (0, 0)).2]) ∧ W.grownBy w' none) := h_last base e W (h.kept hgW) hne hz
  have hbx : W.heap[w.heap.size]? = some (.cells #[x, .int .i64 T, .int .u64 V] 31) := by rw [eW]; exact heap_alloc_new w _
  have r1 : W.cell? ⟨w.heap.size, 1, none⟩ = some (.int .i64 T) := cell_of_row _ w.heap.size 1 _ 31 _ hbx
  have r2 : W.cell? ⟨w.heap.size, 2, none⟩ = some (.int .u64 V) := cell_of_row _ w.heap.size 2 _ 31 _ hbx
  unfold fateL
  generalize (e.ps.getLastD (0, 0)).1 = QT at HLA ⊢
  generalize (e.ps.getLastD (0, 0)).2 = QV at HLA ⊢
  generalize e.p = p at HLA ⊢
  clear h hne hz hgW hbx
  have HFIN : Hid (∀ w1 : World, W.grownBy w1 none → w.grownBy (w1.alloc (.cells #[.int .i64 QT, .int .u64 QV] 51)) none) := fun w1 h1 => (HGW.out.trans h1).trans (World.grownBy_alloc w1 _ none)
  by_cases h1 : QT < T
  · have q1 : decide (QT < T) = true := by simpa using h1
    rw [if_pos h1]
    subst eW
    go_enter Tryz.func41, Tryz.ntmps41
    go_wp2_with fail
    refine HLA.out.mono ?_
    rintro r w1 ⟨rfl, hg1⟩
    have d1 := hg1.cell r1 (by simp)
    have d2 := hg1.cell r2 (by simp)
    have HF := HFIN.out w1 hg1
    have e1 := (World.grownBy_alloc w1 (.cells #[.int .i64 QT, .int .u64 QV] 51) none).cell d1 (by simp)
    have e2 := (World.grownBy_alloc w1 (.cells #[.int .i64 QT, .int .u64 QV] 51) none).cell d2 (by simp)
    clear hg1
    go_wp2
    go_ret
    exact ⟨rfl, HF⟩
  · have q1 : decide (QT < T) = false := by simpa using h1
    rw [if_neg h1]
    by_cases h2 : T < QT
    · have q2 : decide (T < QT) = true := by simpa using h2
      rw [if_pos h2]
      subst eW
      go_enter Tryz.func41, Tryz.ntmps41
      go_wp2_with fail
      refine HLA.out.mono ?_
      rintro r w1 ⟨rfl, hg1⟩
      have d1 := hg1.cell r1 (by simp)
      have d2 := hg1.cell r2 (by simp)
      have HF := HFIN.out w1 hg1
      have e1 := (World.grownBy_alloc w1 (.cells #[.int .i64 QT, .int .u64 QV] 51) none).cell d1 (by simp)
      have e2 := (World.grownBy_alloc w1 (.cells #[.int .i64 QT, .int .u64 QV] 51) none).cell d2 (by simp)
      clear hg1
      go_wp2
      go_ret
      exact ⟨rfl, HF⟩
    · have q2 : decide (T < QT) = false := by simpa using h2
      rw [if_neg h2]
      by_cases h3 : V = QV
      · have q3 : (V != QV) = false := by simpa using h3
        rw [if_pos h3]
        clear h3
        subst eW
        go_enter Tryz.func41, Tryz.ntmps41
        go_wp2_with fail
        refine HLA.out.mono ?_
        rintro r w1 ⟨rfl, hg1⟩
        have d1 := hg1.cell r1 (by simp)
        have d2 := hg1.cell r2 (by simp)
        have HF := HFIN.out w1 hg1
        have e1 := (World.grownBy_alloc w1 (.cells #[.int .i64 QT, .int .u64 QV] 51) none).cell d1 (by simp)
        have e2 := (World.grownBy_alloc w1 (.cells #[.int .i64 QT, .int .u64 QV] 51) none).cell d2 (by simp)
        clear hg1
        go_wp2
        go_ret
        exact ⟨rfl, HF⟩
      · have q3 : (V != QV) = true := by simpa using h3
        rw [if_neg h3]
        subst eW
        go_enter Tryz.func41, Tryz.ntmps41
        go_wp2_with fail
        refine HLA.out.mono ?_
        rintro r w1 ⟨rfl, hg1⟩
        have d1 := hg1.cell r1 (by simp)
        have d2 := hg1.cell r2 (by simp)
        have HF := HFIN.out w1 hg1
        have e1 := (World.grownBy_alloc w1 (.cells #[.int .i64 QT, .int .u64 QV] 51) none).cell d1 (by simp)
        have e2 := (World.grownBy_alloc w1 (.cells #[.int .i64 QT, .int .u64 QV] 51) none).cell d2 (by simp)
        clear hg1
        go_wp2
        go_ret
        exact ⟨rfl, HF⟩
end Go.Proofs.YtpabbmiibehfjaaGreatDoor

/- Package head: a head as its callers see it; Fate. -/
namespace Go.Proofs.YtpabbmiibehfjaaGreatDoor
open Go.RowKit Go.Maps
set_option linter.unusedVariables false
set_option maxRecDepth 20000

theorem serF_congr {es es' : List Ent} (h : es.map (fun e => (e.ls, e.p)) = es'.map fun e => (e.ls, e.p)) : serF es = serF es' := by
  funext s
  have key : ∀ l : List Ent, serF l s = ((l.map fun e => (e.ls, e.p)).find? fun x => decide (keyS x.1 = s)).map (·.2) := by
    intro l
    unfold serF
    rw [List.find?_map, Option.map_map]
    rfl
  rw [key, key, h]
theorem postD_congr {es es' : List Ent} (h : es.map (fun e => (e.ls, e.p)) = es'.map fun e => (e.ls, e.p)) : postD es = postD es' := by
  funext l
  have key : ∀ x : List Ent, postD x l = ((x.map fun e => (e.ls, e.p)).filter fun y => decide (l = noLab) || y.1.any fun z => decide (z = l)).map (·.2) := by
    intro x
    unfold postD
    rw [List.filter_map, List.map_map]
    rfl
  rw [key, key, h]
/-- One series' points have turned, in their own row or a new one. -/
theorem HeadIs.upd3 {w w' : World} {base hb m1 m2 lim n : Nat} {es1 es2 : List Ent} {e e' : Ent} {B : Nat → Prop} (h : HeadIs w base hb m1 m2 lim n (es1 ++ e :: es2) B) (hk : Kept w w' (fun k => k = e.p ∨ ∃ x, e.pa = some x ∧ k = x.block)) (he : EntIs w' base e') (hp : e'.p = e.p) (hls : e'.ls = e.ls)
    (hpa : ∀ x, e'.pa = some x → (∃ y, e.pa = some y ∧ x.block = y.block) ∨ w.heap.size ≤ x.block) (hla : e'.la = e.la := by rfl) :
    ∃ B', HeadIs w' base hb m1 m2 lim n (es1 ++ e' :: es2) B' ∧ Step w w' B B' ∧ ∀ k, B' k → B k ∨ ∃ x, e'.pa = some x ∧ k = x.block := by
  have hee : EntIs w base e := h.ent e (by simp)
  have hT : ∀ x, e.pa = some x → Typed w x.block 51 := fun x hx => by have h6 := hee.pts; rw [hx] at h6; exact sown_typed h6
  have hTp : Typed w e.p 49 := rowIs_typed hee.row
  have st : ∀ b t, Typed w b t → t ≠ 49 → t ≠ 51 → w'.heap[b]? = w.heap[b]? := fun b t hb h1 h2 => hk.block b (typed_lt hb) (fun hX => by
    rcases hX with hX | ⟨x, hx, hX⟩
    · exact Typed.ne hb hTp h1 hX
    · exact Typed.ne hb (hT x hx) h2 hX)
  have stm : ∀ b, IsMap w b → b < w.heap.size → w'.heap[b]? = w.heap[b]? := fun b hb hl => hk.block b hl (fun hX => by
    rcases hX with hX | ⟨x, hx, hX⟩
    · exact Typed.map hTp hb hX.symm
    · exact Typed.map (hT x hx) hb hX.symm)
  have hcg : (es1 ++ e' :: es2).map (fun e => (e.ls, e.p)) = (es1 ++ e :: es2).map fun e => (e.ls, e.p) := by
    simp only [List.map_append, List.map_cons, hp, hls]
  have hap := List.pairwise_append.1 h.apart
  have hap2 := List.pairwise_cons.1 hap.2.1
  have hoth : ∀ f, f ∈ es1 ∨ f ∈ es2 → (f.p ≠ e.p ∧ ∀ x y, f.pa = some x → e.pa = some y → x.block ≠ y.block) := by
    rintro f (hf | hf)
    · exact hap.2.2 f hf e (by simp)
    · have := hap2.1 f hf
      exact ⟨this.1.symm, fun x y hx hy => (this.2 y x hy hx).symm⟩
  have hmem : ∀ f, f ∈ es1 ∨ f ∈ es2 → f ∈ es1 ++ e :: es2 := by
    rintro f (hf | hf)
    · simp [hf]
    · simp [hf]
  have hentO : ∀ f, f ∈ es1 ∨ f ∈ es2 → EntIs w' base f := by
    intro f hf
    have hfe := h.ent f (hmem f hf)
    have ho := hoth f hf
    refine hfe.stay (hk.block _ hfe.lt.1 (fun hX => ?_)) (fun x hx => ?_) (fun x hx => hk.block _ (hfe.lt.2.2 x hx).2 (fun hX => ?_))
    · rcases hX with hX | ⟨y, hy, hX⟩
      · exact ho.1 hX
      · exact Typed.ne (rowIs_typed hfe.row) (hT y hy) (by decide) hX
    · have h6 := hfe.lab
      rw [hx] at h6
      exact st _ _ (sown_typed h6) (by decide) (by decide)
    · rcases hX with hX | ⟨y, hy, hX⟩
      · have h6 := hfe.pts
        rw [hx] at h6
        exact Typed.ne (sown_typed h6) hTp (by decide) hX
      · exact ho.2 x y hx hy hX
  have hmem' : ∀ f ∈ es1 ++ e' :: es2, f = e' ∨ f ∈ es1 ∨ f ∈ es2 := by
    intro f hf
    simp only [List.mem_append, List.mem_cons] at hf
    rcases hf with hf | hf | hf
    · exact .inr (.inl hf)
    · exact .inl hf
    · exact .inr (.inr hf)
  have hpaO : ∀ f, f ∈ es1 ∨ f ∈ es2 → ∀ x y, f.pa = some x → e'.pa = some y → x.block ≠ y.block := by
    intro f hf x y hx hy e1
    rcases hpa y hy with ⟨z, hz, e2⟩ | e2
    · exact (hoth f hf).2 x z hx hz (e1.trans e2)
    · have := ((h.ent f (hmem f hf)).lt.2.2 x hx).2
      omega
  refine ⟨fun k => B k ∨ ∃ x, e'.pa = some x ∧ k = x.block, ⟨h.row.stay (st _ _ h.row.typed (by decide) (by decide)), ?_, ?_, fun f hf => ?_, fun f hf => ?_, ?_, ?_, h.maps, ⟨.inl h.own.1, .inl h.own.2.1, fun f hf => ?_⟩, fun k hk' => ?_, Nat.le_trans h.base hk.size, fun f hf x hx => ?_⟩, ⟨?_, ?_⟩, fun k hk => hk⟩
  · rw [serF_congr hcg]
    exact mapG_stay serM h.ser (stm _ (mapG_map serM h.ser) (mapG_lt serM h.ser))
  · rw [postD_congr hcg]
    refine (h.post.stay (fun k hlt hX => ?_)).mono (Nat.le_refl _) (fun k hb => .inl hb)
    rcases hX with hX | hX
    · subst hX
      exact stm _ h.post.isMap hlt
    · exact st _ _ hX.1 (by decide) (by decide)
  · rcases hmem' f hf with rfl | hf
    · exact he
    · exact hentO f hf
  · rcases hmem' f hf with rfl | hf
    · rw [hls]; exact h.ok e (by simp)
    · exact h.ok f (hmem f hf)
  · have : (es1 ++ e' :: es2).map (·.ls) = (es1 ++ e :: es2).map (·.ls) := by simp only [List.map_append, List.map_cons, hls]
    rw [this]
    exact h.sets
  · refine List.pairwise_append.2 ⟨hap.1, List.pairwise_cons.2 ⟨fun f hf => ?_, hap2.2⟩, fun f hf g hg => ?_⟩
    · exact ⟨by rw [hp]; exact (hap2.1 f hf).1, fun x y hx hy => (hpaO f (.inr hf) y x hy hx).symm⟩
    · rcases List.mem_cons.1 hg with rfl | hg
      · exact ⟨by rw [hp]; exact (hoth f (.inl hf)).1, fun x y hx hy => hpaO f (.inl hf) x y hx hy⟩
      · exact hap.2.2 f hf g (by simp [hg])
  · rcases hmem' f hf with rfl | hf
    · exact ⟨.inl (by rw [hp]; exact (h.own.2.2 e (by simp)).1), fun x hx => .inr ⟨x, hx, rfl⟩⟩
    · exact ⟨.inl (h.own.2.2 f (hmem f hf)).1, fun x hx => .inl ((h.own.2.2 f (hmem f hf)).2 x hx)⟩
  · rcases hk' with hk' | ⟨x, hx, rfl⟩
    · exact ⟨(h.lt k hk').1, Nat.lt_of_lt_of_le (h.lt k hk').2 hk.size⟩
    · exact he.lt.2.2 x hx
  · rcases hmem' f hf with rfl | hf
    · exact .inl (h.lab e (by simp) x (hla ▸ hx))
    · exact .inl (h.lab f (hmem f hf) x hx)
  · refine hk.mono (fun k _ hX => ?_)
    rcases hX with rfl | ⟨x, hx, rfl⟩
    · exact (h.own.2.2 e (by simp)).1
    · exact (h.own.2.2 e (by simp)).2 x hx
  · intro k hlt hb
    rcases hb with hb | ⟨x, hx, rfl⟩
    · exact hb
    · rcases hpa x hx with ⟨y, hy, e1⟩ | e1
      · rw [e1]; exact (h.own.2.2 e (by simp)).2 y hy
      · omega

theorem HeadIs.upd {w w' : World} {base hb m1 m2 lim n : Nat} {es1 es2 : List Ent} {e e' : Ent} {B : Nat → Prop} (h : HeadIs w base hb m1 m2 lim n (es1 ++ e :: es2) B) (hk : Kept w w' (fun k => k = e.p ∨ ∃ x, e.pa = some x ∧ k = x.block)) (he : EntIs w' base e') (hp : e'.p = e.p) (hls : e'.ls = e.ls)
    (hpa : ∀ x, e'.pa = some x → (∃ y, e.pa = some y ∧ x.block = y.block) ∨ w.heap.size ≤ x.block) (hla : e'.la = e.la := by rfl) :
    ∃ B', HeadIs w' base hb m1 m2 lim n (es1 ++ e' :: es2) B' ∧ Step w w' B B' := by
  obtain ⟨B', h1, h2, _⟩ := h.upd3 hk he hp hls hpa hla
  exact ⟨B', h1, h2⟩
def entS (e : Ent) : Ser := (e.ls, e.ps)
/-- A head with the series S: at most N entries in its maps, P points in a series. -/
def HeadAt (w : World) (base hb lim N P : Nat) (S : List Ser) (B : Nat → Prop) : Prop :=
  ∃ m1 m2 n es, HeadIs w base hb m1 m2 lim n es B ∧ n ≤ N ∧ es.map entS = S ∧ Good S ∧ S.length ≤ lim ∧ lim ≤ 1024 ∧ ∀ s ∈ S, s.2.length ≤ P
theorem HeadAt.kept {w w' : World} {base hb lim N P : Nat} {S : List Ser} {B : Nat → Prop} (h : HeadAt w base hb lim N P S B) (hg : w.grownBy w' none) : HeadAt w' base hb lim N P S B := by
  obtain ⟨m1, m2, n, es, h1, h2⟩ := h
  exact ⟨m1, m2, n, es, h1.kept hg, h2⟩
theorem HeadAt.others {w w' : World} {base hb lim N P : Nat} {S : List Ser} {B X : Nat → Prop} (h : HeadAt w base hb lim N P S B) (hk : Kept w w' X) (hX : ∀ k, B k → ¬ X k) : HeadAt w' base hb lim N P S B := by
  obtain ⟨m1, m2, n, es, h1, h2⟩ := h
  exact ⟨m1, m2, n, es, h1.others hk (fun k x b => hX k b x) (fun e he x hx => hX _ (h1.lab e he x hx)), h2⟩
theorem HeadAt.mono {w : World} {base hb lim N P N' P' : Nat} {S : List Ser} {B : Nat → Prop} (h : HeadAt w base hb lim N P S B) (h1 : N ≤ N') (h2 : P ≤ P') : HeadAt w base hb lim N' P' S B := by
  obtain ⟨m1, m2, n, es, a1, a2, a3, a4, a5, a6, a7⟩ := h
  exact ⟨m1, m2, n, es, a1, Nat.le_trans a2 h1, a3, a4, a5, a6, fun s hs => Nat.le_trans (a7 s hs) h2⟩
theorem HeadAt.good {w : World} {base hb lim N P : Nat} {S : List Ser} {B : Nat → Prop} (h : HeadAt w base hb lim N P S B) : Good S ∧ S.length ≤ lim ∧ lim ≤ 1024 := by
  obtain ⟨m1, m2, n, es, a1, a2, a3, a4, a5, a6, a7⟩ := h
  exact ⟨a4, a5, a6⟩
theorem HeadAt.blocks {w : World} {base hb lim N P : Nat} {S : List Ser} {B : Nat → Prop} (h : HeadAt w base hb lim N P S B) : ∀ k, B k → base ≤ k ∧ k < w.heap.size := by
  obtain ⟨m1, m2, n, es, a1, _⟩ := h
  exact a1.lt
theorem find_ent (es : List Ent) (ls : List Lab) : findR (es.map entS) ls = (es.find? fun e => decide (e.ls = ls)).map (·.ps) := by
  unfold findR
  rw [List.find?_map, Option.map_map]
  rfl
theorem fate_eq {lim : Nat} {S : List Ser} {ls : List Lab} {T V : Int} : fateR lim S ls T V = if okB ls T = true then fateV lim S.length (findR S ls) T V else 3 := by
  unfold fateR okB fateV fateL
  have : (checkR ls = 0 ∧ -1099511627776 ≤ T ∧ T ≤ 1099511627776) ↔ (decide (-1099511627776 ≤ T) && (decide (T ≤ 1099511627776) && decide (checkR ls = 0))) = true := by
    simp only [Bool.and_eq_true, decide_eq_true_eq]
    constructor
    · rintro ⟨a, b, c⟩; exact ⟨b, c, a⟩
    · rintro ⟨a, b, c⟩; exact ⟨c, a, b⟩
  by_cases h : checkR ls = 0 ∧ -1099511627776 ≤ T ∧ T ≤ 1099511627776
  · rw [if_pos h, if_pos (this.1 h)]
    cases findR S ls <;> rfl
  · rw [if_neg h, if_neg (fun e => h (this.2 e))]
theorem h_fateIn (base hb lim N P : Nat) (S : List Ser) (B : Nat → Prop) (m1 m2 n : Nat) (es : List Ent) (x : Value) (ls : List Lab) (T V : Int) (w : World) (h : HeadIs w base hb m1 m2 lim n es B) (hS : es.map entS = S) (hg : Good S) (hl : S.length ≤ lim) (hl2 : lim ≤ 1024) (hP : ∀ s ∈ S, s.2.length ≤ P) (hz : P ≤ 8796093022206) :
    Calls Tryz.prog 41 #[.pointer (some ⟨hb, 0, none⟩), ptrV ((es.find? fun e => decide (e.ls = ls)).map (·.p)), .agg #[x, .int .i64 T, .int .u64 V]] w fun e w' => e = .returned (.int .i64 (fateV lim S.length (findR S ls) T V)) ∧ w.grownBy w' none := by
  have hlen : S.length = es.length := by rw [← hS, List.length_map]
  rw [← hS, find_ent, hS]
  cases hf : es.find? fun e => decide (e.ls = ls) with
  | none =>
    simp only [Option.map_none, ptrV]
    rw [hlen]
    exact h_fateN base hb m1 m2 lim n es B x T V w h (by omega) (by omega)
  | some e =>
    have hm := List.mem_of_find?_eq_some hf
    have hs : entS e ∈ S := by rw [← hS]; exact List.mem_map.2 ⟨e, hm, rfl⟩
    simp only [Option.map_some, ptrV, fateV]
    exact h_fateS base hb e x T V w (h.ent e hm) (hg.some _ hs) (by have h6 : e.ps.length ≤ P := hP _ hs; omega)
end Go.Proofs.YtpabbmiibehfjaaGreatDoor

/- Package head: Fate, Add. -/
namespace Go.Proofs.YtpabbmiibehfjaaGreatDoor
open Go.RowKit Go.Maps
set_option linter.unusedVariables false
set_option maxRecDepth 20000

theorem row3 {w : World} {x y z : Value} {t : TypeId} : (w.alloc (.cells #[x, y, z] t)).cell? ⟨w.heap.size, 0, none⟩ = some x ∧ (w.alloc (.cells #[x, y, z] t)).cell? ⟨w.heap.size, 1, none⟩ = some y ∧ (w.alloc (.cells #[x, y, z] t)).cell? ⟨w.heap.size, 2, none⟩ = some z :=
  ⟨cell_of_row _ w.heap.size 0 _ t _ (heap_alloc_new w _), cell_of_row _ w.heap.size 1 _ t _ (heap_alloc_new w _), cell_of_row _ w.heap.size 2 _ t _ (heap_alloc_new w _)⟩
theorem ptrV_form (o : Option Nat) : ∃ x, ptrV o = .pointer x := by cases o <;> exact ⟨_, rfl⟩
set_option maxHeartbeats 4000000 in
theorem h_fate (base hb lim N P : Nat) (S : List Ser) (B : Nat → Prop) (a : Option Addr) (L c : Nat) (ls : List Lab) (T V : Int) (w : World) (h : HeadAt w base hb lim N P S B) (hr : SRd labE w a ls) (hL : ls.length = L) (hz : L ≤ 4398046511104) (hP : P ≤ 8796093022206) :
    Calls Tryz.prog 14 #[.pointer (some ⟨hb, 0, none⟩), .agg #[.slice a L c, .int .i64 T, .int .u64 V]] w fun e w' => e = .returned (.int .i64 (fateR lim S ls T V)) ∧ w.grownBy w' none := by
  obtain ⟨m1, m2, n, es, h1, h2, h3, h4, h5, h6, h7⟩ := h
  obtain ⟨W, eW⟩ : ∃ W, W = w.alloc (.cells #[.slice a L c, .int .i64 T, .int .u64 V] 31) := ⟨_, rfl⟩
  have hgW : w.grownBy W none := by rw [eW]; exact World.grownBy_alloc w _ none
  obtain ⟨r0, r1, r2⟩ : W.cell? ⟨w.heap.size, 0, none⟩ = some (.slice a L c) ∧ W.cell? ⟨w.heap.size, 1, none⟩ = some (.int .i64 T) ∧ W.cell? ⟨w.heap.size, 2, none⟩ = some (.int .u64 V) := by rw [eW]; exact row3
  have HM : Hid (Calls Tryz.prog 40 #[.agg #[.slice a L c, .int .i64 T, .int .u64 V]] W fun e w' => e = .returned (.bool (okB ls T)) ∧ W.grownBy w' none) := h_mayBe a L c ls T V W (hr.grown hgW (by simp)) hL hz
  have HF : Hid (okB ls T = true → ∀ w1, w.grownBy w1 none → Calls Tryz.prog 42 #[.pointer (some ⟨hb, 0, none⟩), .slice a L c] w1 fun e w' => e = .returned (ptrV ((es.find? fun e => decide (e.ls = ls)).map (·.p))) ∧ w1.grownBy w' none) := fun hok w1 hg => by
    refine h_find base hb m1 m2 lim n es B a L c ls w1 (h1.kept hg) (hr.grown hg (by simp)) hL ?_
    unfold okB at hok
    simp only [Bool.and_eq_true, decide_eq_true_eq] at hok
    exact hok.2.2
  have HI : Hid (∀ w1, w.grownBy w1 none → Calls Tryz.prog 41 #[.pointer (some ⟨hb, 0, none⟩), ptrV ((es.find? fun e => decide (e.ls = ls)).map (·.p)), .agg #[.slice a L c, .int .i64 T, .int .u64 V]] w1 fun e w' => e = .returned (.int .i64 (fateV lim S.length (findR S ls) T V)) ∧ w1.grownBy w' none) := fun w1 hg => h_fateIn base hb lim N P S B m1 m2 n es _ ls T V w1 (h1.kept hg) h3 h4 h5 h6 h7 hP
  have HGW : Hid (w.grownBy W none) := hgW
  rw [fate_eq]
  generalize fateV lim S.length (findR S ls) T V = R at HI ⊢
  obtain ⟨x, hx⟩ := ptrV_form ((es.find? fun (e : Ent) => decide (e.ls = ls)).map fun (e : Ent) => e.p)
  rw [hx] at HF HI
  clear h1 h2 h3 h4 h5 h6 h7 hr hL hgW hx
  cases hok : okB ls T with
  | false =>
    rw [hok] at HM
    rw [if_neg (by simp)]
    clear hok HF HI
    subst eW
    go_enter Tryz.func14, Tryz.ntmps14
    go_wp2_with fail
    refine HM.out.mono ?_
    rintro e w1 ⟨rfl, hg1⟩
    have HG1 : Hid (w.grownBy w1 none) := HGW.out.trans hg1
    clear hg1
    go_wp2
    go_ret
    exact ⟨rfl, HG1.out⟩
  | true =>
    rw [hok] at HM
    rw [if_pos rfl]
    replace HF := HF.out hok
    have HF' : Hid (∀ w1, w.grownBy w1 none → Calls Tryz.prog 42 #[.pointer (some ⟨hb, 0, none⟩), .slice a L c] w1 fun e w' => e = .returned (.pointer x) ∧ w1.grownBy w' none) := HF
    clear hok HF
    subst eW
    go_enter Tryz.func14, Tryz.ntmps14
    go_wp2_with fail
    refine HM.out.mono ?_
    rintro e w1 ⟨rfl, hg1⟩
    have d0 := hg1.cell r0 (by simp)
    have d1 := hg1.cell r1 (by simp)
    have d2 := hg1.cell r2 (by simp)
    have HG1 : Hid (w.grownBy w1.drew none) := gb_drew (HGW.out.trans hg1)
    clear hg1 r0 r1 r2 HM HGW
    go_wp2
    go_region_held3 (fun X => X.cell? ⟨w.heap.size, 0, none⟩ = some (.slice a L c) ∧ X.cell? ⟨w.heap.size, 1, none⟩ = some (.int .i64 T) ∧ X.cell? ⟨w.heap.size, 2, none⟩ = some (.int .u64 V)) (go_keep) (first
      | (go_at_call 42; refine (HF'.out _ HG1.out).mono ?_; rintro e w2 ⟨rfl, hg2⟩; have e0 := hg2.cell d0 (by simp); have e1 := hg2.cell d1 (by simp); have e2 := hg2.cell d2 (by simp); have HG2 : Hid (w.grownBy w2 none) := HG1.out.trans hg2; clear hg2)
      | (go_at_call 41; refine (HI.out _ HG2.out).mono ?_; rintro e w3 ⟨rfl, hg3⟩; have f0 := hg3.cell e0 (by simp); have f1 := hg3.cell e1 (by simp); have f2 := hg3.cell e2 (by simp); have HG3 : Hid (w.grownBy w3 none) := HG2.out.trans hg3; clear hg3))
    all_goals go_wp2
    all_goals go_ret
    all_goals exact ⟨rfl, HG3.out⟩
end Go.Proofs.YtpabbmiibehfjaaGreatDoor

