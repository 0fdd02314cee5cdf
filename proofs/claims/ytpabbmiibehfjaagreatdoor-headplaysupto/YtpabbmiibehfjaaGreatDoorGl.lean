/- Several texts in one: Hp, Hq, Hr. -/
import Derived.Test.YtpabbmiibehfjaaGreatDoorGk
/- Package head: enter. -/
namespace Go.Proofs.YtpabbmiibehfjaaGreatDoor
open Go.RowKit Go.Maps
set_option linter.unusedVariables false
set_option maxRecDepth 20000

theorem srd_map {α : Type} {E : Elem α} {w w' : World} {a : Option Addr} {l : List α} {m : Nat} (h : SRd E w a l) (hg : w.grownBy w' (some m)) (hm : IsMap w m) : SRd E w' a l := by
  rcases h with h | ⟨b, off, e, h⟩
  · exact .inl h
  · by_cases h0 : l = []
    · exact .inl h0
    · refine .inr ⟨b, off, e, fun j v hj => hg.cell (h j v hj) (fun e' => ?_)⟩
      obtain ⟨es, c, h1⟩ := hm
      have e2 : b = m := Option.some.inj e'
      subst e2
      have := h j v hj
      simp [World.cell?, h1] at this
def mkEnt (p : Nat) (la : Option Addr) (lc : Nat) (ls : List Lab) : Ent := ⟨p, la, lc, ls, none, 0, []⟩
/-- Postings while a new series is posted: it stands in those of the first k labels. -/
def postK (es : List Ent) (e : Ent) (pl : List Lab) (k : Nat) (l : Lab) : List Nat := if (pl.take k).any (fun x => decide (x = l)) then postD (ins es e) l else postD es l
theorem postK_zero (es : List Ent) (e : Ent) (pl : List Lab) : postK es e pl 0 = postD es := by
  funext l
  unfold postK
  simp
theorem postK_at {es : List Ent} {e : Ent} {pl : List Lab} {k : Nat} {l : Lab} (hn : pl.Nodup) (hl : pl[k]? = some l) : postK es e pl k l = postD es l := by
  unfold postK
  rw [if_neg]
  simp only [List.any_eq_true, decide_eq_true_eq, not_exists, not_and]
  rintro x hx rfl
  obtain ⟨j, hj⟩ := List.getElem?_of_mem hx
  rw [List.getElem?_take] at hj
  split at hj
  · rename_i hjk
    have := (List.getElem?_inj (List.getElem?_eq_some_iff.1 hj).1 hn).1 (hj.trans hl.symm)
    omega
  · cases hj
theorem postK_next {es : List Ent} {e : Ent} {pl : List Lab} {k : Nat} {l : Lab} (hl : pl[k]? = some l) : setD (postK es e pl k) l (postD (ins es e) l) = postK es e pl (k + 1) := by
  funext x
  unfold setD postK
  rw [List.take_add_one, hl, List.any_append]
  by_cases hx : x = l
  · subst hx
    simp
  · rw [if_neg hx]
    have : (Option.toList (some l)).any (fun y => decide (y = x)) = false := by simpa using fun h => hx h.symm
    rw [this, Bool.or_false]
theorem postK_end {es : List Ent} {e : Ent} (hs : Sets (es.map (·.ls))) : ∀ l, postK es e (noLab :: e.ls) (e.ls.length + 1) l = postD (ins es e) l := by
  intro l
  unfold postK
  rw [List.take_of_length_le (by simp)]
  split
  · rfl
  · rename_i h
    rw [post_not hs]
    rw [← Bool.not_eq_true, posts_iff]
    rintro (h1 | h1)
    · exact h (by simp [h1])
    · exact h (by simp; exact .inr h1)
/-- A head to which a series is being added, behind the map's update. -/
structure InsAt (w : World) (base hb m1 m2 lim n : Nat) (es : List Ent) (e : Ent) (B : Nat → Prop) (pl : List Lab) (k : Nat) : Prop where
  row : HRow w hb m1 m2 lim
  ser : MapG serM w m1 (n + 1) (serF (ins es e))
  post : PostIs w base m2 (n + k) (postK es e pl k) B
  ent : ∀ f ∈ es, EntIs w base f
  new : EntIs w base e
  base : base ≤ w.heap.size
theorem InsAt.grown {w w' : World} {base hb m1 m2 lim n : Nat} {es : List Ent} {e : Ent} {B : Nat → Prop} {pl : List Lab} {k : Nat} (h : InsAt w base hb m1 m2 lim n es e B pl k) (hg : w.grownBy w' none) : InsAt w' base hb m1 m2 lim n es e B pl k :=
  ⟨h.row.kept hg, mapG_kept serM h.ser hg (by simp), h.post.kept hg, fun f hf => (h.ent f hf).kept hg, h.new.kept hg, Nat.le_trans h.base hg.size⟩
theorem InsAt.step {w : World} {base hb m1 m2 lim n : Nat} {es : List Ent} {e : Ent} {B : Nat → Prop} {pl : List Lab} {k : Nat} {l : Lab} (h : InsAt w base hb m1 m2 lim n es e B pl k) (hm : m1 ≠ m2) (hs : Sets (es.map (·.ls))) (hok : ∀ f ∈ es, checkR f.ls = 0) (he : checkR e.ls = 0) (hpl : pl = noLab :: e.ls) (hl : pl[k]? = some l) (hn : n + k < maxLen) (hz : es.length ≤ 4194303) :
    Calls Tryz.prog 66 #[.pointer (some ⟨hb, 0, none⟩), .agg #[.string l.1, .string l.2], .pointer (some ⟨e.p, 0, none⟩)] w fun r w' => r = .returned (.tuple #[]) ∧ ∃ B', InsAt w' base hb m1 m2 lim n es e B' pl (k + 1) ∧ PostStep w w' m2 B B' := by
  have hmem : l ∈ pl := List.mem_of_getElem? hl
  have hnd : pl.Nodup := by
    rw [hpl]
    exact List.nodup_cons.2 ⟨fun h1 => (ok_okK he _ h1).2 rfl, ok_nodup he⟩
  have hp : posts l e = true := by
    rw [posts_iff]
    rw [hpl] at hmem
    exact List.mem_cons.1 hmem
  have hkk : okK l := by
    rw [hpl] at hmem
    rcases List.mem_cons.1 hmem with rfl | h1
    · exact okK_no
    · exact (ok_okK he _ h1).1
  have hfl : (es.filter (posts l)).length ≤ es.length := List.length_filter_le _ _
  refine (h_post base hb m1 m2 lim (n + k) (postK es e pl k) B (es.filter (posts l)) e l w h.row h.post (by rw [postK_at hnd hl]; rfl) (fun f hf => ⟨h.ent f (List.mem_filter.1 hf).1, ok_len (hok f (List.mem_filter.1 hf).1)⟩) h.new (ok_len he) (sets_filter hs _) hkk hn (by omega) h.base).mono ?_
  rintro r w' ⟨rfl, ho⟩
  obtain ⟨B', hp', hst⟩ := ho.step
  rw [postK_at hnd hl, ← post_ins hs e l hp, postK_next hl] at hp'
  have hmp := h.post.isMap
  exact ⟨rfl, B', ⟨hst.row hmp h.row, hst.map h.ser hm, hp', fun f hf => hst.entry hmp (h.ent f hf), hst.entry hmp h.new, Nat.le_trans h.base hst.kept.size⟩, hst⟩
/-- All is posted: the head has the new series. -/
theorem InsAt.done {w0 w : World} {base hb m1 m2 lim n : Nat} {es : List Ent} {e : Ent} {B0 B : Nat → Prop} (h : InsAt w base hb m1 m2 lim n es e B (noLab :: e.ls) (e.ls.length + 1)) (h0 : HeadIs w0 base hb m1 m2 lim n es B0) (he : checkR e.ls = 0) (hn : e.ls ∉ es.map (·.ls)) (hnew : w0.heap.size ≤ e.p) (hpa : e.pa = none) (hB : ∀ k, B0 k → B k) (hlt : ∀ k, B k → B0 k ∨ k < w.heap.size) (hold : ∀ k, k < w0.heap.size → B k → B0 k) (hsz : w0.heap.size ≤ w.heap.size) :
    HeadIs w base hb m1 m2 lim (n + e.ls.length + 1) (ins es e) (fun k => B k ∨ k = e.p ∨ ∃ x, e.la = some x ∧ k = x.block) := by
  refine ⟨h.row, mapG_size serM h.ser (by omega), (h.post.congr (fun l _ => postK_end h0.sets l)).mono (by omega) (fun k hk => .inl hk), fun f hf => ?_, fun f hf => ?_, ins_sets h0.sets hn, ?_, h0.maps, ⟨.inl (hB _ h0.own.1), .inl (hB _ h0.own.2.1), fun f hf => ?_⟩, fun k hk => ?_, h.base, fun f hf x hx => ?_⟩
  · rcases ins_mem.1 hf with rfl | hf
    · exact h.new
    · exact h.ent f hf
  · rcases ins_mem.1 hf with rfl | hf
    · exact he
    · exact h0.ok f hf
  · unfold ins
    have hpw := h0.apart
    have hall : ∀ f ∈ es, f.p ≠ e.p := fun f hf heq => by
      have := (h0.ent f hf).lt.1
      omega
    refine List.pairwise_append.2 ⟨hpw.sublist (List.take_sublist _ _), List.pairwise_cons.2 ⟨fun f hf => ⟨fun h1 => hall f (List.mem_of_mem_drop hf) h1.symm, fun x y hx => by rw [hpa] at hx; cases hx⟩, hpw.sublist (List.drop_sublist _ _)⟩, fun a ha b hb => ?_⟩
    rcases List.mem_cons.1 hb with rfl | hb
    · exact ⟨hall a (List.mem_of_mem_take ha), fun x y _ hy => by rw [hpa] at hy; cases hy⟩
    · have hh := h0.apart
      rw [← List.take_append_drop (insAt (es.map (·.ls)) e.ls) es] at hh
      exact (List.pairwise_append.1 hh).2.2 a ha b hb
  · rcases ins_mem.1 hf with rfl | hf
    · exact ⟨.inr (.inl rfl), fun x hx => by rw [hpa] at hx; cases hx⟩
    · exact ⟨.inl (hB _ (h0.own.2.2 f hf).1), fun x hx => .inl (hB _ ((h0.own.2.2 f hf).2 x hx))⟩
  · have hbs := h0.base
    rcases hk with hk | rfl | ⟨x, hx, rfl⟩
    · by_cases hlt0 : k < w0.heap.size
      · have := h0.lt k (hold k hlt0 hk)
        omega
      · refine ⟨by omega, ?_⟩
        rcases hlt k hk with h1 | h1
        · have := (h0.lt k h1).2; omega
        · exact h1
    · exact ⟨by omega, h.new.lt.1⟩
    · exact h.new.lt.2.1 x hx
  · rcases ins_mem.1 hf with rfl | hf
    · exact .inr (.inr ⟨x, hx, rfl⟩)
    · exact .inl (hB _ (h0.lab f hf x hx))
end Go.Proofs.YtpabbmiibehfjaaGreatDoor

/- Package head: enter, the walk. -/
namespace Go.Proofs.YtpabbmiibehfjaaGreatDoor
open Go.RowKit Go.Maps
set_option linter.unusedVariables false
set_option maxRecDepth 20000

theorem new_ent (w : World) (base : Nat) (la : Option Addr) (lc : Nat) (ls : List Lab) (hl : SOwn labE 62 w base (.slice la ls.length lc) ls.length ls) (hb : base ≤ w.heap.size) : EntIs (w.alloc (.cells #[.slice la ls.length lc, .slice none 0 0] 49)) base (mkEnt w.heap.size la lc ls) := by
  refine ⟨?_, ?_, SOwn.nil 51 _ _, hb⟩
  · exact (World.rowIs_alloc w #[.slice la ls.length lc, .slice none 0 0] 49 _ (fun i hi => by
      match i, hi with
      | 0, _ => rfl
      | 1, _ => rfl))
  · exact SOwn.kept hl (World.grownBy_alloc w _ none) (by cases la <;> simp [mkEnt, Value.ownBlock])
def EnterOut (w : World) (base hb m1 m2 lim n : Nat) (es : List Ent) (B : Nat → Prop) (ls : List Lab) (e : Ending) (w' : World) : Prop :=
  ∃ (x : Ent) (B' : Nat → Prop), e = .returned (.pointer (some ⟨x.p, 0, none⟩)) ∧ x.ls = ls ∧ x.ps = [] ∧ x.pa = none ∧ x.pc = 0 ∧ HeadIs w' base hb m1 m2 lim (n + ls.length + 1) (ins es x) B' ∧ Step w w' B B'
theorem gb_label (w : World) (u v x y : Value) : w.grownBy (((w.alloc (.cells #[u, v] 62)).setCell ⟨w.heap.size, 0, none⟩ x).setCell ⟨w.heap.size, 1, none⟩ y) none :=
  gb_trans (gb_trans (World.grownBy_alloc w _ none) (gb_set rfl) (fun k hk => .inl (by cases hk; exact Nat.le_refl _))) (gb_set rfl) (fun k hk => .inl (by cases hk; exact Nat.le_refl _))
set_option maxHeartbeats 8000000 in
theorem h_enter (base hb m1 m2 lim n : Nat) (es : List Ent) (B : Nat → Prop) (a : Option Addr) (L c : Nat) (ls : List Lab) (w : World) (h : HeadIs w base hb m1 m2 lim n es B) (hr : SRd labE w a ls) (hL : ls.length = L) (hok : checkR ls = 0) (hn : ls ∉ es.map (·.ls)) (hnil : a = none → c = 0) (hz : es.length ≤ 4194303) (hnn : n + 20 < maxLen) :
    Calls Tryz.prog 43 #[.pointer (some ⟨hb, 0, none⟩), .slice a L c] w (EnterOut w base hb m1 m2 lim n es B ls) := by
  have hL16 : L ≤ 16 := by rw [← hL]; exact ok_len hok
  have H0 : Hid (HeadIs w base hb m1 m2 lim n es B) := h
  have HR : Hid (SRd labE w a ls) := hr
  have HL : Hid (ls.length = L) := hL
  have HOK : Hid (checkR ls = 0) := hok
  have HNM : Hid (ls ∉ es.map (·.ls)) := hn
  have HN : Hid (a = none → c = 0) := hnil
  have HC := l_cloneL a L c ls w hr hL hnil (by omega)
  have HNN : Hid (n + 20 < maxLen) := hnn
  obtain ⟨c0, _, _⟩ := h.row.cells
  clear h hr hL hok hn hnil hnn
  go_enter Tryz.func43, Tryz.ntmps43
  go_wp2_with fail
  refine HC.mono ?_
  rintro e w1 ⟨la, lc, rfl, ho1, hg1⟩
  have HO1 : Hid (SOwn labE 62 w1 w.heap.size (.slice la L lc) L ls) := ho1
  have HG1 : Hid (w.grownBy w1 none) := hg1
  have HGA : Hid (w.grownBy (w1.alloc (.cells #[.slice la L lc, .slice none 0 0] 49)) none) := hg1.trans (World.grownBy_alloc w1 _ none)
  have HNE : Hid (EntIs (w1.alloc (.cells #[.slice la L lc, .slice none 0 0] 49)) base (mkEnt w1.heap.size la lc ls)) := by
    have h1 := ho1
    rw [← HL.out] at h1 ⊢
    exact new_ent w1 base la lc ls (SOwn.base h1 H0.out.base) (Nat.le_trans H0.out.base hg1.size)
  have HLN : Hid (∀ y, (mkEnt w1.heap.size la lc ls).la = some y → w.heap.size ≤ y.block) := fun y hy => (SOwn.block ho1 y.block (by rw [show la = some y from hy]; rfl)).1
  clear HC ho1 hg1
  go_wp2
  have HPN : Hid (w.heap.size ≤ w1.heap.size) := HG1.out.size
  generalize w1.alloc (.cells #[.slice la L lc, .slice none 0 0] 49) = W at HGA HNE ⊢
  generalize w1.heap.size = p at HNE HPN HLN ⊢
  have cW : W.cell? ⟨hb, 0, none⟩ = some (.map (some m1)) := HGA.out.cell c0 (by simp)
  have HGD : Hid (w.grownBy W.drew none) := gb_drew HGA.out
  have HK : Hid (Calls Tryz.prog 64 #[.slice a L c] W.drew fun e w' => e = .returned (.string (keyS ls)) ∧ W.drew.grownBy w' none) := h_key a L c ls W.drew (HR.out.grown HGD.out (by simp)) HL.out HOK.out
  have HPUT : Hid (∀ w2, W.drew.grownBy w2 none → ∃ w3, (Instr.mapUpdate 63 (.map (some m1)) (.string (keyS ls)) (.pointer (some ⟨p, 0, none⟩))).run Tryz.prog w2 = .ok () w3 ∧ w3.cell? ⟨hb, 0, none⟩ = some (.map (some m1)) ∧ InsAt w3 base hb m1 m2 lim n es (mkEnt p la lc ls) B (noLab :: ls) 0 ∧ SRd labE w3 a ls ∧ Kept w w3 (fun k => k = m1)) := by
    intro w2 hg2
    have hgw := HGD.out.trans hg2
    have h2 := H0.out.kept hgw
    obtain ⟨w3, hrun, hm3, hg3⟩ := mapG_put serM h2.ser (keyS ls) (keyS_size HOK.out) (by have := HNN.out; omega) p
    have hnm : ∀ b t, Typed w2 b t → w3.heap[b]? = w2.heap[b]? := fun b t ht => hg3.block b (typed_lt ht) (fun e => Typed.map ht (mapG_map serM h2.ser) (Option.some.inj e))
    have hE : ∀ f, EntIs w2 base f → EntIs w3 base f := fun f hf => hf.stay (hnm _ _ (rowIs_typed hf.row)) (fun x hx => by have h6 := hf.lab; rw [hx] at h6; exact hnm _ _ (sown_typed h6)) (fun x hx => by have h6 := hf.pts; rw [hx] at h6; exact hnm _ _ (sown_typed h6))
    have hrow := h2.row.stay (hnm _ _ h2.row.typed)
    refine ⟨w3, hrun, hrow.cells.1, ⟨hrow, ?_, ?_, fun f hf => hE f (h2.ent f hf), hE _ (HNE.out.kept ((gb_drew (World.grownBy.refl W none)).trans hg2)), Nat.le_trans h2.base hg3.size⟩, srd_map (HR.out.grown hgw (by simp)) hg3 (mapG_map serM h2.ser), (Kept.of hgw (X := fun k => k = m1) (by simp)).trans (Kept.of hg3 (X := fun k => k = m1) (fun k hk => (Option.some.inj hk).symm)) (fun k _ h => h)⟩
    · rw [ser_ins h2.ok (show checkR (mkEnt p la lc ls).ls = 0 from HOK.out) HNM.out]
      exact hm3
    · rw [postK_zero]
      refine h2.post.stay (fun k hk hX => hg3.block k hk (fun e => ?_))
      have e' := Option.some.inj e
      rcases hX with hX | hX
      · exact h2.maps (e'.symm.trans hX)
      · rw [e'] at hX; exact Typed.map hX.1 (mapG_map serM h2.ser) rfl
  have HPOSTS : Hid (∀ w3, SRd labE w3 a ls → Calls Tryz.prog 65 #[.slice a L c] w3 fun e w' => ∃ g c', e = .returned (.slice (some ⟨g, 0, none⟩) (L + 1) c') ∧ SOwn labE 62 w' w3.heap.size (.slice (some ⟨g, 0, none⟩) (L + 1) c') (L + 1) (noLab :: ls) ∧ w3.grownBy w' none) := fun w3 h3 => h_posts a L c ls w3 h3 HL.out (by omega) HN.out
  generalize keyS ls = K at HK HPUT
  clear HG1 HGA HO1
  go_region_held3 (fun X => X.cell? ⟨hb, 0, none⟩ = some (.map (some m1))) (go_keep) (first
    | (go_at_call 64; refine HK.out.mono ?_; rintro e w2 ⟨rfl, hg2⟩; obtain ⟨w3, hput, c3, hins, hr3, hk3⟩ := HPUT.out w2 hg2; have c2 : w2.cell? ⟨hb, 0, none⟩ = some (.map (some m1)) := hg2.cell cW (by simp); have HINS : Hid (InsAt w3 base hb m1 m2 lim n es (mkEnt p la lc ls) B (noLab :: ls) 0) := hins; have HR3 : Hid (SRd labE w3 a ls) := hr3; have HK3 : Hid (Kept w w3 (fun k => k = m1)) := hk3; clear hg2 hins hr3 hk3))
  all_goals (
    go_wp2_with fail
    refine (HPOSTS.out w3 HR3.out).mono ?_
    rintro e w4 ⟨g5, c5, rfl, ho4, hg4⟩
    have HO4 : Hid (SOwn labE 62 w4 w3.heap.size (.slice (some ⟨g5, 0, none⟩) (L + 1) c5) (L + 1) (noLab :: ls)) := ho4
    have HIN4 : Hid (InsAt w4 base hb m1 m2 lim n es (mkEnt p la lc ls) B (noLab :: ls) 0) := HINS.out.grown hg4
    have HK4 : Hid (Kept w w4 (fun k => k = m1)) := HK3.out.trans (Kept.of hg4 (X := fun k => k = m1) (by simp)) (fun k _ h => h)
    clear ho4 hg4 HINS HR3 HK3 c3 c2 cW c0
    go_wp2
    go_loopw [22] (fun i wr => ∃ (k : Nat) (Bk : Nat → Prop), k ≤ L + 1 ∧ i = .int .i64 k ∧ InsAt wr base hb m1 m2 lim n es (mkEnt p la lc ls) Bk (noLab :: ls) k ∧ PostStep w4 wr m2 B Bk) (fun i _ => L + 1 - (intOf i).toNat)
    case atStart => exact ⟨0, B, Nat.zero_le _, rfl, HIN4.out, PostStep.refl _ _ _⟩
    case round =>
      obtain ⟨k, Bk, hk, rfl, hins, hst⟩ := hrel
      have HINS : Hid (InsAt wr base hb m1 m2 lim n es (mkEnt p la lc ls) Bk (noLab :: ls) k) := hins
      have HST : Hid (PostStep w4 wr m2 B Bk) := hst
      clear hins hst
      by_cases hlt : k < L + 1
      · have hki : (k : Int) < (L : Int) + 1 := by omega
        obtain ⟨⟨l1, l2⟩, hl⟩ : ∃ l, (noLab :: ls)[k]? = some l := ⟨_, List.getElem?_eq_getElem (by rw [List.length_cons, HL.out]; omega)⟩
        have HLK : Hid ((noLab :: ls)[k]? = some (l1, l2)) := hl
        have hrd : SRd labE wr (some ⟨g5, 0, none⟩) (noLab :: ls) := srd_stay (SOwn.rd HO4.out) (fun x hx => by cases hx; exact HST.out.stay HIN4.out.post.isMap (sown_typed HO4.out) (by decide))
        obtain ⟨b6, o6, e6, hc6⟩ := hrd.at (by simp)
        cases e6
        have a0 : wr.cell? ⟨g5, k * 2, none⟩ = some (.string l1) := by have := hc6 k _ 0 _ hl rfl; rwa [Nat.zero_add] at this
        have a1 : wr.cell? ⟨g5, k * 2 + 1, none⟩ = some (.string l2) := by have := hc6 k _ 1 _ hl rfl; rwa [Nat.zero_add] at this
        have HGL : Hid (wr.grownBy (wr.alloc (.cells #[.string l1, .string l2] 62)) none) := World.grownBy_alloc wr _ none
        have HS : Hid (Calls Tryz.prog 66 #[.pointer (some ⟨hb, 0, none⟩), .agg #[.string l1, .string l2], .pointer (some ⟨p, 0, none⟩)] (wr.alloc (.cells #[.string l1, .string l2] 62)) fun r w' => r = .returned (.tuple #[]) ∧ ∃ B', InsAt w' base hb m1 m2 lim n es (mkEnt p la lc ls) B' (noLab :: ls) (k + 1) ∧ PostStep (wr.alloc (.cells #[.string l1, .string l2] 62)) w' m2 Bk B') :=
          InsAt.step (e := mkEnt p la lc ls) (l := (l1, l2)) (HINS.out.grown HGL.out) H0.out.maps H0.out.sets H0.out.ok HOK.out rfl HLK.out (by have := HNN.out; omega) hz
        clear hc6 hl hrd
        go_wp2_with fail
        refine HS.out.mono ?_
        rintro r w6 ⟨rfl, B6, hins6, hst6⟩
        have HIN6 : Hid (InsAt w6 base hb m1 m2 lim n es (mkEnt p la lc ls) B6 (noLab :: ls) (k + 1)) := hins6
        have HST6 : Hid (PostStep w4 w6 m2 B B6) := HST.out.trans ((PostStep.grown m2 Bk HGL.out).trans hst6)
        clear hins6 hst6 HS HINS HST
        go_wp2
        go_roundw
        case rel => exact ⟨k + 1, B6, by omega, by go_num, HIN6.out, HST6.out⟩
        case measure => simp [intOf]; omega
      · have hki : ¬ (k : Int) < (L : Int) + 1 := by omega
        have hkL : k = L + 1 := by omega
        subst hkL
        go_wp2
        go_ret
        have hstep : Step w wr B (fun x => Bk x ∨ x = p ∨ ∃ y, (mkEnt p la lc ls).la = some y ∧ x = y.block) := by
          refine ⟨HK4.out.mono (fun x _ hx => by rw [hx]; exact H0.out.own.2.1) |>.trans HST.out.kept (fun x hx hX => ?_), fun x hx hb => ?_⟩
          · rcases hX with hX | hX
            · obtain ⟨F, _, hm, _⟩ := H0.out.post
              rw [hX]
              exact hm
            · exact hX.2
          · rcases hb with hb | rfl | ⟨y, hy, rfl⟩
            · exact HST.out.old x (Nat.lt_of_lt_of_le hx HK4.out.size) hb
            · have := HPN.out; omega
            · have := HLN.out y hy; omega
        have hdone := InsAt.done (w0 := w) (B0 := B) (e := mkEnt p la lc ls) (by have h6 := HINS.out; rw [← HL.out] at h6; exact h6) H0.out HOK.out HNM.out HPN.out rfl HST.out.more HST.out.lt (fun x hx hb => HST.out.old x (Nat.lt_of_lt_of_le hx HK4.out.size) hb) (Nat.le_trans HK4.out.size HST.out.kept.size)
        exact ⟨mkEnt p la lc ls, _, rfl, rfl, rfl, rfl, rfl, hdone, hstep⟩)
end Go.Proofs.YtpabbmiibehfjaaGreatDoor

/- Package head: last, mayBe. -/
namespace Go.Proofs.YtpabbmiibehfjaaGreatDoor
open Go.RowKit Go.Maps
set_option linter.unusedVariables false
set_option maxRecDepth 20000

def okB (ls : List Lab) (T : Int) : Bool := decide (-1099511627776 ≤ T) && (decide (T ≤ 1099511627776) && decide (checkR ls = 0))
set_option maxHeartbeats 1000000 in
theorem h_mayBe (a : Option Addr) (L c : Nat) (ls : List Lab) (T V : Int) (w : World) (hr : SRd labE w a ls) (hL : ls.length = L) (hz : L ≤ 4398046511104) :
    Calls Tryz.prog 40 #[.agg #[.slice a L c, .int .i64 T, .int .u64 V]] w fun e w' => e = .returned (.bool (okB ls T)) ∧ w.grownBy w' none := by
  have HC : Hid (∀ w1, w.grownBy w1 none → Calls Tryz.prog 63 #[.slice a L c] w1 fun e w' => e = .returned (.int .i64 (checkR ls)) ∧ w1.grownBy w' none) := fun w1 h => f_check a ls L c _ w1 (hr.grown h (by simp)) hL hz rfl
  have HGA : Hid (w.grownBy (w.alloc (.cells #[.slice a L c, .int .i64 T, .int .u64 V] 31)) none) := World.grownBy_alloc w _ none
  have hd : decide (checkR ls = 0) = (checkR ls == 0) := by rw [Bool.eq_iff_iff]; simp
  unfold okB
  rw [hd]
  generalize checkR ls = R at HC ⊢
  clear hr hL hd
  by_cases h1 : -1099511627776 ≤ T
  · by_cases h2 : T ≤ 1099511627776
    · have q1 : decide ((-1099511627776 : Int) ≤ T) = true := by simpa using h1
      have q2 : decide (T ≤ (1099511627776 : Int)) = true := by simpa using h2
      rw [q1, q2]
      go_enter Tryz.func40, Tryz.ntmps40
      go_wp2_with fail
      refine (HC.out _ HGA.out).mono ?_
      rintro e w1 ⟨rfl, hg1⟩
      have HG1 : Hid (w.grownBy w1 none) := HGA.out.trans hg1
      clear hg1
      go_wp2
      go_ret
      exact ⟨rfl, HG1.out⟩
    · have q1 : decide ((-1099511627776 : Int) ≤ T) = true := by simpa using h1
      have q2 : decide (T ≤ (1099511627776 : Int)) = false := by simpa using h2
      rw [q1, q2]
      go_enter Tryz.func40, Tryz.ntmps40
      go_wp2
      go_ret
      exact ⟨rfl, HGA.out⟩
  · have q1 : decide ((-1099511627776 : Int) ≤ T) = false := by simpa using h1
    rw [q1]
    go_enter Tryz.func40, Tryz.ntmps40
    go_wp2
    go_ret
    exact ⟨rfl, HGA.out⟩
theorem last_some {ps : List Pt} (h : ps ≠ []) : ps[ps.length - 1]? = some (ps.getLastD (0, 0)) := by
  rw [← List.getLast?_eq_getElem?]
  cases hq : ps.getLast? with
  | none => rw [List.getLast?_eq_none_iff] at hq; exact absurd hq h
  | some q => rw [getLastD_of hq]
theorem free_row {w : World} {g : Nat} {cs : Array Value} {t : TypeId} (h : w.heap[g]? = some (.cells cs t (0, 0))) (i : Nat) : w.frozen? ⟨g, i, none⟩ = false := by
  unfold World.frozen?
  simp only [h]
  simp
theorem pair_set {w : World} {g : Nat} {x y : Value} {t : TypeId} (h : w.heap[g]? = some (.cells #[x, y] t (0, 0))) (u v : Value) : ((w.setCell ⟨g, 0, none⟩ u).setCell ⟨g, 1, none⟩ v).heap[g]? = some (.cells #[u, v] t (0, 0)) := by
  have h1 : (w.setCell ⟨g, 0, none⟩ u).heap[g]? = some (.cells #[u, y] t (0, 0)) := by simp [World.setCell, Array.getElem?_modify, h]
  simp [World.setCell, Array.getElem?_modify] at h1 ⊢
  simp [h]
theorem isz51 : (Tryz.prog.info? 51).map (·.size) = some 2 := by kernel_rfl
set_option maxHeartbeats 2000000 in
theorem h_last (base : Nat) (e : Ent) (w : World) (h : EntIs w base e) (hne : e.ps ≠ []) (hz : e.ps.length ≤ 140737488355328) :
    Calls Tryz.prog 49 #[.pointer (some ⟨e.p, 0, none⟩)] w fun r w' => r = .returned (.agg #[.int .i64 (e.ps.getLastD (0, 0)).1, .int .u64 (e.ps.getLastD (0, 0)).2]) ∧ w.grownBy w' none := by
  obtain ⟨_, c1⟩ := h.cells
  have hl := last_some hne
  obtain ⟨b, off, ea, k0, k1⟩ := pnt_cell (L := e.ps.length) (SOwn.rd h.pts) hl
  obtain ⟨M, hM⟩ : ∃ M, e.ps.length = M + 1 := ⟨e.ps.length - 1, by have : 0 < e.ps.length := List.length_pos_iff.2 hne; omega⟩
  rw [hM] at c1 k0 k1 hz
  rw [ea] at c1
  rw [Nat.add_sub_cancel] at k0 k1
  have hw1 : IntKind.i64.wrap ((M : Int) + 1 - 1) = (M : Int) := by rw [IntKind.wrap_i64]; omega
  generalize (e.ps.getLastD (0, 0)).1 = T at k0 ⊢
  generalize (e.ps.getLastD (0, 0)).2 = V at k1 ⊢
  generalize e.p = p at c1 ⊢
  generalize e.pc = pc at c1
  have hga : w.grownBy (w.alloc (.cells #[.int .i64 0, .int .u64 0] 51)) none := World.grownBy_alloc w _ none
  have HGA : Hid (w.grownBy (w.alloc (.cells #[.int .i64 0, .int .u64 0] 51)) none) := hga
  have c1' := hga.cell c1 (by simp)
  have k0' := hga.cell k0 (by simp)
  have k1' := hga.cell k1 (by simp)
  have hb := heap_alloc_new w (.cells #[.int .i64 0, .int .u64 0] 51)
  have HB : Hid ((w.alloc (.cells #[.int .i64 0, .int .u64 0] 51)).heap[w.heap.size]? = some (.cells #[.int .i64 0, .int .u64 0] 51)) := hb
  have r0 := cell_of_row _ w.heap.size 0 _ 51 _ hb
  have r1 := cell_of_row _ w.heap.size 1 _ 51 _ hb
  have f0 : (w.alloc (.cells #[.int .i64 0, .int .u64 0] 51)).frozen? ⟨w.heap.size, 0, none⟩ = false := free_row hb 0
  have f1 : (w.alloc (.cells #[.int .i64 0, .int .u64 0] 51)).frozen? ⟨w.heap.size, 1, none⟩ = false := free_row hb 1
  replace r0 : (w.alloc (.cells #[.int .i64 0, .int .u64 0] 51)).cell? ⟨w.heap.size, 0, none⟩ = some (.int .i64 0) := r0
  replace r1 : (w.alloc (.cells #[.int .i64 0, .int .u64 0] 51)).cell? ⟨w.heap.size, 1, none⟩ = some (.int .u64 0) := r1
  clear h hne hl ea hM hga c1 k0 k1 hb
  go_enter Tryz.func49, Tryz.ntmps49
  go_wp2
  generalize w.alloc (.cells #[.int .i64 0, .int .u64 0] 51) = W at HGA c1' k0' k1' HB r0 r1 f0 f1 ⊢
  go_region
  all_goals go_wp2
  all_goals (
    refine bodyPost_ret (v := .agg #[.int .i64 T, .int .u64 V]) (results_cell_row Tryz.results49 _ _ w.heap.size 51 _ (0, 0) _ rfl (pair_set (w := W.drew) HB.out _ _) Tryz.underlying51 rfl isz51) rfl ⟨rfl, ?_⟩
    exact gb_trans (gb_trans (gb_drew HGA.out) (gb_set rfl) (fun k hk => .inl (by cases hk; exact Nat.le_refl _))) (gb_set rfl) (fun k hk => .inl (by cases hk; exact Nat.le_refl _)))
end Go.Proofs.YtpabbmiibehfjaaGreatDoor

