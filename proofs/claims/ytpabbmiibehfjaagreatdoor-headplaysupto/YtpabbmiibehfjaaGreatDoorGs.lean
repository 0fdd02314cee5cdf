/- Several texts in one: Ie, If. -/
import Derived.Test.YtpabbmiibehfjaaGreatDoorGr
/- Package head: Cut. -/
namespace Go.Proofs.YtpabbmiibehfjaaGreatDoor
open Go.RowKit Go.Maps
set_option linter.unusedVariables false
set_option maxRecDepth 20000

theorem PostIs.atO {w : World} {base m2 n : Nat} {D : Lab → List Nat} {B : Nat → Prop} (h : PostIs w base m2 n D B) (l : Lab) (hl : okK l) : ∃ a c, (Instr.lookup 64 (.map (some m2)) (.agg #[.string l.1, .string l.2]) false).run Tryz.prog w = .ok (.slice a (D l).length c) w ∧ SOwn ptsE 77 w base (.slice a (D l).length c) (D l).length (D l) := by
  obtain ⟨F, h1, _, h3, h4, _⟩ := h
  have hlk := mapG_look posM h1 l hl
  cases hF : F l with
  | none =>
    rw [hF] at hlk
    rw [h4 l hl hF]
    exact ⟨none, 0, hlk, SOwn.nil 77 w base⟩
  | some s =>
    rw [hF] at hlk
    obtain ⟨h6, _⟩ := h3 l s hl hF
    have hlen := h6.len
    rw [hlen]
    exact ⟨_, s.2.2, hlk, h6⟩
theorem h_allO (base hb m1 m2 lim n : Nat) (es : List Ent) (B : Nat → Prop) (w : World) (h : HeadIs w base hb m1 m2 lim n es B) :
    Calls Tryz.prog 44 #[.pointer (some ⟨hb, 0, none⟩)] w fun e w' => ∃ a c, e = .returned (.slice a es.length c) ∧ SOwn ptsE 77 w base (.slice a es.length c) es.length (es.map (·.p)) ∧ w = w' := by
  obtain ⟨_, c1, _⟩ := h.row.cells
  obtain ⟨a, c, hlk, hr⟩ := h.post.atO noLab okK_no
  rw [post_all, List.length_map] at hlk hr
  have HR : Hid (SOwn ptsE 77 w base (.slice a es.length c) es.length (es.map (·.p))) := hr
  have hlk' : (Instr.lookup 64 (.map (some m2)) (.agg #[.string ⟨#[]⟩, .string ⟨#[]⟩]) false).run Tryz.prog w = .ok (.slice a es.length c) w := hlk
  generalize es.length = L at hlk' HR ⊢
  clear h hr hlk
  go_enter Tryz.func44, Tryz.ntmps44
  go_wp2
  go_ret
  exact ⟨a, c, rfl, HR.out, rfl⟩
/-- A head that is being cut: the first k series are cut, their low points are in v. -/
structure CutAt (w wr : World) (base hb m1 m2 lim n : Nat) (es : List Ent) (B : Nat → Prop) (b : Int) (k : Nat) (done : List Ent) (Bk X : Nat → Prop) (v : Value) : Prop where
  head : HeadIs wr base hb m1 m2 lim n (done ++ es.drop k) Bk
  done : done.map entS = (es.take k).map fun e => cutSer b (entS e)
  out : SerOut wr X v (keepS (lowT b) ((es.take k).map entS))
  step : Step w wr B Bk
  apart : ∀ x, X x → w.heap.size ≤ x ∧ x < wr.heap.size ∧ ¬ Bk x
theorem CutAt.grown {w wr w' : World} {base hb m1 m2 lim n : Nat} {es : List Ent} {B : Nat → Prop} {b : Int} {k : Nat} {done : List Ent} {Bk X : Nat → Prop} {v : Value} (h : CutAt w wr base hb m1 m2 lim n es B b k done Bk X v) (hg : wr.grownBy w' none) : CutAt w w' base hb m1 m2 lim n es B b k done Bk X v :=
  ⟨h.head.kept hg, h.done, h.out.grown hg, h.step.trans (Step.grown Bk hg), fun x hx => ⟨(h.apart x hx).1, Nat.lt_of_lt_of_le (h.apart x hx).2.1 hg.size, (h.apart x hx).2.2⟩⟩
theorem below_zero {ps : List Pt} (h : Rise ps) {b : Int} (h0 : below ps b = 0) : ps.filter (lowT b) = [] ∧ ps.filter (highT b) = ps := by
  have h1 := below_take h b
  rw [h0, List.take_zero, List.drop_zero] at h1
  exact ⟨h1.1.symm, h1.2.symm⟩
theorem CutAt.skip {w wr : World} {base hb m1 m2 lim n : Nat} {es : List Ent} {B : Nat → Prop} {b : Int} {k : Nat} {done : List Ent} {Bk X : Nat → Prop} {v : Value} {e : Ent} (h : CutAt w wr base hb m1 m2 lim n es B b k done Bk X v) (he : es[k]? = some e) (hr : Rise e.ps) (h0 : below e.ps b = 0) : CutAt w wr base hb m1 m2 lim n es B b (k + 1) (done ++ [e]) Bk X v := by
  have hk := List.getElem?_eq_some_iff.1 he
  obtain ⟨h1, h2⟩ := below_zero hr h0
  refine ⟨?_, ?_, ?_, h.step, h.apart⟩
  · have := h.head
    rw [List.drop_eq_getElem_cons hk.1, hk.2] at this
    rw [List.append_assoc]
    exact this
  · rw [List.map_append, h.done, List.take_add_one, he, List.map_append]
    simp only [Option.toList_some, List.map_cons, List.map_nil, cutSer, entS]
    rw [h2]
  · rw [List.take_add_one, he, List.map_append]
    show SerOut wr X v (keepS (lowT b) ((es.take k).map entS ++ [entS e]))
    rw [keepS_snoc, if_neg (by show ¬ (e.ps.filter (lowT b) ≠ []); rw [h1]; simp), List.append_nil]
    exact h.out
/-- The low points of a series have been appended to what is handed out; then its points are put anew. -/
theorem CutAt.cut {w wr wA w6 w7 : World} {base hb m1 m2 lim n : Nat} {es : List Ent} {B : Nat → Prop} {b : Int} {k : Nat} {done : List Ent} {Bk X : Nat → Prop} {v v6 : Value} {e : Ent} {a4 a5 a2 : Option Addr} {c4 c5 c2 : Nat} {raw : List (Sv × Sv)} (h : CutAt w wr base hb m1 m2 lim n es B b k done Bk X v) (he : es[k]? = some e) (hne : e.ps.filter (lowT b) ≠ [])
    (hgA : wr.grownBy wA none) (h3 : ∀ (i : Nat) (r : Sv × Sv) (t : Ser), raw[i]? = some r → (keepS (lowT b) ((es.take k).map entS))[i]? = some t → SerOk wA X r t) (hn : SOwn serE 49 wA 0 v (keepS (lowT b) ((es.take k).map entS)).length raw) (hX : ∀ k, v.ownBlock = some k → X k)
    (ho : SOwn serE 49 w6 0 v6 ((keepS (lowT b) ((es.take k).map entS)).length + 1) (raw ++ [((a4, e.ls.length, c4), (a5, (e.ps.filter (lowT b)).length, c5))])) (hg6 : wA.grownBy w6 v.ownBlock) (hw6 : v6.ownBlock = v.ownBlock ∨ v6.ownBlock = some wA.heap.size)
    (hl : SOwn labE 62 wA wr.heap.size (.slice a4 e.ls.length c4) e.ls.length e.ls) (hp : SOwn pntE 51 wA wr.heap.size (.slice a5 (e.ps.filter (lowT b)).length c5) (e.ps.filter (lowT b)).length (e.ps.filter (lowT b)))
    (ho7 : SOwn pntE 51 w7 w6.heap.size (.slice a2 (e.ps.filter (highT b)).length c2) (e.ps.filter (highT b)).length (e.ps.filter (highT b))) (hg7 : w6.grownBy w7 none) :
    ∃ Bq Xq, CutAt w (w7.setCell ⟨e.p, 1, none⟩ (.slice a2 (e.ps.filter (highT b)).length c2)) base hb m1 m2 lim n es B b (k + 1) (done ++ [cutP e a2 c2 b]) Bq Xq v6 ∧ Kept wr (w7.setCell ⟨e.p, 1, none⟩ (.slice a2 (e.ps.filter (highT b)).length c2)) (fun x => Typed wr x 49 ∨ Typed wr x 51) := by
  have hk := List.getElem?_eq_some_iff.1 he
  have hhead := h.head
  rw [List.drop_eq_getElem_cons hk.1, hk.2] at hhead
  have hee : EntIs wr base e := hhead.ent e (by simp)
  have hTv : ∀ x, v.ownBlock = some x → Typed wr x 49 ∧ X x := fun x hx => by
    refine ⟨?_, hX x hx⟩
    obtain ⟨a, c, rfl⟩ := sown_slice hn
    cases a with
    | none => simp [Value.ownBlock] at hx
    | some y =>
      have e1 : y.block = x := by simpa [Value.ownBlock] using hx
      subst e1
      have hT := sown_typed hn
      have hlt := (h.apart _ (hX _ hx)).2.1
      exact typed_stay hT (hgA.block _ hlt (by simp)).symm
  have hk6 : Kept wr w6 (fun x => v.ownBlock = some x) := (Kept.of hgA (X := fun x => v.ownBlock = some x) (by simp)).trans (Kept.of hg6 (X := fun x => v.ownBlock = some x) (fun x hx => hx)) (fun x _ hx => hx)
  have hhead6 : HeadIs w6 base hb m1 m2 lim n (done ++ e :: es.drop (k + 1)) Bk := by
    refine hhead.others hk6 (fun x hx => (h.apart x (hX x hx)).2.2) (fun f hf x hx hv => ?_)
    have h6 := (hhead.ent f hf).lab
    rw [hx] at h6
    exact Typed.ne (sown_typed h6) (hTv _ hv).1 (by decide) rfl
  obtain ⟨Bq, hhq, hstq, hBq⟩ := put_points (b := b) hhead6 ho7 hg7
  have hsz6 := hk6.size
  have hout6 : SerOut w6 (fun x => X x ∨ (wr.heap.size ≤ x ∧ x < w6.heap.size)) v6 (keepS (lowT b) ((es.take k).map entS) ++ [(e.ls, e.ps.filter (lowT b))]) := by
    have hA6 := hg6.size
    have hAs := hgA.size
    refine out_append (s := (e.ls, e.ps.filter (lowT b))) h3 hn hX ho hg6 hw6 (SOwn.base hl (Nat.zero_le _)) (SOwn.base hp (Nat.zero_le _)) (fun x hx => .inl hx) (fun x hx => .inr ?_) (fun x hx => .inr ?_) ?_
    · have := SOwn.block hl x.block (by rw [hx]; rfl); omega
    · have := SOwn.block hp x.block (by rw [hx]; rfl); omega
    · intro hv6
      have := (SOwn.block ho _ hv6).2
      exact .inr ⟨hAs, this⟩
  have hgs : w7.grownBy (w7.setCell ⟨e.p, 1, none⟩ (.slice a2 (e.ps.filter (highT b)).length c2)) (some e.p) := gb_set rfl
  have hel := hee.lt.1
  have hBe : Bk e.p := (hhead.own.2.2 e (by simp)).1
  have hXe : ¬ (X e.p ∨ (wr.heap.size ≤ e.p ∧ e.p < w6.heap.size)) := by
    rintro (hx | hx)
    · exact (h.apart _ hx).2.2 hBe
    · omega
  have hsz7 := hg7.size
  refine ⟨Bq, fun x => X x ∨ (wr.heap.size ≤ x ∧ x < w6.heap.size), ⟨?_, ?_, ?_, ⟨?_, ?_⟩, ?_⟩, ?_⟩
  · rw [List.append_assoc]
    exact hhq
  · rw [List.map_append, h.done, List.take_add_one, he, List.map_append]
    rfl
  · rw [List.take_add_one, he, List.map_append]
    show SerOut _ _ v6 (keepS (lowT b) ((es.take k).map entS ++ [entS e]))
    rw [keepS_snoc, if_pos (show (entS e).2.filter (lowT b) ≠ [] from hne)]
    refine (hout6.grown hg7).stay (fun x hlt hx => hgs.block x hlt (fun e1 => hXe ?_)) (fun x hx => hx)
    rw [← Option.some.inj e1]
    exact hx
  · refine (h.step.1.trans hk6 (fun x hx hv => ?_)).trans hstq.1 (fun x hx hb => h.step.2 x hx hb)
    have := (h.apart x (hX x hv)).1
    omega
  · intro x hx hb
    exact h.step.2 x hx (hstq.2 x (Nat.lt_of_lt_of_le hx (Nat.le_trans h.step.1.size hsz6)) hb)
  · intro x hx
    have hs := h.step.1.size
    have hss := hgs.size
    rcases hx with hx | hx
    · have h6 := h.apart x hx
      refine ⟨h6.1, by omega, fun hb => ?_⟩
      rcases hBq x hb with hb | ⟨y, hy, e1⟩
      · exact h6.2.2 hb
      · have := (SOwn.block ho7 y.block (by rw [hy]; rfl)).1
        omega
    · refine ⟨by omega, by omega, fun hb => ?_⟩
      rcases hBq x hb with hb | ⟨y, hy, e1⟩
      · have := (h.head.lt x hb).2
        omega
      · have := (SOwn.block ho7 y.block (by rw [hy]; rfl)).1
        omega
  · refine ((hk6.mono (fun x _ hx => .inl (hTv x hx).1)).trans (Kept.of hg7 (X := fun x => Typed wr x 49 ∨ Typed wr x 51) (by simp)) (fun x _ hx => hx)).trans (Kept.of hgs (X := fun x => Typed wr x 49 ∨ Typed wr x 51) (fun x hx => .inl ?_)) (fun x _ hx => hx)
    rw [← Option.some.inj hx]
    exact rowIs_typed hee.row
end Go.Proofs.YtpabbmiibehfjaaGreatDoor

/- Package head: Cut, the walk. -/
namespace Go.Proofs.YtpabbmiibehfjaaGreatDoor
open Go.RowKit Go.Maps
set_option linter.unusedVariables false
set_option maxRecDepth 20000

def CutOut (w : World) (base hb lim N P : Nat) (S : List Ser) (B : Nat → Prop) (b : Int) (e : Ending) (w' : World) : Prop :=
  ∃ v X B', e = .returned v ∧ SerOut w' X v (keepS (lowT b) S) ∧ HeadAt w' base hb lim (N + 20000) P (keepS (highT b) S) B' ∧ Step w w' B B' ∧ ∀ k, X k → w.heap.size ≤ k ∧ ¬ B' k
theorem own_stay77 {wr w' : World} {base M c : Nat} {a : Option Addr} {l : List Nat} (h : SOwn ptsE 77 wr base (.slice a M c) M l) (hk : Kept wr w' (fun x => Typed wr x 49 ∨ Typed wr x 51)) : SOwn ptsE 77 w' base (.slice a M c) M l :=
  sown_stay h (fun x hx => by
    subst hx
    have hT := sown_typed h
    exact hk.block _ (typed_lt hT) (fun hX => by
      rcases hX with hX | hX
      · exact Typed.ne hT hX (by decide) rfl
      · exact Typed.ne hT hX (by decide) rfl))
theorem cut_done {w wr w' : World} {base hb m1 m2 lim n N P : Nat} {es : List Ent} {S : List Ser} {B : Nat → Prop} {b : Int} {done : List Ent} {Bk X : Nat → Prop} {v : Value} {B' : Nat → Prop} (h : CutAt w wr base hb m1 m2 lim n es B b es.length done Bk X v) (hh : HeadIs w' base hb m1 m2 lim (n + 18000) (done.filter fun e => !isE e) B') (hst : Step wr w' Bk B') (hS : es.map entS = S) (hg : Good S) (hl : S.length ≤ lim) (hl2 : lim ≤ 1024) (hP : ∀ s ∈ S, s.2.length ≤ P) (hn : n ≤ N) :
    CutOut w base hb lim N P S B b (.returned v) w' := by
  have hd := h.done
  rw [List.take_length] at hd
  have ho := h.out
  rw [List.take_length, hS] at ho
  refine ⟨v, X, B', rfl, ho.kept hst.1 (fun k hk => (h.apart k hk).2.2), ⟨m1, m2, n + 18000, _, hh, by omega, ?_, keepS_good hg _, Nat.le_trans (keepS_len _ _) hl, hl2, fun s hs => ?_⟩, h.step.trans hst, fun k hk => ⟨(h.apart k hk).1, fun hb => (h.apart k hk).2.2 (hst.2 k (h.apart k hk).2.1 hb)⟩⟩
  · rw [ent_filter, hd, ← hS, ← cut_left, List.map_map]
    rfl
  · obtain ⟨t, ht, _, rfl⟩ := keepS_mem.1 hs
    exact Nat.le_trans (List.length_filter_le _ _) (hP t ht)
set_option maxHeartbeats 16000000 in
theorem h_cut (base hb lim N P : Nat) (S : List Ser) (B : Nat → Prop) (b : Int) (w : World) (h : HeadAt w base hb lim N P S B) (hP : P ≤ 8796093022206) (hN : N + 20000 < 9223372036854775807) :
    Calls Tryz.prog 18 #[.pointer (some ⟨hb, 0, none⟩), .int .i64 b] w (CutOut w base hb lim N P S B b) := by
  obtain ⟨m1, m2, n, es, h1, h2, h3, h4, h5, h6, h7⟩ := h
  have HA : Hid (Calls Tryz.prog 44 #[.pointer (some ⟨hb, 0, none⟩)] w fun e w' => ∃ a c, e = .returned (.slice a es.length c) ∧ SOwn ptsE 77 w base (.slice a es.length c) es.length (es.map (·.p)) ∧ w = w') := h_allO base hb m1 m2 lim n es B w h1
  have HC0 : Hid (CutAt w w base hb m1 m2 lim n es B b 0 [] B (fun _ => False) (.slice none 0 0)) := ⟨by simpa using h1, rfl, SerOut.nil _ _, Step.grown B (World.grownBy.refl _ _), fun x hx => hx.elim⟩
  have HEN : Hid (∀ e ∈ es, Rise e.ps ∧ e.ps.length ≤ 8796093022206 ∧ e.ls.length ≤ 16) := fun e he => by
    have hm : entS e ∈ S := by rw [← h3]; exact List.mem_map.2 ⟨e, he, rfl⟩
    exact ⟨h4.rise _ hm, Nat.le_trans (h7 _ hm) hP, ok_len (h1.ok e he)⟩
  have hel : es.length ≤ 1024 := by rw [← h3, List.length_map] at h5; omega
  have HDONE : Hid (∀ (wr w' : World) (done : List Ent) (Bk X B' : Nat → Prop) (v : Value), CutAt w wr base hb m1 m2 lim n es B b es.length done Bk X v → HeadIs w' base hb m1 m2 lim (n + 18000) (done.filter fun e => !isE e) B' → Step wr w' Bk B' → CutOut w base hb lim N P S B b (.returned v) w') := fun wr w' done Bk X B' v k1 k2 k3 => cut_done k1 k2 k3 h3 h4 h5 h6 h7 h2
  have HDROP : Hid (∀ (wr : World) (done : List Ent) (Bk : Nat → Prop), HeadIs wr base hb m1 m2 lim n done Bk → done.length ≤ 1024 → Calls Tryz.prog 48 #[.pointer (some ⟨hb, 0, none⟩)] wr fun e w' => e = .returned (.tuple #[]) ∧ ∃ B', HeadIs w' base hb m1 m2 lim (n + 18000) (done.filter fun e => !isE e) B' ∧ Step wr w' Bk B') := fun wr done Bk k1 k2 => h_dropLoop base hb m1 m2 lim n done Bk wr k1 k2 (by unfold maxLen; omega)
  obtain ⟨M, eM⟩ : ∃ M, M = es.length := ⟨_, rfl⟩
  have EM : Hid (M = es.length) := eM
  rw [← eM] at HA hel
  clear h1 h2 h3 h4 h5 h6 h7 eM
  go_enter Tryz.func18, Tryz.ntmps18
  go_wp2_with fail
  refine HA.out.mono ?_
  rintro e w1 ⟨a, c, rfl, hr, rfl⟩
  have HR : Hid (SOwn ptsE 77 w base (.slice a M c) M (es.map (·.p))) := hr
  clear hr HA
  go_wp2
  go_loopw [5, 14] (fun v i wr => ∃ (k : Nat) (done : List Ent) (Bk X : Nat → Prop), k ≤ M ∧ i = .int .i64 k ∧ CutAt w wr base hb m1 m2 lim n es B b k done Bk X v ∧ SOwn ptsE 77 wr base (.slice a M c) M (es.map (·.p))) (fun _ i _ => M - (intOf i).toNat)
  case atStart => exact ⟨0, [], B, _, Nat.zero_le _, rfl, HC0.out, HR.out⟩
  case round =>
    obtain ⟨k, done, Bk, X, hk, rfl, hca, hsr⟩ := hrel
    obtain ⟨raw0, ho0, _, _⟩ := hca.out
    obtain ⟨a9, c9, rfl⟩ := sown_slice ho0
    obtain ⟨QL, eQL⟩ : ∃ QL, QL = (keepS (lowT b) ((es.take k).map entS)).length := ⟨_, rfl⟩
    have EQL : Hid (QL = (keepS (lowT b) ((es.take k).map entS)).length) := eQL
    have hQl : QL ≤ 1024 := by
      rw [eQL]
      refine Nat.le_trans (keepS_len _ _) ?_
      rw [List.length_map, List.length_take]
      omega
    rw [← eQL] at hca ⊢
    have HCA : Hid (CutAt w wr base hb m1 m2 lim n es B b k done Bk X (.slice a9 QL c9)) := hca
    have HSR : Hid (SOwn ptsE 77 wr base (.slice a M c) M (es.map (·.p))) := hsr
    clear hca hsr ho0 HC0 HR eQL
    by_cases hlt : k < M
    · have hi : (k : Int) < (M : Int) := by omega
      obtain ⟨e, he⟩ : ∃ e, es[k]? = some e := ⟨_, List.getElem?_eq_getElem (by have := EM.out; omega)⟩
      have HEK : Hid (es[k]? = some e) := he
      obtain ⟨bb, off, rfl, hc⟩ := ptr_cell (i := k) (p := e.p) (SOwn.rd HSR.out) (by rw [List.getElem?_map, he]; rfl)
      obtain ⟨hri, hpl, hll⟩ := HEN.out e (List.mem_of_getElem? he)
      have hei : EntIs wr base e := HCA.out.head.ent e (by
        have hkk := List.getElem?_eq_some_iff.1 he
        rw [List.drop_eq_getElem_cons hkk.1, hkk.2]
        simp)
      have HEI : Hid (EntIs wr base e) := hei
      have HRI : Hid (Rise e.ps) := hri
      obtain ⟨c0, c1⟩ := hei.cells
      have HFF : Hid (Calls Tryz.prog 46 #[.slice e.pa e.ps.length e.pc, .int .i64 b] wr fun r w' => r = .returned (.int .i64 (below e.ps b)) ∧ wr.grownBy w' none) := l_from e.pa e.ps.length e.pc e.ps b wr (SOwn.rd hei.pts) rfl hri (by omega)
      have hbt := below_take hri b
      have hble := below_le e.ps b
      have hcap := sown_cap hei.pts
      obtain ⟨nn, en⟩ : ∃ nn, nn = below e.ps b := ⟨_, rfl⟩
      have ENN : Hid (nn = below e.ps b) := en
      rw [← en] at HFF hbt hble
      obtain ⟨PL, eP⟩ : ∃ PL, PL = e.ps.length := ⟨_, rfl⟩
      have EPL : Hid (PL = e.ps.length) := eP
      obtain ⟨LL, eL⟩ : ∃ LL, LL = e.ls.length := ⟨_, rfl⟩
      have ELL : Hid (LL = e.ls.length) := eL
      have HBT1 : Hid (e.ps.take nn = e.ps.filter (lowT b)) := hbt.1
      have HBT2 : Hid (e.ps.drop nn = e.ps.filter (highT b)) := hbt.2
      rw [← eP] at HFF hble hpl c1 hcap
      rw [← eL] at c0 hll
      have hs1 := fun w' => sh47 e.pa PL e.pc nn (by omega) w'
      have hs2 := fun w' => sl47 e.pa PL e.pc nn hble w'
      clear he hei hri en eP eL hbt
      by_cases hn0 : nn = 0
      · subst hn0
        go_wp2_with fail
        refine HFF.out.mono ?_
        rintro r w2 ⟨rfl, hg2⟩
        have HC2 : Hid (CutAt w w2 base hb m1 m2 lim n es B b (k + 1) (done ++ [e]) Bk X (.slice a9 QL c9)) := (HCA.out.grown hg2).skip HEK.out HRI.out ENN.out.symm
        have HS2 : Hid (SOwn ptsE 77 w2 base (.slice (some ⟨bb, off, none⟩) M c) M (es.map (·.p))) := SOwn.kept HSR.out hg2 (by simp [Value.ownBlock])
        clear hg2
        go_wp2
        go_roundw
        case rel => exact ⟨k + 1, _, _, _, by omega, by go_num, HC2.out, HS2.out⟩
        case measure => simp [intOf]; omega
      · have q0 : ((nn : Int) == 0) = false := by simp; omega
        have HLOW : Hid (e.ps.filter (lowT b) ≠ []) := by
          show _ ≠ _
          rw [← HBT1.out]
          intro h0
          have := congrArg List.length h0
          rw [List.length_take, ← EPL.out] at this
          simp at this
          omega
        have HLN : Hid ((e.ps.filter (lowT b)).length = nn ∧ (e.ps.filter (highT b)).length = PL - nn) := by
          show _ ∧ _
          rw [← HBT1.out, ← HBT2.out, List.length_take, List.length_drop, ← EPL.out]
          omega
        go_wp2_with fail
        refine HFF.out.mono ?_
        rintro r w2 ⟨rfl, hg2⟩
        have HG2 : Hid (wr.grownBy w2.drew none) := gb_drew hg2
        have d0 := hg2.cell c0 (by simp)
        have d1 := hg2.cell c1 (by simp)
        have HCO : Hid (Calls Tryz.prog 39 #[.slice e.la LL e.lc, .slice e.pa nn e.pc] w2.drew fun e' w' => ∃ a1 c1 a2 c2, e' = .returned (.agg #[.slice a1 LL c1, .slice a2 nn c2]) ∧ SOwn labE 62 w' w2.drew.heap.size (.slice a1 LL c1) LL e.ls ∧ SOwn pntE 51 w' w2.drew.heap.size (.slice a2 nn c2) nn (e.ps.take nn) ∧ w2.drew.grownBy w' none) :=
          h_copied e.la LL e.lc e.ls e.pa nn e.pc (e.ps.take nn) w2.drew ((SOwn.rd HEI.out.lab).grown HG2.out (by simp)) ELL.out.symm (sown_cap HEI.out.lab).2 (by omega) (((SOwn.rd HEI.out.pts).take nn).grown HG2.out (by simp)) (by rw [List.length_take, ← EPL.out]; omega) hcap.2 (by omega)
        have HPREP : Hid (∀ (w3 : World) (a4 a5 : Option Addr) (c4 c5 : Nat), w2.drew.grownBy w3 none → ∃ raw5, SOwn serE 49 (w3.alloc (.cells #[.slice a4 LL c4, .slice a5 nn c5] 49)) 0 (.slice a9 QL c9) QL raw5 ∧ (∀ k, Value.ownBlock (.slice a9 QL c9) = some k → X k) ∧ (∀ (i : Nat) (r : Sv × Sv) (t : Ser), raw5[i]? = some r → (keepS (lowT b) ((es.take k).map entS))[i]? = some t → SerOk (w3.alloc (.cells #[.slice a4 LL c4, .slice a5 nn c5] 49)) X r t) ∧ SRd serE (w3.alloc (.cells #[.slice a4 LL c4, .slice a5 nn c5] 49)) (some ⟨w3.heap.size, 0, none⟩) [((a4, LL, c4), (a5, nn, c5))] ∧ wr.grownBy (w3.alloc (.cells #[.slice a4 LL c4, .slice a5 nn c5] 49)) none ∧ (w3.alloc (.cells #[.slice a4 LL c4, .slice a5 nn c5] 49)).cell? ⟨e.p, 0, none⟩ = some (.slice e.la LL e.lc) ∧ (w3.alloc (.cells #[.slice a4 LL c4, .slice a5 nn c5] 49)).cell? ⟨e.p, 1, none⟩ = some (.slice e.pa PL e.pc)) := by
          intro w3 a4 a5 c4 c5 hg3
          have hgA : wr.grownBy (w3.alloc (.cells #[.slice a4 LL c4, .slice a5 nn c5] 49)) none := (HG2.out.trans hg3).trans (World.grownBy_alloc w3 _ none)
          obtain ⟨raw5, hw1, hw2, hw3⟩ := (HCA.out.grown hgA).out
          rw [← EQL.out] at hw1
          have hc2 := (HEI.out.kept hgA).cells
          rw [← EPL.out, ← ELL.out] at hc2
          exact ⟨raw5, hw1, hw2, hw3, srd_lit serE 49 w3 [((a4, LL, c4), (a5, nn, c5))], hgA, hc2.1, hc2.2⟩
        have HCEL : Hid (∀ (w3 w6 : World) (a4 a5 : Option Addr) (c4 c5 : Nat), wr.grownBy (w3.alloc (.cells #[.slice a4 LL c4, .slice a5 nn c5] 49)) none → (w3.alloc (.cells #[.slice a4 LL c4, .slice a5 nn c5] 49)).grownBy w6 (Value.ownBlock (.slice a9 QL c9)) → (∀ k, Value.ownBlock (.slice a9 QL c9) = some k → X k) → (w3.alloc (.cells #[.slice a4 LL c4, .slice a5 nn c5] 49)).cell? ⟨e.p, 0, none⟩ = some (.slice e.la LL e.lc) → (w3.alloc (.cells #[.slice a4 LL c4, .slice a5 nn c5] 49)).cell? ⟨e.p, 1, none⟩ = some (.slice e.pa PL e.pc) → w6.cell? ⟨e.p, 0, none⟩ = some (.slice e.la LL e.lc) ∧ w6.cell? ⟨e.p, 1, none⟩ = some (.slice e.pa PL e.pc) ∧ w6.frozen? ⟨e.p, 1, none⟩ = false ∧ SRd pntE w6 e.pa e.ps) := by
          intro w3 w6 a4 a5 c4 c5 hgA hg6 hX k0 k1
          have hXe : ∀ k, Value.ownBlock (.slice a9 QL c9) = some k → k ≠ e.p := by
            intro x hx e1
            subst e1
            have hkk := List.getElem?_eq_some_iff.1 HEK.out
            have h6 := HCA.out.head.own.2.2 e (by rw [List.drop_eq_getElem_cons hkk.1, hkk.2]; simp)
            exact (HCA.out.apart _ (hX _ hx)).2.2 h6.1
          have n1 : some e.p ≠ Value.ownBlock (.slice a9 QL c9) := fun e1 => hXe e.p e1.symm rfl
          have hrow := ((HEI.out.kept hgA).row).of_block (hg6.block e.p (HEI.out.kept hgA).lt.1 n1)
          refine ⟨hg6.cell k0 n1, hg6.cell k1 n1, hrow.frozen 1, ?_⟩
          refine srd_stay (SOwn.rd (HEI.out.kept hgA).pts) (fun x hx => hg6.block _ ((HEI.out.kept hgA).lt.2.2 x hx).2 (fun e1 => ?_))
          have hkk := List.getElem?_eq_some_iff.1 HEK.out
          have h6 := HCA.out.head.own.2.2 e (by rw [List.drop_eq_getElem_cons hkk.1, hkk.2]; simp)
          exact (HCA.out.apart _ (hX _ e1.symm)).2.2 (h6.2 x hx)
        have HCUT : Hid (∀ (w3 w6 w7 : World) (a4 a5 a2 : Option Addr) (c4 c5 c2 : Nat) (raw5 : List (Sv × Sv)) (v6 : Value), wr.grownBy (w3.alloc (.cells #[.slice a4 LL c4, .slice a5 nn c5] 49)) none → (∀ (i : Nat) (r : Sv × Sv) (t : Ser), raw5[i]? = some r → (keepS (lowT b) ((es.take k).map entS))[i]? = some t → SerOk (w3.alloc (.cells #[.slice a4 LL c4, .slice a5 nn c5] 49)) X r t) → SOwn serE 49 (w3.alloc (.cells #[.slice a4 LL c4, .slice a5 nn c5] 49)) 0 (.slice a9 QL c9) QL raw5 → (∀ k, Value.ownBlock (.slice a9 QL c9) = some k → X k) → SOwn serE 49 w6 0 v6 (QL + 1) (raw5 ++ [((a4, LL, c4), (a5, nn, c5))]) → (w3.alloc (.cells #[.slice a4 LL c4, .slice a5 nn c5] 49)).grownBy w6 (Value.ownBlock (.slice a9 QL c9)) → (v6.ownBlock = Value.ownBlock (.slice a9 QL c9) ∨ v6.ownBlock = some (w3.alloc (.cells #[.slice a4 LL c4, .slice a5 nn c5] 49)).heap.size) → SOwn labE 62 w3 w2.drew.heap.size (.slice a4 LL c4) LL e.ls → SOwn pntE 51 w3 w2.drew.heap.size (.slice a5 nn c5) nn (e.ps.take nn) → SOwn pntE 51 w7 w6.heap.size (.slice a2 (PL - nn) c2) (PL - nn) (e.ps.drop nn) → w6.grownBy w7 none →
            ∃ done' Bq Xq, CutAt w (w7.setCell ⟨e.p, 1, none⟩ (.slice a2 (PL - nn) c2)) base hb m1 m2 lim n es B b (k + 1) done' Bq Xq v6 ∧ SOwn ptsE 77 (w7.setCell ⟨e.p, 1, none⟩ (.slice a2 (PL - nn) c2)) base (.slice (some ⟨bb, off, none⟩) M c) M (es.map (·.p))) := by
          intro w3 w6 w7 a4 a5 a2 c4 c5 c2 raw5 v6 k1 k2 k3 k4 k5 k6 k7 k8 k9 k10 k11
          have hga : w3.grownBy (w3.alloc (.cells #[.slice a4 LL c4, .slice a5 nn c5] 49)) none := World.grownBy_alloc w3 _ none
          have hs2 := HG2.out.size
          have hl : SOwn labE 62 (w3.alloc (.cells #[.slice a4 LL c4, .slice a5 nn c5] 49)) wr.heap.size (.slice a4 e.ls.length c4) e.ls.length e.ls := by
            rw [← ELL.out]
            exact SOwn.base (SOwn.kept k8 hga (by cases a4 <;> simp [Value.ownBlock])) hs2
          have hp : SOwn pntE 51 (w3.alloc (.cells #[.slice a4 LL c4, .slice a5 nn c5] 49)) wr.heap.size (.slice a5 (e.ps.filter (lowT b)).length c5) (e.ps.filter (lowT b)).length (e.ps.filter (lowT b)) := by
            rw [HLN.out.1, ← HBT1.out]
            exact SOwn.base (SOwn.kept k9 hga (by cases a5 <;> simp [Value.ownBlock])) hs2
          have h7 : SOwn pntE 51 w7 w6.heap.size (.slice a2 (e.ps.filter (highT b)).length c2) (e.ps.filter (highT b)).length (e.ps.filter (highT b)) := by
            rw [HLN.out.2, ← HBT2.out]
            exact k10
          rw [EQL.out] at k3 k5
          obtain ⟨Bq, Xq, hcc, hkk⟩ := HCA.out.cut (a4 := a4) (a5 := a5) (c4 := c4) (c5 := c5) HEK.out HLOW.out k1 k2 (by rw [← EQL.out] at k3 ⊢; exact k3) k4 (by
            rw [HLN.out.1, ← ELL.out]
            exact k5) k6 k7 hl hp h7 k11
          rw [HLN.out.2] at hcc hkk
          exact ⟨_, Bq, Xq, hcc, own_stay77 HSR.out hkk⟩
        have HCL : Hid (∀ w6, SRd pntE w6 e.pa e.ps → Calls Tryz.prog 47 #[.slice (cutA e.pa e.pc nn 2) (PL - nn) (e.pc - nn)] w6 fun r w' => ∃ a' c', r = .returned (.slice a' (PL - nn) c') ∧ SOwn pntE 51 w' w6.heap.size (.slice a' (PL - nn) c') (PL - nn) (e.ps.drop nn) ∧ w6.grownBy w' none) := fun w6 h6 => by
          refine l_cloneP _ (PL - nn) _ (e.ps.drop nn) w6 (h6.drop e.pc nn (by rw [← EPL.out]; exact hcap.1)) (by rw [List.length_drop, ← EPL.out]) (fun hnn => ?_) (by omega)
          cases hpa : e.pa with
          | none => have := hcap.2 hpa; omega
          | some y => rw [hpa] at hnn; unfold cutA at hnn; split at hnn <;> simp at hnn
        clear hg2 HFF c0 c1 hc HEI HRI
        generalize e.p = ep at d0 d1 HPREP HCEL HCUT ⊢
        generalize e.la = ela at d0 HCO HPREP HCEL
        generalize e.lc = elc at d0 HCO HPREP HCEL
        generalize e.pa = epa at d1 HCO HPREP HCEL HCL hs1 hs2 hcap
        generalize e.pc = epc at d1 HCO HPREP HCEL HCL hs1 hs2 hcap
        go_wp2
        go_region_held3 (fun Y => Y.cell? ⟨ep, 0, none⟩ = some (.slice ela LL elc) ∧ Y.cell? ⟨ep, 1, none⟩ = some (.slice epa PL epc)) (go_keep) (first
          | (go_at_call 39; refine HCO.out.mono ?_; rintro r w3 ⟨a4, c4, a5, c5, rfl, ho4, ho5, hg3⟩; obtain ⟨raw5, hw1, hw2, hw3, hsr5, hgA, x0, x1⟩ := HPREP.out w3 a4 a5 c4 c5 hg3; have y0 := hg3.cell d0 (by simp); have y1 := hg3.cell d1 (by simp); have HO4 : Hid (SOwn labE 62 w3 w2.drew.heap.size (.slice a4 LL c4) LL e.ls) := ho4; have HO5 : Hid (SOwn pntE 51 w3 w2.drew.heap.size (.slice a5 nn c5) nn (e.ps.take nn)) := ho5; have HW1 : Hid (SOwn serE 49 (w3.alloc (.cells #[.slice a4 LL c4, .slice a5 nn c5] 49)) 0 (.slice a9 QL c9) QL raw5) := hw1; have HW2 : Hid (∀ k, Value.ownBlock (.slice a9 QL c9) = some k → X k) := hw2; have HW3 : Hid (∀ (i : Nat) (r : Sv × Sv) (t : Ser), raw5[i]? = some r → (keepS (lowT b) ((es.take k).map entS))[i]? = some t → SerOk (w3.alloc (.cells #[.slice a4 LL c4, .slice a5 nn c5] 49)) X r t) := hw3; have HSR5 : Hid (SRd serE (w3.alloc (.cells #[.slice a4 LL c4, .slice a5 nn c5] 49)) (some ⟨w3.heap.size, 0, none⟩) [((a4, LL, c4), (a5, nn, c5))]) := hsr5; have HGA : Hid (wr.grownBy (w3.alloc (.cells #[.slice a4 LL c4, .slice a5 nn c5] 49)) none) := hgA; clear ho4 ho5 hg3 hw1 hw2 hw3 hsr5 hgA)
          | (refine step_append_at serT rfl (.tmp 26) (.tmp 38) rfl 0 (.slice a9 QL c9) QL raw5 (by simp [Act.eval]) HW1.out ⟨w3.heap.size, 0, none⟩ [((a4, LL, c4), (a5, nn, c5))] 1 1 (by simp [Act.eval]) rfl HSR5.out ?b1 ?b2 (Nat.zero_le _) ?_; (case b1 => omega); (case b2 => unfold maxLen; omega); intro v6 w6 ho6 hg6 hw6; obtain ⟨z0, z1, zf, zr⟩ := HCEL.out w3 w6 a4 a5 c4 c5 HGA.out hg6 HW2.out x0 x1; have HO6 : Hid (SOwn serE 49 w6 0 v6 (QL + 1) (raw5 ++ [((a4, LL, c4), (a5, nn, c5))])) := ho6; have HG6 : Hid ((w3.alloc (.cells #[.slice a4 LL c4, .slice a5 nn c5] 49)).grownBy w6 (Value.ownBlock (.slice a9 QL c9))) := hg6; have HW6 : Hid (v6.ownBlock = Value.ownBlock (.slice a9 QL c9) ∨ v6.ownBlock = some (w3.alloc (.cells #[.slice a4 LL c4, .slice a5 nn c5] 49)).heap.size) := hw6; have HZR : Hid (SRd pntE w6 epa e.ps) := zr; clear ho6 hg6 hw6 zr))
        all_goals (
          have HFC : Hid (w6.frozen? ⟨ep, 1, none⟩ = false) := zf
          go_wp2_with fail
          refine (HCL.out w6 HZR.out).mono ?_
          rintro r w7 ⟨a2, c2, rfl, ho7, hg7⟩
          obtain ⟨done', Bq, Xq, hcc, hss⟩ := HCUT.out w3 w6 w7 a4 a5 a2 c4 c5 c2 raw5 v6 HGA.out HW3.out HW1.out HW2.out HO6.out HG6.out HW6.out HO4.out HO5.out ho7 hg7
          have HCC : Hid (CutAt w (w7.setCell ⟨ep, 1, none⟩ (.slice a2 (PL - nn) c2)) base hb m1 m2 lim n es B b (k + 1) done' Bq Xq v6) := hcc
          have HSS : Hid (SOwn ptsE 77 (w7.setCell ⟨ep, 1, none⟩ (.slice a2 (PL - nn) c2)) base (.slice (some ⟨bb, off, none⟩) M c) M (es.map (·.p))) := hss
          have t1 := hg7.cell z1 (by simp)
          have t0 := hg7.cell z0 (by simp)
          have tf : w7.frozen? ⟨ep, 1, none⟩ = false := frozen_grown hg7 (cell_lt z1) HFC.out
          clear ho7 hg7 hcc hss z0 z1 zf
          go_wp2
          go_roundw
          case rel => exact ⟨k + 1, done', Bq, Xq, by omega, by go_num, HCC.out, HSS.out⟩
          case measure => simp [intOf]; omega)
    · obtain rfl : k = M := by omega
      have hi : ¬ (k : Int) < (k : Int) := by omega
      have HHD : Hid (HeadIs wr base hb m1 m2 lim n done Bk) := by
        have h6 := HCA.out.head
        rw [EM.out, List.drop_length, List.append_nil] at h6
        exact h6
      have HDL : Hid (done.length ≤ 1024) := by
        have h6 := congrArg List.length HCA.out.done
        rw [List.length_map, List.length_map, List.length_take] at h6
        show _ ≤ _
        omega
      have HCE : Hid (CutAt w wr base hb m1 m2 lim n es B b es.length done Bk X (.slice a9 QL c9)) := by
        have h6 := HCA.out
        rw [EM.out] at h6
        exact h6
      clear HCA
      go_wp2_with fail
      refine (HDROP.out wr done Bk HHD.out HDL.out).mono ?_
      rintro r w2 ⟨rfl, B2, hh2, hs2⟩
      have HFIN : Hid (CutOut w base hb lim N P S B b (.returned (.slice a9 QL c9)) w2) := HDONE.out wr w2 done Bk X B2 _ HCE.out hh2 hs2
      clear hh2 hs2
      go_wp2
      go_ret
      exact HFIN.out
end Go.Proofs.YtpabbmiibehfjaaGreatDoor

