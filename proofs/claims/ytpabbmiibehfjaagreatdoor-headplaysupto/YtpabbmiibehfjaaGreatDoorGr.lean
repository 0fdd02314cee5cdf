/- Several texts in one: Ic, Id. -/
import Derived.Test.YtpabbmiibehfjaaGreatDoorGq
/- Package head: dropEmpty. -/
namespace Go.Proofs.YtpabbmiibehfjaaGreatDoor
open Go.RowKit Go.Maps
set_option linter.unusedVariables false
set_option maxRecDepth 20000

structure DropAt (w0 wr : World) (base hb m1 m2 lim n : Nat) (es : List Ent) (B : Nat → Prop) (X : List Ent) (tb nT : Nat) (T : Lab → Prop) : Prop where
  row : HRow wr hb m1 m2 lim
  ser : MapG serM wr m1 n (serF X)
  post : PostIs wr base m2 n (postD es) B
  ent : ∀ e ∈ es, EntIs wr base e
  ts : TS wr tb nT T
  kept : Kept w0 wr (fun x => x = m1)
  new : w0.heap.size ≤ tb
theorem DropAt.grown {w0 wr w' : World} {base hb m1 m2 lim n : Nat} {es : List Ent} {B : Nat → Prop} {X : List Ent} {tb nT : Nat} {T : Lab → Prop} (h : DropAt w0 wr base hb m1 m2 lim n es B X tb nT T) (hg : wr.grownBy w' none) : DropAt w0 w' base hb m1 m2 lim n es B X tb nT T :=
  ⟨h.row.kept hg, mapG_kept serM h.ser hg (by simp), h.post.kept hg, fun e he => (h.ent e he).kept hg, h.ts.kept hg (by simp), h.kept.trans (Kept.of hg (X := fun x => x = m1) (by simp)) (fun k _ h => h), h.new⟩
/-- A map's update leaves the rest. -/
theorem DropAt.other {w0 wr w' : World} {base hb m1 m2 lim n : Nat} {es : List Ent} {B : Nat → Prop} {X : List Ent} {tb nT : Nat} {T : Lab → Prop} (h : DropAt w0 wr base hb m1 m2 lim n es B X tb nT T) {m : Nat} (hm : IsMap wr m) (h2 : m ≠ m2) (hg : wr.grownBy w' (some m)) : HRow w' hb m1 m2 lim ∧ PostIs w' base m2 n (postD es) B ∧ (∀ e ∈ es, EntIs w' base e) := by
  have st : ∀ b t, Typed wr b t → w'.heap[b]? = wr.heap[b]? := fun b t hb => hg.block b (typed_lt hb) (fun e => Typed.map hb hm (Option.some.inj e))
  refine ⟨h.row.stay (st _ _ h.row.typed), h.post.stay (fun k hk hX => ?_), fun e he => (h.ent e he).stay (st _ _ (rowIs_typed (h.ent e he).row)) (fun x hx => ?_) (fun x hx => ?_)⟩
  · rcases hX with rfl | hX
    · exact hg.block k hk (fun e => h2 (Option.some.inj e).symm)
    · exact st _ _ hX.1
  · have h6 := (h.ent e he).lab
    rw [hx] at h6
    exact st _ _ (sown_typed h6)
  · have h6 := (h.ent e he).pts
    rw [hx] at h6
    exact st _ _ (sown_typed h6)
theorem DropAt.del {w0 wr : World} {base hb m1 m2 lim n : Nat} {es : List Ent} {B : Nat → Prop} {A C : List Ent} {e : Ent} {tb nT : Nat} {T : Lab → Prop} (h : DropAt w0 wr base hb m1 m2 lim n es B (A ++ e :: C) tb nT T) (hm : m1 ≠ m2) (ht : m1 ≠ tb) (hok : ∀ f ∈ A ++ e :: C, checkR f.ls = 0) (hs : Sets ((A ++ e :: C).map (·.ls))) :
    ∃ w', (∀ ty, (Builtin.delete_ #[63, 9] ty #[.map (some m1), .string (keyS e.ls)]).run Tryz.prog wr = .ok (.tuple #[]) w') ∧ DropAt w0 w' base hb m1 m2 lim n es B (A ++ C) tb nT T ∧ wr.grownBy w' (some m1) := by
  obtain ⟨w', hrun, hm', hg⟩ := mapG_del serM h.ser (keyS e.ls) (keyS_size (hok e (by simp))) 0
  obtain ⟨k1, k2, k3⟩ := h.other (mapG_map serM h.ser) hm hg
  refine ⟨w', fun ty => hrun, ⟨k1, ?_, k2, k3, h.ts.kept hg (fun e => ht (Option.some.inj e).symm), h.kept.trans (Kept.of hg (X := fun x => x = m1) (fun k hk => (Option.some.inj hk).symm)) (fun k _ h => h), h.new⟩, hg⟩
  rw [← ser_del hok hs]
  exact hm'
theorem DropAt.touch {w0 wr : World} {base hb m1 m2 lim n : Nat} {es : List Ent} {B : Nat → Prop} {X : List Ent} {tb nT : Nat} {T : Lab → Prop} (h : DropAt w0 wr base hb m1 m2 lim n es B X tb nT T) (h2 : tb ≠ m2) (h1 : tb ≠ m1) (l : Lab) (hl : okK l) (hn : nT < maxLen) :
    ∃ w', (Instr.mapUpdate 105 (.map (some tb)) (.agg #[.string l.1, .string l.2]) (.agg #[])).run Tryz.prog wr = .ok () w' ∧ DropAt w0 w' base hb m1 m2 lim n es B X tb (nT + 1) (fun x => x = l ∨ T x) ∧ wr.grownBy w' (some tb) := by
  obtain ⟨w', hrun, ht, hg⟩ := h.ts.put l hl hn
  obtain ⟨k1, k2, k3⟩ := h.other h.ts.isMap h2 hg
  have hnw := h.new
  refine ⟨w', hrun, ⟨k1, mapG_kept serM h.ser hg (fun e => h1 (Option.some.inj e).symm), k2, k3, ht, h.kept.trans (Kept.of hg (X := fun x => x = tb) (fun k hk => (Option.some.inj hk).symm)) (fun k hk e => by omega), h.new⟩, hg⟩
theorem srd_keptmap {α : Type} {E : Elem α} {w w' : World} {a : Option Addr} {l : List α} {m : Nat} (h : SRd E w a l) (hk : Kept w w' (fun x => x = m)) (hm : IsMap w m) : SRd E w' a l := srd_map h hk.grown1 hm
theorem srd_maps {α : Type} {E : Elem α} {w w' : World} {a : Option Addr} {l : List α} {X : Nat → Prop} (h : SRd E w a l) (hk : Kept w w' X) (hm : ∀ k, X k → IsMap w k) : SRd E w' a l := by
  rcases h with h | ⟨b, off, e, h⟩
  · exact .inl h
  · refine .inr ⟨b, off, e, fun j v hj => ?_⟩
    have hc := h j v hj
    refine cell_kept hk (cell_lt hc) (fun hx => ?_) hc
    obtain ⟨es, c, h1⟩ := hm b hx
    simp [World.cell?, h1] at hc
theorem PostStep.after {w w1 w2 : World} {m2 r : Nat} {B B1 : Nat → Prop} (h : PostStep w w1 m2 B B1) (hg : w1.grownBy w2 (some r)) (hr : w.heap.size ≤ r) : PostStep w w2 m2 B B1 :=
  ⟨h.kept.trans (Kept.of hg (X := fun x => x = r) (fun k hk => (Option.some.inj hk).symm)) (fun k hk e => by omega), h.old, h.more, fun k hk => (h.lt k hk).imp id (fun h6 => Nat.lt_of_lt_of_le h6 hg.size)⟩
section
variable {w w' : World} {b r n : Nat} {D : DataW Unit} {left : Lit → Bool} {cnt : Nat} {R : Value → Option (DataW Unit × List MemPlace)} {k : TypeId}
theorem ranges_stay (h : w.ranges Tryz.prog k R b r n D left cnt) (h1 : w'.heap[b]? = w.heap[b]?) (h2 : w'.heap[r]? = w.heap[r]?) : w'.ranges Tryz.prog k R b r n D left cnt := by
  obtain ⟨es, clock, since, seen, c0, a1, a2, a3, a4, a5, a6⟩ := h
  exact ⟨es, clock, since, seen, c0, h1.trans a1, a2, a3, a4, h2.trans a5, a6⟩
theorem ranges_typed (h : w.ranges Tryz.prog k R b r n D left cnt) {x : Nat} {t : TypeId} (hx : Typed w x t) : x ≠ r ∧ x ≠ b := by
  obtain ⟨es, clock, since, seen, c0, a1, a2, a3, a4, a5, a6⟩ := h
  obtain ⟨c, hc⟩ := hx
  constructor
  · rintro rfl; rw [a5] at hc; cases hc
  · rintro rfl; rw [a1] at hc; cases hc
theorem ranges_map (h : w.ranges Tryz.prog k R b r n D left cnt) {x : Nat} (hx : IsMap w x) : x ≠ r := by
  obtain ⟨es, clock, since, seen, c0, a1, a2, a3, a4, a5, a6⟩ := h
  obtain ⟨es', c, hc⟩ := hx
  rintro rfl
  rw [a5] at hc
  cases hc
end
/-- A head whose postings are thinned. -/
structure ThinAt (wr wq : World) (base hb m1 m2 lim n n' : Nat) (es : List Ent) (B B' : Nat → Prop) (left : Lab → Bool) : Prop where
  row : HRow wq hb m1 m2 lim
  ser : MapG serM wq m1 n (serF (es.filter fun e => !isE e))
  post : PostIs wq base m2 n' (thinD es left) B'
  ent : ∀ e ∈ es, EntIs wq base e
  step : PostStep wr wq m2 B B'
theorem ThinAt.grown {wr wq w' : World} {base hb m1 m2 lim n n' : Nat} {es : List Ent} {B B' : Nat → Prop} {left : Lab → Bool} (h : ThinAt wr wq base hb m1 m2 lim n n' es B B' left) (hg : wq.grownBy w' none) : ThinAt wr w' base hb m1 m2 lim n n' es B B' left :=
  ⟨h.row.kept hg, mapG_kept serM h.ser hg (by simp), h.post.kept hg, fun e he => (h.ent e he).kept hg, h.step.trans (PostStep.grown m2 B' hg)⟩
theorem ThinAt.iter {wr wq w' : World} {base hb m1 m2 lim n n' : Nat} {es : List Ent} {B B' : Nat → Prop} {left : Lab → Bool} {r : Nat} (h : ThinAt wr wq base hb m1 m2 lim n n' es B B' left) (hg : wq.grownBy w' (some r)) (hT : ∀ x t, Typed wq x t → x ≠ r) (hM : ∀ x, IsMap wq x → x ≠ r) (hr : wr.heap.size ≤ r) : ThinAt wr w' base hb m1 m2 lim n n' es B B' left := by
  have st : ∀ b t, Typed wq b t → w'.heap[b]? = wq.heap[b]? := fun b t hb => hg.block b (typed_lt hb) (fun e => hT b t hb (Option.some.inj e))
  have sm : ∀ b, IsMap wq b → w'.heap[b]? = wq.heap[b]? := fun b hb => hg.block b (by obtain ⟨x, c, hc⟩ := hb; exact (Array.getElem?_eq_some_iff.1 hc).1) (fun e => hM b hb (Option.some.inj e))
  refine ⟨h.row.stay (st _ _ h.row.typed), mapG_stay serM h.ser (sm _ (mapG_map serM h.ser)), h.post.stay (fun k hk hX => ?_), fun e he => (h.ent e he).stay (st _ _ (rowIs_typed (h.ent e he).row)) (fun x hx => ?_) (fun x hx => ?_), h.step.after hg hr⟩
  · rcases hX with rfl | hX
    · exact sm _ h.post.isMap
    · exact st _ _ hX.1
  · have h6 := (h.ent e he).lab
    rw [hx] at h6
    exact st _ _ (sown_typed h6)
  · have h6 := (h.ent e he).pts
    rw [hx] at h6
    exact st _ _ (sown_typed h6)
theorem ThinAt.thin {wr wq : World} {base hb m1 m2 lim n n' : Nat} {es : List Ent} {B B' : Nat → Prop} {left left' : Lab → Bool} {l : Lab} (h : ThinAt wr wq base hb m1 m2 lim n n' es B B' left) (hm : m1 ≠ m2) (hl : okK l) (hlt : left l = true) (ht : touchK es es.length l) (hn : n' < maxLen) (hz : es.length ≤ 1024) (hle : ∀ x, okK x → left' x = if x = l then false else left x) :
    Calls Tryz.prog 69 #[.pointer (some ⟨hb, 0, none⟩), .agg #[.string l.1, .string l.2]] wq fun e w' => e = .returned (.tuple #[]) ∧ ∃ B2, ThinAt wr w' base hb m1 m2 lim n (n' + 1) es B B2 left' ∧ Kept wq w' (PB wq m2 B') := by
  have hD : thinD es left l = (es.filter (posts l)).map (·.p) := by unfold thinD; rw [if_pos hlt]; rfl
  obtain ⟨e0, he0, _, hp0⟩ := ht
  have hne : es.filter (posts l) ≠ [] := by
    intro h6
    have : e0 ∈ es.filter (posts l) := List.mem_filter.2 ⟨List.mem_of_mem_take he0, hp0⟩
    rw [h6] at this
    cases this
  refine (h_thin base hb m1 m2 lim n' (thinD es left) B' (es.filter (posts l)) l wq h.row h.post hD hne (fun e he => h.ent e (List.mem_filter.1 he).1) hl hn (Nat.le_trans (List.length_filter_le _ _) (by omega))).mono ?_
  rintro r w' ⟨rfl, ho⟩
  obtain ⟨B2, hp2, hst⟩ := ho.step
  have hmp := h.post.isMap
  refine ⟨rfl, B2, ⟨hst.row hmp h.row, hst.map h.ser hm, hp2.congr (fun x hx => ?_), fun e he => hst.entry hmp (h.ent e he), h.step.trans hst⟩, hst.kept⟩
  unfold setD thinD
  rw [hle x hx]
  by_cases hxl : x = l
  · rw [if_pos hxl, if_pos hxl, if_neg (by simp), hxl, thin_filter]
  · rw [if_neg hxl, if_neg hxl]
set_option maxHeartbeats 16000000 in
theorem h_dropLoop (base hb m1 m2 lim n : Nat) (es : List Ent) (B : Nat → Prop) (w : World) (h : HeadIs w base hb m1 m2 lim n es B) (hz : es.length ≤ 1024) (hn : n + 20000 < maxLen) :
    Calls Tryz.prog 48 #[.pointer (some ⟨hb, 0, none⟩)] w fun e w' => e = .returned (.tuple #[]) ∧ ∃ B', HeadIs w' base hb m1 m2 lim (n + 18000) (es.filter fun e => !isE e) B' ∧ Step w w' B B' := by
  have hmm := @run_makeMap Tryz.prog
  have H0 : Hid (HeadIs w base hb m1 m2 lim n es B) := h
  have hgW : w.grownBy (w.alloc (.map #[] 0)) none := World.grownBy_alloc w _ none
  have HA : Hid (Calls Tryz.prog 44 #[.pointer (some ⟨hb, 0, none⟩)] (w.alloc (.map #[] 0)) fun e w' => ∃ a c, e = .returned (.slice a es.length c) ∧ SRd ptsE (w.alloc (.map #[] 0)) a (es.map (·.p)) ∧ (w.alloc (.map #[] 0)) = w') := h_all base hb m1 m2 lim n es B _ (h.kept hgW)
  have HD0 : Hid (DropAt w (w.alloc (.map #[] 0)) base hb m1 m2 lim n es B (leftK es 0) w.heap.size 0 (touchK es 0)) := by
    have h1 := h.kept hgW
    refine ⟨h1.row, by rw [leftK_zero]; exact h1.ser, h1.post, h1.ent, (TS.made w).congr (fun l _ => ?_), Kept.of hgW (by simp), Nat.le_refl _⟩
    simp [touchK]
  have HGW : Hid (w.grownBy (w.alloc (.map #[] 0)) none) := hgW
  have HIM : Hid (IsMap (w.alloc (.map #[] 0)) m1 ∧ IsMap (w.alloc (.map #[] 0)) w.heap.size) := ⟨mapG_map serM (h.kept hgW).ser, (TS.made w).isMap⟩
  have HM1 : Hid (m1 < w.heap.size ∧ m2 < w.heap.size ∧ m1 ≠ m2) := ⟨mapG_lt serM h.ser, by obtain ⟨F, h6, _⟩ := h.post; exact mapG_lt posM h6, h.maps⟩
  have HOK : Hid ((∀ f ∈ es, checkR f.ls = 0) ∧ Sets (es.map (·.ls))) := ⟨h.ok, h.sets⟩
  obtain ⟨M, eM⟩ : ∃ M, M = es.length := ⟨_, rfl⟩
  have EM : Hid (M = es.length) := eM
  rw [← eM] at HA hz
  have HMX : Hid (n + 20000 < maxLen) := hn
  clear h hgW eM hn
  go_enter Tryz.func48, Tryz.ntmps48
  go_wp2_with fail
  refine HA.out.mono ?_
  rintro e w1 ⟨a, c, rfl, hr, rfl⟩
  have HR : Hid (SRd ptsE (w.alloc (.map #[] 0)) a (es.map (·.p))) := hr
  clear hr HA hmm
  generalize w.alloc (.map #[] 0) = W at HD0 HGW HR HIM ⊢
  go_wp2
  go_loopw [12] (fun i wr => ∃ (k nT : Nat), k ≤ M ∧ i = .int .i64 k ∧ nT ≤ 17 * k ∧ DropAt w wr base hb m1 m2 lim n es B (leftK es k) w.heap.size nT (touchK es k) ∧ Kept W wr (fun x => x = m1 ∨ x = w.heap.size)) (fun i _ => M - (intOf i).toNat)
  case atStart => exact ⟨0, 0, Nat.zero_le _, rfl, by omega, HD0.out, Kept.refl _ _⟩
  case round =>
    obtain ⟨k, nT, hk, rfl, hnT, hd, hkw⟩ := hrel
    have HD : Hid (DropAt w wr base hb m1 m2 lim n es B (leftK es k) w.heap.size nT (touchK es k)) := hd
    have HKW : Hid (Kept W wr (fun x => x = m1 ∨ x = w.heap.size)) := hkw
    clear hd hkw HD0
    by_cases hlt : k < M
    · have hi : (k : Int) < (M : Int) := by omega
      obtain ⟨e, he⟩ : ∃ e, es[k]? = some e := ⟨_, List.getElem?_eq_getElem (by have := EM.out; omega)⟩
      have HEK : Hid (es[k]? = some e) := he
      have hmem := List.mem_of_getElem? he
      have hok := HOK.out.1 e hmem
      obtain ⟨b, off, rfl, hc⟩ := ptr_cell (i := k) (p := e.p) (srd_maps HR.out HKW.out (fun x hx => by rcases hx with rfl | rfl; exact HIM.out.1; exact HIM.out.2)) (by rw [List.getElem?_map, he]; rfl)
      have hei := HD.out.ent e hmem
      have HEI : Hid (EntIs wr base e) := hei
      have HE := h_empty base e wr hei
      obtain ⟨c0, c1⟩ := hei.cells
      obtain ⟨d0, _, _⟩ := HD.out.row.cells
      cases hq : isE e with
      | false =>
        rw [show decide (e.ps = []) = isE e from rfl, hq] at HE
        have HQ : Hid (isE e = false) := hq
        clear hq he hei hmem hok c0 c1 d0
        go_wp2_with fail
        refine HE.mono ?_
        rintro r w2 ⟨rfl, rfl⟩
        go_wp2
        go_roundw
        case rel =>
          refine ⟨k + 1, nT, by omega, by go_num, by omega, ?_, HKW.out⟩
          rw [leftK_keep HEK.out HQ.out]
          have h6 := HD.out
          refine ⟨h6.row, h6.ser, h6.post, h6.ent, h6.ts.congr (fun l _ => ?_), h6.kept, h6.new⟩
          rw [touchK_next HEK.out, HQ.out]
          simp
        case measure => simp [intOf]; omega
      | true =>
        rw [show decide (e.ps = []) = isE e from rfl, hq] at HE
        have HQ : Hid (isE e = true) := hq
        have hl16 := ok_len hok
        have HLOK : Hid (checkR e.ls = 0) := hok
        obtain ⟨L, eL⟩ : ∃ L, L = e.ls.length := ⟨_, rfl⟩
        have EL : Hid (L = e.ls.length) := eL
        have hcap := sown_cap hei.lab
        have HK : Hid (∀ w2, wr.grownBy w2 none → Calls Tryz.prog 64 #[.slice e.la L e.lc] w2 fun r w' => r = .returned (.string (keyS e.ls)) ∧ w2.grownBy w' none) := fun w2 hg2 => h_key e.la L e.lc e.ls w2 ((SOwn.rd hei.lab).grown hg2 (by simp)) eL.symm hok
        have HDEL : Hid (∀ w2, wr.grownBy w2 none → ∃ w3, (∀ ty, (Builtin.delete_ #[63, 9] ty #[.map (some m1), .string (keyS e.ls)]).run Tryz.prog w2 = .ok (.tuple #[]) w3) ∧ DropAt w w3 base hb m1 m2 lim n es B (leftK es (k + 1)) w.heap.size nT (touchK es k) ∧ Kept W w3 (fun x => x = m1 ∨ x = w.heap.size) ∧ w3.cell? ⟨hb, 0, none⟩ = some (.map (some m1)) ∧ w3.cell? ⟨e.p, 0, none⟩ = some (.slice e.la L e.lc) ∧ EntIs w3 base e) := by
          intro w2 hg2
          have h6 := HD.out.grown hg2
          rw [leftK_form HEK.out] at h6
          have hsub : ∀ f ∈ (es.take k).filter (fun e => !isE e) ++ e :: es.drop (k + 1), f ∈ es := fun f hf => (leftK_sub es k).subset (by rw [leftK_form HEK.out]; exact hf)
          have hm := HM1.out
          obtain ⟨w3, hr3, hd3, hg3⟩ := h6.del hm.2.2 (by omega) (fun f hf => HOK.out.1 f (hsub f hf)) (by
            have := HOK.out.2
            unfold Sets at this ⊢
            refine this.sublist ?_
            rw [← leftK_form HEK.out]
            exact (leftK_sub es k).map _)
          refine ⟨w3, hr3, by rw [leftK_drop HEK.out HQ.out]; exact hd3, (HKW.out.trans (Kept.of hg2 (X := fun x => x = m1 ∨ x = w.heap.size) (by simp)) (fun x _ h => h)).trans (Kept.of hg3 (X := fun x => x = m1 ∨ x = w.heap.size) (fun x hx => .inl (Option.some.inj hx).symm)) (fun x _ h => h), hd3.row.cells.1, ?_, hd3.ent e (List.mem_of_getElem? HEK.out)⟩
          rw [EL.out]
          exact (hd3.ent e (List.mem_of_getElem? HEK.out)).cells.1
        have HPS : Hid (∀ w3, EntIs w3 base e → Calls Tryz.prog 65 #[.slice e.la L e.lc] w3 fun r w' => ∃ g c', r = .returned (.slice (some ⟨g, 0, none⟩) (L + 1) c') ∧ SOwn labE 62 w' w3.heap.size (.slice (some ⟨g, 0, none⟩) (L + 1) c') (L + 1) (noLab :: e.ls) ∧ w3.grownBy w' none) := fun w3 h3 => h_posts e.la L e.lc e.ls w3 (SOwn.rd h3.lab) eL.symm (by omega) hcap.2
        rw [← eL] at c0 hl16
        generalize keyS e.ls = KS at HK HDEL
        clear hq he hei hmem hok eL hcap
        go_wp2_with fail
        refine HE.mono ?_
        rintro r w2 ⟨rfl, rfl⟩
        have HGD : Hid (wr.grownBy wr.drew none) := gb_drew (World.grownBy.refl _ _)
        clear HE
        go_wp2
        go_region_held3 (fun X => X.cell? ⟨hb, 0, none⟩ = some (.map (some m1)) ∧ X.cell? ⟨e.p, 0, none⟩ = some (.slice e.la L e.lc)) (go_keep) (first
          | (go_at_call 64; refine (HK.out _ HGD.out).mono ?_; rintro r w3 ⟨rfl, hg3⟩; have g0 := hg3.cell d0 (by simp); have g1 := hg3.cell c0 (by simp); obtain ⟨w4, hdel, hd4, hkw4, f0, f1, hei4⟩ := HDEL.out w3 (HGD.out.trans hg3); have HD4 : Hid (DropAt w w4 base hb m1 m2 lim n es B (leftK es (k + 1)) w.heap.size nT (touchK es k)) := hd4; have HKW4 : Hid (Kept W w4 (fun x => x = m1 ∨ x = w.heap.size)) := hkw4; have HEI4 : Hid (EntIs w4 base e) := hei4; clear hg3 hd4 hkw4 hei4))
        all_goals (
          go_wp2_with fail
          refine (HPS.out _ HEI4.out).mono ?_
          rintro r w5 ⟨g5, c5, rfl, ho5, hg5⟩
          have HO5 : Hid (SOwn labE 62 w5 w4.heap.size (.slice (some ⟨g5, 0, none⟩) (L + 1) c5) (L + 1) (noLab :: e.ls)) := ho5
          have HD5 : Hid (DropAt w w5 base hb m1 m2 lim n es B (leftK es (k + 1)) w.heap.size nT (touchK es k)) := HD4.out.grown hg5
          have HKW5 : Hid (Kept W w5 (fun x => x = m1 ∨ x = w.heap.size)) := HKW4.out.trans (Kept.of hg5 (X := fun x => x = m1 ∨ x = w.heap.size) (by simp)) (fun x _ h => h)
          have HT5 : Hid (IsMap w5 w.heap.size) := HD5.out.ts.isMap
          clear ho5 hg5 f0 f1 g0 g1 HD4 HKW4 HEI4 HK HDEL HPS HD HKW HEI c0 c1 d0 hdel
          go_wp2
          go_loopw [34] (fun i wq => ∃ (j nU : Nat), j ≤ L + 1 ∧ i = .int .i64 j ∧ nU ≤ nT + j ∧ DropAt w wq base hb m1 m2 lim n es B (leftK es (k + 1)) w.heap.size nU (fun l => l ∈ (noLab :: e.ls).take j ∨ touchK es k l) ∧ Kept w5 wq (fun x => x = w.heap.size)) (fun i _ => L + 1 - (intOf i).toNat)
          case atStart =>
            refine ⟨0, nT, Nat.zero_le _, rfl, by omega, ?_, Kept.refl _ _⟩
            have h6 := HD5.out
            exact ⟨h6.row, h6.ser, h6.post, h6.ent, h6.ts.congr (fun l _ => by simp), h6.kept, h6.new⟩
          case round =>
            rename World => wq
            obtain ⟨j, nU, hj, rfl, hnU, hdq, hkq⟩ := hrel
            have HDQ : Hid (DropAt w wq base hb m1 m2 lim n es B (leftK es (k + 1)) w.heap.size nU (fun l => l ∈ (noLab :: e.ls).take j ∨ touchK es k l)) := hdq
            have HKQ : Hid (Kept w5 wq (fun x => x = w.heap.size)) := hkq
            clear hdq hkq
            by_cases hjl : j < L + 1
            · have hji : (j : Int) < (L : Int) + 1 := by omega
              obtain ⟨⟨l1, l2⟩, hl⟩ : ∃ l, (noLab :: e.ls)[j]? = some l := ⟨_, List.getElem?_eq_getElem (by rw [List.length_cons, ← EL.out]; omega)⟩
              have HLJ : Hid ((noLab :: e.ls)[j]? = some (l1, l2)) := hl
              have hokl : okK (l1, l2) := by
                rcases List.mem_cons.1 (List.mem_of_getElem? hl) with h6 | h6
                · rw [h6]; exact okK_no
                · exact (ok_okK HLOK.out _ h6).1
              have hrd : SRd labE wq (some ⟨g5, 0, none⟩) (noLab :: e.ls) := srd_keptmap (SOwn.rd HO5.out) HKQ.out HT5.out
              obtain ⟨b6, o6, e6, hc6⟩ := hrd.at (by simp)
              cases e6
              have a0 : wq.cell? ⟨g5, j * 2, none⟩ = some (.string l1) := by have := hc6 j _ 0 _ hl rfl; rwa [Nat.zero_add] at this
              have a1 : wq.cell? ⟨g5, j * 2 + 1, none⟩ = some (.string l2) := by have := hc6 j _ 1 _ hl rfl; rwa [Nat.zero_add] at this
              have hgl : wq.grownBy (wq.alloc (.cells #[.string l1, .string l2] 62)) none := World.grownBy_alloc wq _ none
              have hm := HM1.out
              obtain ⟨w7, hput, hd7, hg7⟩ := (HDQ.out.grown hgl).touch (by omega) (by omega) (l1, l2) hokl (by have := HMX.out; omega)
              have HD7 : Hid (DropAt w w7 base hb m1 m2 lim n es B (leftK es (k + 1)) w.heap.size (nU + 1) (fun l => l ∈ (noLab :: e.ls).take (j + 1) ∨ touchK es k l)) := by
                refine ⟨hd7.row, hd7.ser, hd7.post, hd7.ent, hd7.ts.congr (fun x _ => ?_), hd7.kept, hd7.new⟩
                rw [List.take_add_one, hl]
                simp only [List.mem_append, Option.mem_toList, Option.some.injEq]
                constructor
                · rintro (h6 | h6 | h6)
                  · exact .inl (.inr h6.symm)
                  · exact .inl (.inl h6)
                  · exact .inr h6
                · rintro ((h6 | h6) | h6)
                  · exact .inr (.inl h6)
                  · exact .inl h6.symm
                  · exact .inr (.inr h6)
              have HKQ7 : Hid (Kept w5 w7 (fun x => x = w.heap.size)) := (HKQ.out.trans (Kept.of hgl (X := fun x => x = w.heap.size) (by simp)) (fun x _ h => h)).trans (Kept.of hg7 (X := fun x => x = w.heap.size) (fun x hx => (Option.some.inj hx).symm)) (fun x _ h => h)
              clear hc6 hl hrd hd7 hg7 hgl hokl
              go_wp2
              go_roundw
              case rel => exact ⟨j + 1, nU + 1, by omega, by go_num, by omega, HD7.out, HKQ7.out⟩
              case measure => simp [intOf]; omega
            · have hji : ¬ (j : Int) < (L : Int) + 1 := by omega
              have hjL : j = L + 1 := by omega
              subst hjL
              go_wp2
              go_roundw
              case rel =>
                refine ⟨k + 1, nU, by omega, by go_num, by omega, ?_, HKW5.out.trans HKQ.out (fun x _ hx => .inr hx)⟩
                have h6 := HDQ.out
                refine ⟨h6.row, h6.ser, h6.post, h6.ent, h6.ts.congr (fun l _ => ?_), h6.kept, h6.new⟩
                rw [touchK_next HEK.out, HQ.out, posts_iff, List.take_of_length_le (by rw [List.length_cons, ← EL.out]; exact Nat.le_refl _), List.mem_cons]
                simp
              case measure => simp [intOf]; omega)
    · obtain rfl : k = M := by omega
      have hi : ¬ (k : Int) < (k : Int) := by omega
      have hd := HD.out
      rw [EM.out, leftK_end] at hd
      obtain ⟨D, hDm, hDh, hDk⟩ := hd.ts
      have HDM : Hid (wr.ownsMap Tryz.prog 62 (unitElem (H := Unit)) w.heap.size nT D) := hDm
      have HDH : Hid (∀ l, okK l → (Maps.has D (kL l) = true ↔ touchK es es.length l)) := hDh
      have HDK : Hid (∀ kl, Maps.has D kl = true → ∃ l, okK l ∧ kl = kL l) := hDk
      have HROW : Hid (HRow wr hb m1 m2 lim) := hd.row
      have HSER : Hid (MapG serM wr m1 n (serF (es.filter fun e => !isE e))) := hd.ser
      have HPOST : Hid (PostIs wr base m2 n (postD es) B) := hd.post
      have HENT : Hid (∀ e ∈ es, EntIs wr base e) := hd.ent
      have HKPT : Hid (Kept w wr (fun x => x = m1)) := hd.kept
      have HSIZE : Hid (Maps.size D ≤ nT) := hDm.size_le
      clear hd hDm hDh hDk HD HKW
      go_wp2_with (first
        | (at_range; refine wpList_range_own _ rfl _ 105 rfl 62 107 law62 Tryz.underlying105 _ w.heap.size nT _ rfl HDM.out ?_; intro w0 hrg0 hg0 hs0)
        | go_in)
      obtain ⟨r, er⟩ : ∃ r, r = wr.heap.size := ⟨_, rfl⟩
      rw [← er] at hrg0 hs0
      have HR0 : Hid (wr.heap.size ≤ r) := by rw [er]; exact Nat.le_refl _
      have HRG0 : Hid (w0.ranges Tryz.prog 62 (unitElem (H := Unit)) w.heap.size r nT D (Maps.has D) (Maps.size D)) := hrg0
      have HT0 : Hid (ThinAt wr w0 base hb m1 m2 lim n n es B B (fun l => !(Maps.has D (kL l)) || Maps.has D (kL l))) := by
        refine ⟨HROW.out.kept hg0, mapG_kept serM HSER.out hg0 (by simp), (HPOST.out.kept hg0).congr (fun l _ => ?_), fun e he => (HENT.out e he).kept hg0, PostStep.grown m2 B hg0⟩
        unfold thinD
        rw [if_pos (by simp)]
      rw [← er]
      clear hrg0 hg0 hs0 er
      go_loopw [7] (fun _ wq => ∃ (left : Lit → Bool) (cnt n' : Nat) (B' : Nat → Prop), wq.ranges Tryz.prog 62 (unitElem (H := Unit)) w.heap.size r nT D left cnt ∧ n' + cnt ≤ n + nT ∧ (∀ kl, left kl = true → Maps.has D kl = true) ∧ ThinAt wr wq base hb m1 m2 lim n n' es B B' (fun l => !(Maps.has D (kL l)) || left (kL l))) (fun _ wq => wq.rangeLeft w.heap.size r)
      case atStart => exact ⟨_, _, n, B, HRG0.out, by have := HSIZE.out; omega, fun kl h => h, HT0.out⟩
      case round =>
        rename World => wq
        obtain ⟨left, cnt, n', B', hrg, hnc, hlh, hth⟩ := hrel
        have HRG : Hid (wq.ranges Tryz.prog 62 (unitElem (H := Unit)) w.heap.size r nT D left cnt) := hrg
        have HLH : Hid (∀ kl, left kl = true → Maps.has D kl = true) := hlh
        have HTH : Hid (ThinAt wr wq base hb m1 m2 lim n n' es B B' (fun l => !(Maps.has D (kL l)) || left (kL l))) := hth
        clear hrg hlh hth HRG0 HT0
        go_wp2_with (first
          | (at_next; refine wpList_next_ranges _ rfl _ rfl 62 law62 (unitElem (H := Unit)) labV (fun _ : Unit => Value.agg #[]) (fun key kl hkey => by obtain ⟨x, _, hx, _⟩ := keyL_inv key kl hkey; exact ⟨x, hx⟩) (fun v y hv => ⟨(), (unitElem_inv hv).1⟩) w.heap.size r nT _ _ _ rfl HRG.out ?_ ?_)
          | go_in)
        · intro _ hl0
          have HFIN : Hid (∃ B2, HeadIs wq base hb m1 m2 lim (n + 18000) (es.filter fun e => !isE e) B2 ∧ Step w wq B B2) := by
            have h6 := HTH.out
            have hst := h6.step
            have hpost : PostIs wq base m2 (n + 18000) (postD (es.filter fun e => !isE e)) B' := (h6.post.congr (fun l hl => by
              unfold thinD
              simp only [hl0, Bool.or_false]
              cases hh : Maps.has D (kL l) with
              | true => rw [if_neg (by simp)]
              | false =>
                rw [if_pos (by simp)]
                refine (thin_same (fun ht => ?_)).symm
                rw [(HDH.out l hl).2 ht] at hh
                cases hh)).mono (by omega) (fun k h => h)
            have hkw : w.heap.size ≤ wr.heap.size := HKPT.out.size
            refine ⟨B', H0.out.drop h6.row (mapG_size serM h6.ser (by omega)) hpost h6.ent hst.more hst.lt (fun k hk hb => hst.old k (Nat.lt_of_lt_of_le hk hkw) hb) (Nat.le_trans hkw hst.kept.size), ?_, fun k hk hb => hst.old k (Nat.lt_of_lt_of_le hk hkw) hb⟩
            refine (HKPT.out.mono (fun k _ hk => by rw [hk]; exact H0.out.own.2.1)).trans hst.kept (fun k hk hX => ?_)
            rcases hX with hX | hX
            · obtain ⟨F, _, hm, _⟩ := H0.out.post
              rw [hX]
              exact hm
            · exact hX.2
          clear HTH HRG HLH
          go_wp2
          go_end0
          exact ⟨rfl, HFIN.out⟩
        · intro l1 l2 kl yd yp w1 cnt1 hkey hlk hv hat hrg1 hlt1 hg1 hs1 hen
          obtain ⟨x', hx', ex, rfl⟩ := keyL_inv _ _ hkey
          have exx : x' = (l1, l2) := by
            obtain ⟨q1, q2⟩ := x'
            simp only [labV, Value.agg.injEq, Array.mk.injEq, List.cons.injEq, Value.string.injEq, and_true] at ex
            rw [ex.1, ex.2]
          subst exx
          have hhas := HLH.out _ hlk
          have HT1 : Hid (ThinAt wr w1 base hb m1 m2 lim n n' es B B' (fun l => !(Maps.has D (kL l)) || left (kL l))) := HTH.out.iter hg1 (fun y t hy => (ranges_typed HRG.out hy).1) (fun y hy => ranges_map HRG.out hy) HR0.out
          have HRG1 : Hid (w1.ranges Tryz.prog 62 (unitElem (H := Unit)) w.heap.size r nT D (fun z => left z && !z.sameKey (kL (l1, l2))) cnt1) := hrg1
          have hgl : w1.grownBy (w1.alloc (.cells #[.string l1, .string l2] 62)) none := World.grownBy_alloc w1 _ none
          have hm := HM1.out
          have HS : Hid (Calls Tryz.prog 69 #[.pointer (some ⟨hb, 0, none⟩), .agg #[.string l1, .string l2]] (w1.alloc (.cells #[.string l1, .string l2] 62)) fun e w' => e = .returned (.tuple #[]) ∧ ∃ B2, ThinAt wr w' base hb m1 m2 lim n (n' + 1) es B B2 (fun l => !(Maps.has D (kL l)) || (left (kL l) && !(kL l).sameKey (kL (l1, l2)))) ∧ Kept (w1.alloc (.cells #[.string l1, .string l2] 62)) w' (PB (w1.alloc (.cells #[.string l1, .string l2] 62)) m2 B')) := by
            refine ThinAt.thin (l := (l1, l2)) (HT1.out.grown hgl) hm.2.2 hx' (by simp [hlk]) ((HDH.out _ hx').1 hhas) (by have := HMX.out; omega) (by have := EM.out; omega) (fun y hy => ?_)
            by_cases hyl : y = (l1, l2)
            · subst hyl
              rw [if_pos rfl, WideAt.sameKey_self (law62.key (keyL _ hy)), hhas]
              simp
            · rw [if_neg hyl]
              have hne : (kL y).sameKey (kL (l1, l2)) = false := by
                cases hsk : (kL y).sameKey (kL (l1, l2)) with
                | false => rfl
                | true => exact absurd (kL_inj hy hx' (WideAt.sameKey_eq hsk)) hyl
              rw [hne]
              simp
          have HGL : Hid (w1.grownBy (w1.alloc (.cells #[.string l1, .string l2] 62)) none) := hgl
          have HLT1 : Hid (cnt1 < cnt) := hlt1
          have hen' : (Instr.entry (.pointer (some ⟨r, 0, none⟩))).run Tryz.prog w1 = .ok (.tuple #[.agg #[.string l1, .string l2], .agg #[]]) w1 := hen
          rw [show labV (l1, l2) = .agg #[.string l1, .string l2] from rfl]
          clear hkey hlk hv hat hrg1 hlt1 hg1 hs1 hen hhas ex hgl HT1
          go_wp2_with fail
          refine HS.out.mono ?_
          rintro r9 w9 ⟨rfl, B9, ht9, hk9⟩
          have HT9 : Hid (ThinAt wr w9 base hb m1 m2 lim n (n' + 1) es B B9 (fun l => !(Maps.has D (kL l)) || (left (kL l) && !(kL l).sameKey (kL (l1, l2))))) := ht9
          have HRG9 : Hid (w9.ranges Tryz.prog 62 (unitElem (H := Unit)) w.heap.size r nT D (fun z => left z && !z.sameKey (kL (l1, l2))) cnt1) := by
            have h6 := HRG1.out.kept HGL.out (by simp) (by simp)
            have hm6 : IsMap (w1.alloc (.cells #[.string l1, .string l2] 62)) w.heap.size := by
              obtain ⟨es', c', s', z', d', a1, _⟩ := h6
              exact ⟨es', c', a1⟩
            refine ranges_stay h6 (hk9.block _ (by obtain ⟨a1, a2, a3⟩ := hm6; exact (Array.getElem?_eq_some_iff.1 a3).1) (fun hX => ?_)) (hk9.block _ h6.lt (fun hX => ?_))
            · rcases hX with hX | hX
              · have := HM1.out; omega
              · exact Typed.map hX.1 hm6 rfl
            · rcases hX with hX | hX
              · have h7 := HM1.out; have h8 := HR0.out; have h9 := HKPT.out.size; omega
              · exact (ranges_typed h6 hX.1).1 rfl
          clear ht9 hk9 HS
          go_wp2
          go_roundw
          case rel => exact ⟨_, cnt1, n' + 1, B9, HRG9.out, by have := HLT1.out; omega, fun kl h6 => HLH.out kl (by simp only [Bool.and_eq_true] at h6; exact h6.1), HT9.out⟩
          case measure =>
            rw [HRG.out.left_eq, HRG9.out.left_eq]
            exact HLT1.out
end Go.Proofs.YtpabbmiibehfjaaGreatDoor

/- Package head: Select of no matcher. -/
namespace Go.Proofs.YtpabbmiibehfjaaGreatDoor
open Go.RowKit Go.Maps
set_option linter.unusedVariables false
set_option maxRecDepth 20000

theorem h_saysN (x : Value) (w : World) : Calls Tryz.prog 38 #[.slice none 0 0, x] w fun e w' => e = .returned (.bool true) ∧ w = w' := by
  go_enter Tryz.func38, Tryz.ntmps38
  go_wp2
  go_loopw [9] (fun i wr => i = .int .i64 0 ∧ wr = w) (fun _ _ => 0)
  case atStart => exact ⟨rfl, rfl⟩
  case round =>
    obtain ⟨rfl, rfl⟩ := hrel
    go_wp2
    go_ret
    exact ⟨rfl, rfl⟩
theorem h_likelyN (base hb m1 m2 lim n : Nat) (es : List Ent) (B : Nat → Prop) (w : World) (h : HeadIs w base hb m1 m2 lim n es B) :
    Calls Tryz.prog 36 #[.pointer (some ⟨hb, 0, none⟩), .slice none 0 0] w fun e w' => ∃ a c, e = .returned (.slice a es.length c) ∧ SRd ptsE w a (es.map (·.p)) ∧ w = w' := by
  have HA := h_all base hb m1 m2 lim n es B w h
  generalize es.length = M at HA ⊢
  clear h
  go_enter Tryz.func36, Tryz.ntmps36
  go_wp2_with fail
  refine HA.mono ?_
  rintro e w1 ⟨a, c, rfl, hr, rfl⟩
  have HR : Hid (SRd ptsE w a (es.map (·.p))) := hr
  clear hr HA
  go_wp2
  go_loopw [5, 13] (fun v i wr => v = .slice a M c ∧ i = .int .i64 0 ∧ wr = w) (fun _ _ _ => 0)
  case atStart => exact ⟨rfl, rfl, rfl⟩
  case round =>
    obtain ⟨rfl, rfl, rfl⟩ := hrel
    go_wp2
    go_ret
    exact ⟨a, c, rfl, HR.out, rfl⟩
def allSay : List Lab → Bool := fun _ => true
theorem selS_all (f t : Int) (S : List Ser) : selS allSay f t S = keepS (within f t) S := by
  unfold selS allSay
  rw [List.filter_eq_self.2 (fun _ _ => rfl)]
theorem h_select (base hb lim N P : Nat) (S : List Ser) (B : Nat → Prop) (f t : Int) (w : World) (h : HeadAt w base hb lim N P S B) (hP : P ≤ 8796093022206) :
    Calls Tryz.prog 12 #[.pointer (some ⟨hb, 0, none⟩), .slice none 0 0, .int .i64 f, .int .i64 t] w fun e w' => ∃ v, e = .returned v ∧ SerOut w' (fun k => w.heap.size ≤ k) v (keepS (within f t) S) ∧ w.grownBy w' none := by
  obtain ⟨m1, m2, n, es, h1, h2, h3, h4, h5, h6, h7⟩ := h
  rw [← selS_all]
  refine h_selectG base hb lim N P S B m1 m2 n es _ allSay f t w h1 h3 h4 h5 h6 h7 hP ?_ ?_
  · refine (h_likelyN base hb m1 m2 lim n es B w h1).mono ?_
    rintro e w' ⟨a, c, rfl, hr, rfl⟩
    exact ⟨a, c, es, rfl, hr, fun x hx => hx, Nat.le_refl _, by rw [h3], World.grownBy.refl _ _⟩
  · intro w1 e hg he
    refine (h_saysN _ w1).mono ?_
    rintro r w' ⟨rfl, rfl⟩
    exact ⟨rfl, World.grownBy.refl _ _⟩
/-! Cut. -/
def lowT (b : Int) (p : Pt) : Bool := decide (p.1 < b)
def highT (b : Int) (p : Pt) : Bool := decide (b ≤ p.1)
def cutSer (b : Int) (s : Ser) : Ser := (s.1, s.2.filter (highT b))
theorem keepS_snoc (g : Pt → Bool) (S : List Ser) (s : Ser) : keepS g (S ++ [s]) = keepS g S ++ (if s.2.filter g ≠ [] then [(s.1, s.2.filter g)] else []) := by
  rw [keepS_app]
  congr 1
  unfold keepS
  by_cases h2 : s.2.filter g = []
  · rw [if_neg (by simp [h2])]
    simp [h2]
  · rw [if_pos h2]
    have h3 : (s.2.filter g).isEmpty = false := by simpa using h2
    rw [List.filterMap_cons_some (b := (s.1, s.2.filter g)) (by rw [h3]; simp)]
    rfl
theorem cut_left (b : Int) (S : List Ser) : (S.map (cutSer b)).filter (fun s => !decide (s.2 = [])) = keepS (highT b) S := by
  unfold keepS
  induction S with
  | nil => rfl
  | cons s r ih =>
    rw [List.map_cons, List.filterMap_cons]
    by_cases h : s.2.filter (highT b) = []
    · have e1 : (cutSer b s).2 = [] := h
      rw [List.filter_cons_of_neg (by simp [e1]), ih]
      simp [h]
    · have e1 : ¬ (cutSer b s).2 = [] := h
      rw [List.filter_cons_of_pos (by simp [e1]), ih]
      have h3 : (s.2.filter (highT b)).isEmpty = false := by simpa using h
      simp only [h3]
      rfl
theorem ent_filter (es : List Ent) : (es.filter fun e => !isE e).map entS = (es.map entS).filter fun s => !decide (s.2 = []) := by
  rw [List.filter_map]
  rfl
def cutP (e : Ent) (a : Option Addr) (c : Nat) (b : Int) : Ent := ⟨e.p, e.la, e.lc, e.ls, a, c, e.ps.filter (highT b)⟩
/-- A series' points are put in place of the old ones. -/
theorem put_points {w w2 : World} {base hb m1 m2 lim n : Nat} {es1 es2 : List Ent} {e : Ent} {B : Nat → Prop} {a2 : Option Addr} {c2 : Nat} {b : Int} (h : HeadIs w base hb m1 m2 lim n (es1 ++ e :: es2) B) (ho : SOwn pntE 51 w2 w.heap.size (.slice a2 (e.ps.filter (highT b)).length c2) (e.ps.filter (highT b)).length (e.ps.filter (highT b))) (hg : w.grownBy w2 none) :
    ∃ B', HeadIs (w2.setCell ⟨e.p, 1, none⟩ (.slice a2 (e.ps.filter (highT b)).length c2)) base hb m1 m2 lim n (es1 ++ cutP e a2 c2 b :: es2) B' ∧ Step w (w2.setCell ⟨e.p, 1, none⟩ (.slice a2 (e.ps.filter (highT b)).length c2)) B B' ∧ ∀ k, B' k → B k ∨ ∃ x, a2 = some x ∧ k = x.block := by
  have he : EntIs w base e := h.ent e (by simp)
  have he2 := he.kept hg
  have hgs : w2.grownBy (w2.setCell ⟨e.p, 1, none⟩ (.slice a2 (e.ps.filter (highT b)).length c2)) (some e.p) := gb_set rfl
  have hkept : Kept w (w2.setCell ⟨e.p, 1, none⟩ (.slice a2 (e.ps.filter (highT b)).length c2)) (fun k => k = e.p ∨ ∃ x, e.pa = some x ∧ k = x.block) :=
    (Kept.of hg (X := fun k => k = e.p ∨ ∃ x, e.pa = some x ∧ k = x.block) (by simp)).trans (Kept.of hgs (X := fun k => k = e.p ∨ ∃ x, e.pa = some x ∧ k = x.block) (fun k hk => .inl (Option.some.inj hk).symm)) (fun k _ hX => hX)
  have hTp := rowIs_typed he2.row
  refine h.upd3 (e' := cutP e a2 c2 b) hkept ⟨?_, ?_, ?_, he.ge⟩ rfl rfl (fun x hx => ?_)
  · have h6 := he2.row.set 1 (.slice a2 (e.ps.filter (highT b)).length c2)
    refine h6.congr (fun i hi => ?_)
    match i, hi with
    | 0, _ => rfl
    | 1, _ => rfl
  · refine sown_stay he2.lab (fun x hx => ?_)
    have h6 := he2.lab
    have hx' : e.la = some x := hx
    rw [hx'] at h6
    exact hgs.block _ (typed_lt (sown_typed h6)) (fun e1 => Typed.ne (sown_typed h6) hTp (by decide) (Option.some.inj e1))
  · refine sown_stay (SOwn.base ho h.base) (fun x hx => ?_)
    have hx' : a2 = some x := hx
    subst hx'
    exact hgs.block _ (typed_lt (sown_typed ho)) (fun e1 => Typed.ne (sown_typed ho) hTp (by decide) (Option.some.inj e1))
  · right
    have hx' : a2 = some x := hx
    subst hx'
    exact (SOwn.block ho x.block rfl).1
end Go.Proofs.YtpabbmiibehfjaaGreatDoor

