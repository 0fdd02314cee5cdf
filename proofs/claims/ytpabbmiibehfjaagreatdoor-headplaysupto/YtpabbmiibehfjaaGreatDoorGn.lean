/- Several texts in one: Hv, Hw. -/
import Derived.Test.YtpabbmiibehfjaaGreatDoorGm
/- Package head: a point is added to a series. -/
namespace Go.Proofs.YtpabbmiibehfjaaGreatDoor
open Go.RowKit Go.Maps
set_option linter.unusedVariables false
set_option maxRecDepth 20000

theorem step_append_at {α : Type} {E : Elem α} {P : Program} {t e : TypeId} {bytes : Nat} (T : ElemOf E P t e bytes) {ops : Array Oper} {o : Oper} {a : Act} {w : World} {K : Act → World → Prop} {Q : Exit → Act → World → Prop} {X : Prop} (hgd : o.guard = none) (s x : Operand)
    (ho : o.op = .call { callee := .builtin .append, args := #[s, x], argTypes := #[t, t] }) (base : Nat) (v : Value) (n : Nat) (xs : List α) (hs : a.eval s = v) (hown : SOwn E e w base v n xs)
    (ad : Addr) (zs : List α) (m cap : Nat) (hx : a.eval x = .slice (some ad) m cap) (hm : zs.length = m) (hr : SRd E w (some ad) zs) (hlen : (n + m) * bytes ≤ 140737488355328) (hmax : n + m ≤ maxLen) (hb : base ≤ w.heap.size)
    (h : ∀ v' w', SOwn E e w' base v' (n + m) (xs ++ zs) → w.grownBy w' v.ownBlock → (v'.ownBlock = v.ownBlock ∨ v'.ownBlock = some w.heap.size) → K (a.put o.dst v') w') : if Region.wanted o (yielded ops a.tmps) = true then Oper.wp P o a w K Q else X := by
  have hw : Region.wanted o (yielded ops a.tmps) = true := by simp [Region.wanted, hgd]
  rw [if_pos hw]
  obtain ⟨i0, z, hi, hz0, hz1, hz2, hz3⟩ := T.info
  subst hm
  obtain ⟨v', w', hrun, hown', hg, _, hwh⟩ := run_append_own_at (P := P) w base t o.type e i0 z E.size bytes T.under hi hz0 hz1 hz2 hz3 E.pos v n (E.flat xs) hown ad zs.length cap (E.flat zs) (E.flat_len zs) hr.news (E.flat_one zs) hmax hlen hb
  unfold Oper.wp
  simp [execOp, ho, resolve, invoke, builtin, hs, hx, hrun, Result.andThen]
  rw [← E.flat_app] at hown'
  exact h v' w' hown' hg hwh
theorem sown_slice {α : Type} {E : Elem α} {e : TypeId} {w : World} {base n : Nat} {v : Value} {l : List α} (h : SOwn E e w base v n l) : ∃ a c, v = .slice a n c := by
  rcases h.2 with ⟨h', h0⟩ | ⟨g, cap, cur, h', _⟩
  · exact ⟨none, 0, by rw [h', h0]⟩
  · exact ⟨_, _, h'⟩
theorem srd_lit {α : Type} (E : Elem α) (e : TypeId) (w : World) (l : List α) : SRd E (w.alloc (.cells (E.flat l).toArray e)) (some ⟨w.heap.size, 0, none⟩) l := by
  refine .inr ⟨w.heap.size, 0, rfl, fun j v hj => ?_⟩
  rw [Nat.zero_add, cell_of_row _ w.heap.size j _ e _ (heap_alloc_new w _)]
  simpa using hj
def addP (e : Ent) (a : Option Addr) (c : Nat) (T V : Int) : Ent := ⟨e.p, e.la, e.lc, e.ls, a, c, e.ps ++ [(T, V)]⟩
theorem add_point {w : World} {base hb m1 m2 lim n : Nat} {es1 es2 : List Ent} {e : Ent} {B : Nat → Prop} (h : HeadIs w base hb m1 m2 lim n (es1 ++ e :: es2) B) (T V : Int) :
    SOwn pntE 51 (w.drew.alloc (.cells #[.int .i64 T, .int .u64 V] 51)) base (.slice e.pa e.ps.length e.pc) e.ps.length e.ps ∧ SRd pntE (w.drew.alloc (.cells #[.int .i64 T, .int .u64 V] 51)) (some ⟨w.heap.size, 0, none⟩) [(T, V)] ∧ base ≤ (w.drew.alloc (.cells #[.int .i64 T, .int .u64 V] 51)).heap.size ∧
    ∀ (a2 : Option Addr) (c2 : Nat) (w2 : World), SOwn pntE 51 w2 base (.slice a2 (e.ps.length + 1) c2) (e.ps.length + 1) (e.ps ++ [(T, V)]) → (w.drew.alloc (.cells #[.int .i64 T, .int .u64 V] 51)).grownBy w2 (Value.ownBlock (.slice e.pa e.ps.length e.pc)) → (Value.ownBlock (.slice a2 (e.ps.length + 1) c2) = Value.ownBlock (.slice e.pa e.ps.length e.pc) ∨ Value.ownBlock (.slice a2 (e.ps.length + 1) c2) = some (w.drew.alloc (.cells #[.int .i64 T, .int .u64 V] 51)).heap.size) →
      w2.cell? ⟨e.p, 1, none⟩ = some (.slice e.pa e.ps.length e.pc) ∧ w2.frozen? ⟨e.p, 1, none⟩ = false ∧ ∃ B', HeadIs (w2.setCell ⟨e.p, 1, none⟩ (.slice a2 (e.ps.length + 1) c2)) base hb m1 m2 lim n (es1 ++ addP e a2 c2 T V :: es2) B' ∧ Step w (w2.setCell ⟨e.p, 1, none⟩ (.slice a2 (e.ps.length + 1) c2)) B B' := by
  have hg : w.grownBy (w.drew.alloc (.cells #[.int .i64 T, .int .u64 V] 51)) none := (gb_drew (World.grownBy.refl w none)).trans (World.grownBy_alloc w.drew _ none)
  have he : EntIs w base e := h.ent e (by simp)
  refine ⟨sown_stay he.pts (fun x hx => hg.block _ (he.lt.2.2 x hx).2 (by simp)), srd_lit pntE 51 w.drew [(T, V)], Nat.le_trans h.base hg.size, fun a2 c2 w2 ho2 hg2 hw2 => ?_⟩
  have hpt : ∀ k, Value.ownBlock (.slice e.pa e.ps.length e.pc) = some k → ∃ x, e.pa = some x ∧ x.block = k := by
    intro k hk
    cases hpa : e.pa with
    | none => rw [hpa] at hk; simp [Value.ownBlock] at hk
    | some x => rw [hpa] at hk; exact ⟨x, rfl, by simpa [Value.ownBlock] using hk⟩
  have hTx : ∀ x, e.pa = some x → Typed w x.block 51 := fun x hx => by have h6 := he.pts; rw [hx] at h6; exact sown_typed h6
  have hst : ∀ b t, Typed w b t → t ≠ 51 → w2.heap[b]? = w.heap[b]? := fun b t hb ht =>
    (hg2.block b (Nat.lt_of_lt_of_le (typed_lt hb) hg.size) (fun e1 => by
      obtain ⟨x, hx, e2⟩ := hpt b e1.symm
      exact Typed.ne hb (hTx x hx) ht e2.symm)).trans (hg.block b (typed_lt hb) (by simp))
  have hrow : w2.rowIs e.p 49 2 (SerF (.slice e.la e.ls.length e.lc) (.slice e.pa e.ps.length e.pc)) := he.row.of_block (hst _ _ (rowIs_typed he.row) (by decide))
  refine ⟨hrow.cell (i := 1) (by omega), hrow.frozen 1, ?_⟩
  have hgs : w2.grownBy (w2.setCell ⟨e.p, 1, none⟩ (.slice a2 (e.ps.length + 1) c2)) (some e.p) := gb_set rfl
  have hkept : Kept w (w2.setCell ⟨e.p, 1, none⟩ (.slice a2 (e.ps.length + 1) c2)) (fun k => k = e.p ∨ ∃ x, e.pa = some x ∧ k = x.block) :=
    ((Kept.of hg (X := fun k => k = e.p ∨ ∃ x, e.pa = some x ∧ k = x.block) (by simp)).trans (Kept.of hg2 (X := fun k => k = e.p ∨ ∃ x, e.pa = some x ∧ k = x.block) (fun k hk => by
      obtain ⟨x, hx, e2⟩ := hpt k hk
      exact .inr ⟨x, hx, e2.symm⟩)) (fun k _ hX => hX)).trans (Kept.of hgs (X := fun k => k = e.p ∨ ∃ x, e.pa = some x ∧ k = x.block) (fun k hk => .inl (Option.some.inj hk).symm)) (fun k _ hX => hX)
  have hTp2 : Typed w2 e.p 49 := rowIs_typed hrow
  refine h.upd hkept ⟨?_, ?_, ?_, he.ge⟩ rfl rfl (fun x hx => ?_)
  · have h6 := hrow.set 1 (.slice a2 (e.ps.length + 1) c2)
    refine h6.congr (fun i hi => ?_)
    match i, hi with
    | 0, _ => rfl
    | 1, _ =>
      show (if (1 : Nat) = 1 then (Value.slice a2 (e.ps.length + 1) c2) else _) = .slice a2 (e.ps ++ [(T, V)]).length c2
      rw [if_pos rfl, List.length_append]
      rfl
  · refine sown_stay he.lab (fun x hx => ?_)
    have h6 := he.lab
    have hx' : e.la = some x := hx
    rw [hx'] at h6
    have hT6 := sown_typed h6
    refine (hgs.block _ ?_ (fun e1 => ?_)).trans (hst _ _ hT6 (by decide))
    · exact Nat.lt_of_lt_of_le (typed_lt hT6) (Nat.le_trans hg.size hg2.size)
    · exact Typed.ne hT6 (rowIs_typed he.row) (by decide) (Option.some.inj e1)
  · have hl : (e.ps ++ [(T, V)]).length = e.ps.length + 1 := by simp
    show SOwn pntE 51 _ base (.slice a2 (e.ps ++ [(T, V)]).length c2) (e.ps ++ [(T, V)]).length (e.ps ++ [(T, V)])
    rw [hl]
    refine sown_stay ho2 (fun x hx => ?_)
    subst hx
    have hT6 := sown_typed ho2
    exact hgs.block _ (typed_lt hT6) (fun e1 => Typed.ne hT6 hTp2 (by decide) (Option.some.inj e1))
  · have hx' : a2 = some x := hx
    subst hx'
    rcases hw2 with h6 | h6
    · obtain ⟨y, hy, e2⟩ := hpt x.block h6.symm
      exact .inl ⟨y, hy, e2.symm⟩
    · right
      have e3 : x.block = (w.drew.alloc (.cells #[.int .i64 T, .int .u64 V] 51)).heap.size := by simpa [Value.ownBlock] using h6
      rw [e3]
      exact hg.size
/-! What is added, as lists. -/
theorem add_new {lim : Nat} {S : List Ser} {ls : List Lab} {T V : Int} {es : List Ent} {x : Ent} {a : Option Addr} {c : Nat} (hS : es.map entS = S) (hn : findR S ls = none) (hf : fateR lim S ls T V = 1) (hx : x.ls = ls) (hp : x.ps = []) : (es.take (insAt (es.map (·.ls)) x.ls) ++ addP x a c T V :: es.drop (insAt (es.map (·.ls)) x.ls)).map entS = addR lim S ls T V := by
  unfold addR
  rw [if_pos hf, hn]
  have e1 : es.map (·.ls) = S.map (·.1) := by rw [← hS, List.map_map]; rfl
  simp only
  rw [List.map_append, List.map_cons, List.map_take, List.map_drop, hS, e1, hx]
  unfold entS addP
  rw [hp, hx]
  rfl
theorem add_old {lim : Nat} {S : List Ser} {ls : List Lab} {T V : Int} {es1 es2 : List Ent} {e : Ent} {a : Option Addr} {c : Nat} (hS : (es1 ++ e :: es2).map entS = S) (hg : Good S) (hf : fateR lim S ls T V = 1) (hx : e.ls = ls) : (es1 ++ addP e a c T V :: es2).map entS = addR lim S ls T V := by
  have hmem : (ls, e.ps) ∈ S := by rw [← hS]; exact List.mem_map.2 ⟨e, by simp, by unfold entS; rw [hx]⟩
  unfold addR
  rw [if_pos hf, find_mem hg hmem]
  simp only
  have hnd := sets_nodup hg.sets
  rw [← hS] at hnd ⊢
  rw [List.map_append, List.map_cons, List.map_append, List.map_cons] at hnd
  rw [List.nodup_append, List.nodup_cons] at hnd
  obtain ⟨_, ⟨h2, _⟩, h3⟩ := hnd
  rw [List.map_append, List.map_cons, List.map_append, List.map_cons, List.map_append, List.map_cons]
  have k1 : (es1.map entS).map (fun s => if s.1 = ls then (s.1, s.2 ++ [(T, V)]) else s) = es1.map entS := by
    conv => rhs; rw [← List.map_id (es1.map entS)]
    apply List.map_congr_left
    intro s hs
    rw [if_neg]
    · rfl
    · intro e1
      exact h3 s.1 (List.mem_map.2 ⟨s, hs, rfl⟩) (entS e).1 (by simp) (by rw [e1]; exact hx.symm)
  have k2 : (es2.map entS).map (fun s => if s.1 = ls then (s.1, s.2 ++ [(T, V)]) else s) = es2.map entS := by
    conv => rhs; rw [← List.map_id (es2.map entS)]
    apply List.map_congr_left
    intro s hs
    rw [if_neg]
    · rfl
    · intro e1
      exact h2 (List.mem_map.2 ⟨s, hs, by rw [e1]; exact hx.symm⟩)
  rw [k1, k2, if_pos (show (entS e).1 = ls from hx)]
  rfl
theorem addR_pts {lim P : Nat} {S : List Ser} {ls : List Lab} {T V : Int} (h : ∀ s ∈ S, s.2.length ≤ P) : ∀ s ∈ addR lim S ls T V, s.2.length ≤ P + 1 := by
  intro s hs
  unfold addR at hs
  split at hs
  · split at hs
    · rcases List.mem_append.1 hs with h' | h'
      · have := h s (List.mem_of_mem_take h'); omega
      · rcases List.mem_cons.1 h' with rfl | h'
        · simp
        · have := h s (List.mem_of_mem_drop h'); omega
    · obtain ⟨t, ht, rfl⟩ := List.mem_map.1 hs
      have := h t ht
      split
      · simp; omega
      · omega
  · have := h s hs; omega
end Go.Proofs.YtpabbmiibehfjaaGreatDoor

/- Package head: Add. -/
namespace Go.Proofs.YtpabbmiibehfjaaGreatDoor
open Go.RowKit Go.Maps
set_option linter.unusedVariables false
set_option maxRecDepth 20000

def AddOut (w : World) (base hb lim N P : Nat) (S : List Ser) (B : Nat → Prop) (ls : List Lab) (T V : Int) (e : Ending) (w' : World) : Prop :=
  e = .returned (.int .i64 (fateR lim S ls T V)) ∧ ∃ B', HeadAt w' base hb lim (N + 20) (P + 1) (addR lim S ls T V) B' ∧ Step w w' B B'
theorem add_not {w w' : World} {base hb lim N P : Nat} {S : List Ser} {B : Nat → Prop} {ls : List Lab} {T V : Int} {f : Int} (h : HeadAt w base hb lim N P S B) (hf : fateR lim S ls T V = f) (hne : f ≠ 1) (hg : w.grownBy w' none) : AddOut w base hb lim N P S B ls T V (.returned (.int .i64 f)) w' := by
  refine ⟨by rw [hf], B, ?_, Step.grown B hg⟩
  have : addR lim S ls T V = S := by unfold addR; rw [if_neg (by rw [hf]; exact hne)]
  rw [this]
  exact (h.kept hg).mono (by omega) (by omega)
theorem good_of {w' : World} {base hb lim N P m1 m2 n : Nat} {S : List Ser} {es : List Ent} {B' : Nat → Prop} {ls : List Lab} {T V : Int} (h : HeadIs w' base hb m1 m2 lim n es B') (hn : n ≤ N + 20) (hS : es.map entS = addR lim S ls T V) (hg : Good S) (hl : S.length ≤ lim) (hl2 : lim ≤ 1024) (hP : ∀ s ∈ S, s.2.length ≤ P) : HeadAt w' base hb lim (N + 20) (P + 1) (addR lim S ls T V) B' :=
  ⟨m1, m2, n, es, h, hn, hS, addR_good hg ls T V, addR_len ls T V hl, hl2, addR_pts hP⟩
theorem split_find {es : List Ent} {ls : List Lab} {e : Ent} (h : es.find? (fun e => decide (e.ls = ls)) = some e) : ∃ es1 es2, es = es1 ++ e :: es2 ∧ e.ls = ls := by
  obtain ⟨es1, es2, h1⟩ := List.append_of_mem (List.mem_of_find?_eq_some h)
  exact ⟨es1, es2, h1, by have := List.find?_some h; simpa using this⟩
theorem cell_lt {w : World} {b o : Nat} {v : Value} (h : w.cell? ⟨b, o, none⟩ = some v) : b < w.heap.size := by
  by_cases hb : b < w.heap.size
  · exact hb
  · have : w.heap[b]? = none := by simp; omega
    simp [World.cell?, this] at h
theorem cell_kept {w w' : World} {X : Nat → Prop} {b o : Nat} {v : Value} (hk : Kept w w' X) (hb : b < w.heap.size) (hx : ¬ X b) (h : w.cell? ⟨b, o, none⟩ = some v) : w'.cell? ⟨b, o, none⟩ = some v := by
  have := hk.block b hb hx
  simpa [World.cell?, this] using h
set_option maxHeartbeats 8000000 in
theorem h_add (base hb lim N P : Nat) (S : List Ser) (B : Nat → Prop) (a : Option Addr) (L c : Nat) (ls : List Lab) (T V : Int) (w : World) (h : HeadAt w base hb lim N P S B) (hr : SRd labE w a ls) (hL : ls.length = L) (hz : L ≤ 4398046511104) (hnil : a = none → c = 0) (hP : P ≤ 8796093022206) (hN : N + 20 < 9223372036854775807) :
    Calls Tryz.prog 15 #[.pointer (some ⟨hb, 0, none⟩), .agg #[.slice a L c, .int .i64 T, .int .u64 V]] w (AddOut w base hb lim N P S B ls T V) := by
  have H0 : Hid (HeadAt w base hb lim N P S B) := h
  obtain ⟨m1, m2, n, es, h1, h2, h3, h4, h5, h6, h7⟩ := h
  obtain ⟨W, eW⟩ : ∃ W, W = w.alloc (.cells #[.slice a L c, .int .i64 T, .int .u64 V] 31) := ⟨_, rfl⟩
  have hgW : w.grownBy W none := by rw [eW]; exact World.grownBy_alloc w _ none
  obtain ⟨r0, r1, r2⟩ : W.cell? ⟨w.heap.size, 0, none⟩ = some (.slice a L c) ∧ W.cell? ⟨w.heap.size, 1, none⟩ = some (.int .i64 T) ∧ W.cell? ⟨w.heap.size, 2, none⟩ = some (.int .u64 V) := by rw [eW]; exact row3
  have HM : Hid (Calls Tryz.prog 40 #[.agg #[.slice a L c, .int .i64 T, .int .u64 V]] W fun e w' => e = .returned (.bool (okB ls T)) ∧ W.grownBy w' none) := h_mayBe a L c ls T V W (hr.grown hgW (by simp)) hL hz
  have HOK : Hid (okB ls T = true → checkR ls = 0) := fun hok => by
    unfold okB at hok
    simp only [Bool.and_eq_true, decide_eq_true_eq] at hok
    exact hok.2.2
  have HF : Hid (okB ls T = true → ∀ w1, w.grownBy w1 none → Calls Tryz.prog 42 #[.pointer (some ⟨hb, 0, none⟩), .slice a L c] w1 fun e w' => e = .returned (ptrV ((es.find? fun e => decide (e.ls = ls)).map (·.p))) ∧ w1.grownBy w' none) := fun hok w1 hg => h_find base hb m1 m2 lim n es B a L c ls w1 (h1.kept hg) (hr.grown hg (by simp)) hL (HOK.out hok)
  have HI : Hid (∀ w1, w.grownBy w1 none → Calls Tryz.prog 41 #[.pointer (some ⟨hb, 0, none⟩), ptrV ((es.find? fun e => decide (e.ls = ls)).map (·.p)), .agg #[.slice a L c, .int .i64 T, .int .u64 V]] w1 fun e w' => e = .returned (.int .i64 (fateV lim S.length (findR S ls) T V)) ∧ w1.grownBy w' none) := fun w1 hg => h_fateIn base hb lim N P S B m1 m2 n es _ ls T V w1 (h1.kept hg) h3 h4 h5 h6 h7 hP
  have HGW : Hid (w.grownBy W none) := hgW
  have HFE : Hid (fateR lim S ls T V = if okB ls T = true then fateV lim S.length (findR S ls) T V else 3) := fate_eq
  have H1 : Hid (HeadIs w base hb m1 m2 lim n es B) := h1
  have HR : Hid (SRd labE w a ls) := hr
  have HL : Hid (ls.length = L) := hL
  have HNIL : Hid (a = none → c = 0) := hnil
  have hes : es.length ≤ 1024 := by have := h5; rw [← h3, List.length_map] at this; omega
  have hPS : ∀ e ∈ es, e.ps.length ≤ P := fun e he => h7 (entS e) (by rw [← h3]; exact List.mem_map.2 ⟨e, he, rfl⟩)
  cases hok : okB ls T with
  | false =>
    rw [hok] at HM HFE
    have HFR : Hid (fateR lim S ls T V = 3) := by have := HFE.out; rw [if_neg (by simp)] at this; exact this
    clear h1 h2 h3 h4 h5 h6 h7 hr hL hgW hok HF HI HFE HOK hnil
    subst eW
    go_enter Tryz.func15, Tryz.ntmps15
    go_wp2_with fail
    refine HM.out.mono ?_
    rintro e w1 ⟨rfl, hg1⟩
    have HG1 : Hid (w.grownBy w1 none) := HGW.out.trans hg1
    clear hg1
    go_wp2
    go_ret
    exact add_not H0.out HFR.out (by decide) HG1.out
  | true =>
    rw [hok] at HM HFE
    have HFR : Hid (fateR lim S ls T V = fateV lim S.length (findR S ls) T V) := by have := HFE.out; rw [if_pos rfl] at this; exact this
    replace HF := HF.out hok
    have hck : checkR ls = 0 := HOK.out hok
    generalize fateV lim S.length (findR S ls) T V = R at HI HFR
    clear HOK HFE hok
    -- what is behind: nothing is added
    by_cases hR : R = 1
    · subst hR
      cases hfd : es.find? fun e => decide (e.ls = ls) with
      | none =>
        rw [hfd] at HF HI
        simp only [Option.map_none, ptrV] at HF HI
        have hfn : findR S ls = none := by rw [← h3, find_ent, hfd]; rfl
        have hni : ls ∉ es.map (·.ls) := by
          have h8 := find_none.1 hfn
          rw [← h3, List.map_map] at h8
          exact h8
        have HE : Hid (∀ w1, w.grownBy w1 none → Calls Tryz.prog 43 #[.pointer (some ⟨hb, 0, none⟩), .slice a L c] w1 (EnterOut w1 base hb m1 m2 lim n es B ls)) := fun w1 hg => h_enter base hb m1 m2 lim n es B a L c ls w1 (h1.kept hg) (hr.grown hg (by simp)) hL hck hni hnil (by omega) (by unfold maxLen; omega)
        have hck16 := ok_len hck
        have HDONE : Hid (∀ (w4 w5 : World) (x : Ent) (a2 : Option Addr) (c2 : Nat) (B4 B5 : Nat → Prop), w.grownBy w4 none → x.ls = ls → x.ps = [] → HeadIs w5 base hb m1 m2 lim (n + ls.length + 1) (es.take (insAt (es.map (·.ls)) x.ls) ++ addP x a2 c2 T V :: es.drop (insAt (es.map (·.ls)) x.ls)) B5 → Step w4 w5 B B5 → AddOut w base hb lim N P S B ls T V (.returned (.int .i64 1)) w5) := by
          intro w4 w5 x a2 c2 B4 B5 hg4 hx hp hh hst
          refine ⟨by rw [HFR.out], B5, good_of hh (by omega) (add_new h3 hfn HFR.out hx hp) h4 h5 h6 h7, (Step.grown B hg4).trans hst⟩
        clear h1 h2 h3 h4 h5 h6 h7 hr hL hgW hnil hfd hfn hni hck hPS
        subst eW
        go_enter Tryz.func15, Tryz.ntmps15
        go_wp2_with fail
        refine HM.out.mono ?_
        rintro e w1 ⟨rfl, hg1⟩
        have d0 := hg1.cell r0 (by simp)
        have d1 := hg1.cell r1 (by simp)
        have d2 := hg1.cell r2 (by simp)
        have HG1 : Hid (w.grownBy w1.drew none) := gb_drew (HGW.out.trans hg1)
        clear hg1 r0 r1 r2 HM HGW
        go_wp2
        go_region_held3 (fun X => X.cell? ⟨w.heap.size, 0, none⟩ = some (.slice a L c)) (go_keep) (first
          | (go_at_call 42; refine (HF _ HG1.out).mono ?_; rintro e w2 ⟨rfl, hg2⟩; have e0 := hg2.cell d0 (by simp); have e1 := hg2.cell d1 (by simp); have e2 := hg2.cell d2 (by simp); have HG2 : Hid (w.grownBy w2 none) := HG1.out.trans hg2; clear hg2))
        all_goals (
          go_wp2_with fail
          refine (HI.out _ HG2.out).mono ?_
          rintro e w3 ⟨rfl, hg3⟩
          have f0 := hg3.cell e0 (by simp)
          have f1 := hg3.cell e1 (by simp)
          have f2 := hg3.cell e2 (by simp)
          have HG3 : Hid (w.grownBy w3.drew none) := gb_drew (HG2.out.trans hg3)
          have HBX : Hid (w.heap.size < w3.drew.heap.size) := cell_lt f0
          clear hg3 d0 d1 d2 e0 e1 e2 HI HF HG1 HG2
          go_wp2
          go_region_held3 (fun X => X.cell? ⟨w.heap.size, 0, none⟩ = some (.slice a L c)) (go_keep) (first
            | (go_at_call 43; refine (HE.out _ HG3.out).mono ?_; rintro e w4 ⟨x, B4, rfl, hx, hp, hpa, hpc, hh4, hst4⟩; have HH4 : Hid (HeadIs w4 base hb m1 m2 lim (n + ls.length + 1) (es.take (insAt (es.map (·.ls)) x.ls) ++ x :: es.drop (insAt (es.map (·.ls)) x.ls)) B4) := hh4; have HST4 : Hid (Step w3.drew w4 B B4) := hst4; have g0 : w4.cell? ⟨w.heap.size, 0, none⟩ = some (.slice a L c) := cell_kept hst4.1 HBX.out (fun hb => absurd (H1.out.lt _ hb).2 (Nat.lt_irrefl _)) f0; have g1 : w4.cell? ⟨w.heap.size, 1, none⟩ = some (.int .i64 T) := cell_kept hst4.1 HBX.out (fun hb => absurd (H1.out.lt _ hb).2 (Nat.lt_irrefl _)) f1; have g2 : w4.cell? ⟨w.heap.size, 2, none⟩ = some (.int .u64 V) := cell_kept hst4.1 HBX.out (fun hb => absurd (H1.out.lt _ hb).2 (Nat.lt_irrefl _)) f2; have HXL : Hid (x.ls = ls) := hx; have HXP : Hid (x.ps = []) := hp; clear hh4 hst4 hx hp hpa hpc)))
        all_goals (
          obtain ⟨ho5, hs5, hb5, hfin5⟩ := add_point (e := x) HH4.out T V
          have cx := (HH4.out.ent x (by simp)).cells.2
          have hq5 : x.ps.length ≤ 8796093022206 := by rw [HXP.out]; simp
          have HO5 : Hid (SOwn pntE 51 (w4.drew.alloc (.cells #[.int .i64 T, .int .u64 V] 51)) base (.slice x.pa x.ps.length x.pc) x.ps.length x.ps) := ho5
          have HS5 : Hid (SRd pntE (w4.drew.alloc (.cells #[.int .i64 T, .int .u64 V] 51)) (some ⟨w4.heap.size, 0, none⟩) [(T, V)]) := hs5
          have HB5 : Hid (base ≤ (w4.drew.alloc (.cells #[.int .i64 T, .int .u64 V] 51)).heap.size) := hb5
          have HF5 : Hid (∀ (a2 : Option Addr) (c2 : Nat) (w2 : World), SOwn pntE 51 w2 base (.slice a2 (x.ps.length + 1) c2) (x.ps.length + 1) (x.ps ++ [(T, V)]) → (w4.drew.alloc (.cells #[.int .i64 T, .int .u64 V] 51)).grownBy w2 (Value.ownBlock (.slice x.pa x.ps.length x.pc)) → (Value.ownBlock (.slice a2 (x.ps.length + 1) c2) = Value.ownBlock (.slice x.pa x.ps.length x.pc) ∨ Value.ownBlock (.slice a2 (x.ps.length + 1) c2) = some (w4.drew.alloc (.cells #[.int .i64 T, .int .u64 V] 51)).heap.size) → w2.cell? ⟨x.p, 1, none⟩ = some (.slice x.pa x.ps.length x.pc) ∧ w2.frozen? ⟨x.p, 1, none⟩ = false ∧ AddOut w base hb lim N P S B ls T V (.returned (.int .i64 1)) (w2.setCell ⟨x.p, 1, none⟩ (.slice a2 (x.ps.length + 1) c2))) := by
            intro a2 c2 w2 k1 k2 k3
            obtain ⟨k4, k5, B5, k6, k7⟩ := hfin5 a2 c2 w2 k1 k2 k3
            exact ⟨k4, k5, HDONE.out w3.drew _ x a2 c2 B4 B5 HG3.out HXL.out HXP.out k6 (HST4.out.trans k7)⟩
          clear ho5 hs5 hb5 hfin5 HH4
          generalize x.ps.length = qn at HO5 HF5 cx hq5
          generalize x.ps = qs at HO5 HF5
          generalize x.pa = qa at HO5 HF5 cx
          generalize x.pc = qc at HO5 HF5 cx
          generalize x.p = qp at HF5 cx ⊢
          have cxa : (w4.alloc (.cells #[.int .i64 T, .int .u64 V] 51)).cell? ⟨qp, 1, none⟩ = some (.slice qa qn qc) := (World.grownBy_alloc w4 _ none).cell cx (by simp)
          go_wp2
          go_region_law (refine step_append_at pntT rfl (.tmp 35) (.tmp 41) rfl base (.slice qa qn qc) qn qs (by simp [Act.eval]) HO5.out ⟨w4.heap.size, 0, none⟩ [(T, V)] 1 1 (by simp [Act.eval]) rfl HS5.out ?b1 ?b2 HB5.out ?_; (case b1 => omega); (case b2 => unfold maxLen; omega); intro v6 w6 ho6 hg6 hw6; obtain ⟨a6, c6, rfl⟩ := sown_slice ho6; obtain ⟨cy, fy, hdone⟩ := HF5.out a6 c6 w6 ho6 hg6 hw6; have HDN : Hid (AddOut w base hb lim N P S B ls T V (.returned (.int .i64 1)) (w6.setCell ⟨qp, 1, none⟩ (.slice a6 (qn + 1) c6))) := hdone; clear ho6 hg6 hw6 hdone)
          all_goals go_wp2
          all_goals go_ret
          all_goals exact HDN.out)
      | some e =>
        obtain ⟨es1, es2, hes12, hel⟩ := split_find hfd
        rw [hfd] at HF HI
        simp only [Option.map_some, ptrV] at HF HI
        have HDONE : Hid (∀ (w4 w5 : World) (a2 : Option Addr) (c2 : Nat) (B5 : Nat → Prop), w.grownBy w4 none → HeadIs w5 base hb m1 m2 lim n (es1 ++ addP e a2 c2 T V :: es2) B5 → Step w4 w5 B B5 → AddOut w base hb lim N P S B ls T V (.returned (.int .i64 1)) w5) := by
          intro w4 w5 a2 c2 B5 hg4 hh hst
          rw [hes12] at h3
          exact ⟨by rw [HFR.out], B5, good_of hh (by omega) (add_old h3 h4 HFR.out hel) h4 h5 h6 h7, (Step.grown B hg4).trans hst⟩
        have hEP : e.ps.length ≤ 8796093022206 := by have := hPS e (List.mem_of_find?_eq_some hfd); omega
        have HH0 : Hid (HeadIs w base hb m1 m2 lim n (es1 ++ e :: es2) B) := by rw [← hes12]; exact h1
        clear h1 h2 h3 h4 h5 h6 h7 hr hL hgW hnil hfd hck hPS hes12 hel
        subst eW
        go_enter Tryz.func15, Tryz.ntmps15
        go_wp2_with fail
        refine HM.out.mono ?_
        rintro r w1 ⟨rfl, hg1⟩
        have d0 := hg1.cell r0 (by simp)
        have d1 := hg1.cell r1 (by simp)
        have d2 := hg1.cell r2 (by simp)
        have HG1 : Hid (w.grownBy w1.drew none) := gb_drew (HGW.out.trans hg1)
        clear hg1 r0 r1 r2 HM HGW
        go_wp2
        go_region_held3 (fun X => X.cell? ⟨w.heap.size, 0, none⟩ = some (.slice a L c)) (go_keep) (first
          | (go_at_call 42; refine (HF _ HG1.out).mono ?_; rintro r w2 ⟨rfl, hg2⟩; have e0 := hg2.cell d0 (by simp); have e1 := hg2.cell d1 (by simp); have e2 := hg2.cell d2 (by simp); have HG2 : Hid (w.grownBy w2 none) := HG1.out.trans hg2; clear hg2))
        all_goals (
          go_wp2_with fail
          refine (HI.out _ HG2.out).mono ?_
          rintro r w3 ⟨rfl, hg3⟩
          have g0 := hg3.cell e0 (by simp)
          have g1 := hg3.cell e1 (by simp)
          have g2 := hg3.cell e2 (by simp)
          have HG3 : Hid (w.grownBy w3 none) := HG2.out.trans hg3
          have HH4 : Hid (HeadIs w3 base hb m1 m2 lim n (es1 ++ e :: es2) B) := HH0.out.kept HG3.out
          clear hg3 d0 d1 d2 e0 e1 e2 HI HF HG1 HG2
          obtain ⟨ho5, hs5, hb5, hfin5⟩ := add_point (e := e) HH4.out T V
          have cx := (HH4.out.ent e (by simp)).cells.2
          have hq5 : e.ps.length ≤ 8796093022206 := hEP
          have HO5 : Hid (SOwn pntE 51 (w3.drew.alloc (.cells #[.int .i64 T, .int .u64 V] 51)) base (.slice e.pa e.ps.length e.pc) e.ps.length e.ps) := ho5
          have HS5 : Hid (SRd pntE (w3.drew.alloc (.cells #[.int .i64 T, .int .u64 V] 51)) (some ⟨w3.heap.size, 0, none⟩) [(T, V)]) := hs5
          have HB5 : Hid (base ≤ (w3.drew.alloc (.cells #[.int .i64 T, .int .u64 V] 51)).heap.size) := hb5
          have HF5 : Hid (∀ (a2 : Option Addr) (c2 : Nat) (w2 : World), SOwn pntE 51 w2 base (.slice a2 (e.ps.length + 1) c2) (e.ps.length + 1) (e.ps ++ [(T, V)]) → (w3.drew.alloc (.cells #[.int .i64 T, .int .u64 V] 51)).grownBy w2 (Value.ownBlock (.slice e.pa e.ps.length e.pc)) → (Value.ownBlock (.slice a2 (e.ps.length + 1) c2) = Value.ownBlock (.slice e.pa e.ps.length e.pc) ∨ Value.ownBlock (.slice a2 (e.ps.length + 1) c2) = some (w3.drew.alloc (.cells #[.int .i64 T, .int .u64 V] 51)).heap.size) → w2.cell? ⟨e.p, 1, none⟩ = some (.slice e.pa e.ps.length e.pc) ∧ w2.frozen? ⟨e.p, 1, none⟩ = false ∧ AddOut w base hb lim N P S B ls T V (.returned (.int .i64 1)) (w2.setCell ⟨e.p, 1, none⟩ (.slice a2 (e.ps.length + 1) c2))) := by
            intro a2 c2 w2 k1 k2 k3
            obtain ⟨k4, k5, B5, k6, k7⟩ := hfin5 a2 c2 w2 k1 k2 k3
            exact ⟨k4, k5, HDONE.out w3 _ a2 c2 B5 HG3.out k6 k7⟩
          clear ho5 hs5 hb5 hfin5 HH4
          generalize e.ps.length = qn at HO5 HF5 cx hq5
          generalize e.ps = qs at HO5 HF5
          generalize e.pa = qa at HO5 HF5 cx
          generalize e.pc = qc at HO5 HF5 cx
          generalize e.p = qp at HF5 cx ⊢
          have cxa : (w3.alloc (.cells #[.int .i64 T, .int .u64 V] 51)).cell? ⟨qp, 1, none⟩ = some (.slice qa qn qc) := (World.grownBy_alloc w3 _ none).cell cx (by simp)
          go_wp2
          go_region_law (refine step_append_at pntT rfl (.tmp 35) (.tmp 41) rfl base (.slice qa qn qc) qn qs (by simp [Act.eval]) HO5.out ⟨w3.heap.size, 0, none⟩ [(T, V)] 1 1 (by simp [Act.eval]) rfl HS5.out ?b1 ?b2 HB5.out ?_; (case b1 => omega); (case b2 => unfold maxLen; omega); intro v6 w6 ho6 hg6 hw6; obtain ⟨a6, c6, rfl⟩ := sown_slice ho6; obtain ⟨cy, fy, hdone⟩ := HF5.out a6 c6 w6 ho6 hg6 hw6; have HDN : Hid (AddOut w base hb lim N P S B ls T V (.returned (.int .i64 1)) (w6.setCell ⟨qp, 1, none⟩ (.slice a6 (qn + 1) c6))) := hdone; clear ho6 hg6 hw6 hdone)
          all_goals go_wp2
          all_goals go_ret
          all_goals exact HDN.out)
    · obtain ⟨x, hx⟩ := ptrV_form ((es.find? fun (e : Ent) => decide (e.ls = ls)).map fun (e : Ent) => e.p)
      rw [hx] at HF HI
      have hRn : (R != 1) = true := by simpa using hR
      have HRN : Hid (R ≠ 1) := hR
      clear h1 h2 h3 h4 h5 h6 h7 hr hL hgW hnil hx hck hPS hR
      subst eW
      go_enter Tryz.func15, Tryz.ntmps15
      go_wp2_with fail
      refine HM.out.mono ?_
      rintro e w1 ⟨rfl, hg1⟩
      have d0 := hg1.cell r0 (by simp)
      have d1 := hg1.cell r1 (by simp)
      have d2 := hg1.cell r2 (by simp)
      have HG1 : Hid (w.grownBy w1.drew none) := gb_drew (HGW.out.trans hg1)
      clear hg1 r0 r1 r2 HM HGW
      go_wp2
      go_region_held3 (fun X => X.cell? ⟨w.heap.size, 0, none⟩ = some (.slice a L c)) (go_keep) (first
        | (go_at_call 42; refine (HF _ HG1.out).mono ?_; rintro e w2 ⟨rfl, hg2⟩; have e0 := hg2.cell d0 (by simp); have e1 := hg2.cell d1 (by simp); have e2 := hg2.cell d2 (by simp); have HG2 : Hid (w.grownBy w2 none) := HG1.out.trans hg2; clear hg2))
      all_goals (
        go_wp2_with fail
        refine (HI.out _ HG2.out).mono ?_
        rintro r w3 ⟨rfl, hg3⟩
        have HG3 : Hid (w.grownBy w3 none) := HG2.out.trans hg3
        clear hg3 d0 d1 d2 e0 e1 e2 HI HF HG1 HG2
        go_wp2
        go_ret
        exact add_not H0.out HFR.out HRN.out HG3.out)
end Go.Proofs.YtpabbmiibehfjaaGreatDoor

