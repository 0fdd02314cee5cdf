/- Package chunk: the writer. -/
import Derived.Test.YteahhkpbjkcmhaaDoorDwin
import Derived.Test.YteahhkpbjkcmhaaDoorMh
import Derived.Test.YteahhkpbjkcmhaaDoorRenc
import Derived.Deep.CutRange
import Derived.Deep.RegionWith
import Derived.Deep.RegionLaw
import Derived.Maps.AppendAt
namespace Go.Proofs.YteahhkpbjkcmhaaDoor
open Go.ChangeShapes Go.WideShapes Go.ChangeAt Go.RowKit
set_option linter.unusedVariables false

theorem wholeB_pack (m : List Bool) : wholeB (pack m) m.length = true := by
  rw [wholeB_iff _ _ (by rw [pack_len]; omega)]
  intro j h1 h2
  rw [pack_bit, List.getD_eq_getElem?_getD, List.getElem?_eq_none h1]
  rfl
def WrF (vF vL : Value) (n : Nat) : Nat → Value := fun i => if i = 0 then vF else if i = 1 then vL else .int .i64 n
/-- A writer lies at p. -/
structure WrAt (w : World) (base p : Nat) (l : List Bool) (vF : Value) (a : Option Addr) (N c : Nat) : Prop where
  row : w.rowIs p 62 3 (WrF vF (.slice a N c) (l.length % 8))
  len : (pack (restL l)).length = N
  low : base ≤ p
  own : SOwn byteE 5 w base vF (l.length / 8) (fullB l)
  apart : vF.ownBlock ≠ some p
  rd : Rd w a (pack (restL l))
  last : ∀ x, a = some x → base ≤ x.block ∧ x.block ≠ p ∧ vF.ownBlock ≠ some x.block
  nil : a = none → l = [] ∧ c = 0
  lastlt : ∀ x, a = some x → x.block < w.heap.size
/-- A block that no writing of the writer touches. -/
def Free (w : World) (p j : Nat) : Prop := j < w.heap.size ∧ j ≠ p ∧ (∀ v, w.cell? ⟨p, 0, none⟩ = some v → v.ownBlock ≠ some j) ∧ ∀ x n c, w.cell? ⟨p, 1, none⟩ = some (.slice (some x) n c) → x.block ≠ j
def Frees (w w' : World) (p : Nat) : Prop := ∀ j, Free w p j → w'.heap[j]? = w.heap[j]? ∧ Free w' p j
theorem Frees.refl (w : World) (p : Nat) : Frees w w p := fun j h => ⟨rfl, h⟩
theorem Frees.trans {w w1 w2 : World} {p : Nat} (h : Frees w w1 p) (h' : Frees w1 w2 p) : Frees w w2 p := fun j hj => ⟨((h' j (h j hj).2).1).trans (h j hj).1, (h' j (h j hj).2).2⟩
theorem Frees.cell {w w' : World} {p j o : Nat} {u : Option Value} (h : Frees w w' p) (hj : Free w p j) (hc : w.cell? ⟨j, o, none⟩ = u) : w'.cell? ⟨j, o, none⟩ = u := by
  unfold World.cell? at hc ⊢
  simp only at hc ⊢
  rw [(h j hj).1]
  exact hc
theorem Frees.frozen {w w' : World} {p j o : Nat} {u : Bool} (h : Frees w w' p) (hj : Free w p j) (hc : w.frozen? ⟨j, o, none⟩ = u) : w'.frozen? ⟨j, o, none⟩ = u := by
  unfold World.frozen? at hc ⊢
  simp only at hc ⊢
  rw [(h j hj).1]
  exact hc
theorem frees_grown {w w' : World} {p : Nat} (hg : w.grownBy w' none) (hp : p < w.heap.size) : Frees w w' p := by
  intro j ⟨h1, h2, h3, h4⟩
  refine ⟨hg.block j h1 (by simp), Nat.lt_of_lt_of_le h1 hg.size, h2, ?_, ?_⟩
  · intro v hv
    refine h3 v ?_
    unfold World.cell? at hv ⊢
    simp only at hv ⊢
    rw [← hg.block p hp (by simp)]
    exact hv
  · intro x n c hv
    refine h4 x n c ?_
    unfold World.cell? at hv ⊢
    simp only at hv ⊢
    rw [← hg.block p hp (by simp)]
    exact hv
def WrIs (w : World) (base p : Nat) (l : List Bool) : Prop := ∃ vF a N c, WrAt w base p l vF a N c
theorem sown_slice {α : Type} {E : Elem α} {e : TypeId} {w : World} {base n : Nat} {v : Value} {l : List α} (h : SOwn E e w base v n l) : ∃ a c, v = .slice a n c ∧ (a = none → c = 0) := by
  obtain ⟨_, h2⟩ := h
  rcases h2 with ⟨e, e0⟩ | ⟨g, cap, cur, e, _⟩
  · subst e0; exact ⟨_, _, e, fun _ => rfl⟩
  · exact ⟨_, _, e, fun h => by cases h⟩
theorem step_append_b {ops : Array Oper} {o : Oper} {a : Act} {w : World} {K : Act → World → Prop} {Q : Exit → Act → World → Prop} {E : Prop} (hgd : o.guard = none) (s x : Operand)
    (ho : o.op = .call { callee := .builtin .append, args := #[s, x], argTypes := #[23, 23] }) (base : Nat) (v : Value) (n : Nat) (xs : List Int) (hs : a.eval s = v) (hown : SOwn byteE 5 w base v n xs)
    (ad : Addr) (zs : List Int) (m cap : Nat) (hx : a.eval x = .slice (some ad) m cap) (hm : zs.length = m) (hr : SRd byteE w (some ad) zs) (hlen : (n + m) * 1 ≤ 140737488355328) (hmax : n + m ≤ maxLen) (hb : base ≤ w.heap.size)
    (h : ∀ v' w', SOwn byteE 5 w' base v' (n + m) (xs ++ zs) → w.grownBy w' v.ownBlock → (v'.ownBlock = v.ownBlock ∨ v'.ownBlock = some w.heap.size) → K (a.put o.dst v') w') : if Region.wanted o (yielded ops a.tmps) = true then Oper.wp Tryd.prog o a w K Q else E := by
  have hw : Region.wanted o (yielded ops a.tmps) = true := by simp [Region.wanted, hgd]
  rw [if_pos hw]
  obtain ⟨i0, z, hi, hz0, hz1, hz2, hz3⟩ := byteET.info
  subst hm
  obtain ⟨v', w', hrun, hown', hg, _, hwh⟩ := run_append_own_at (P := Tryd.prog) w base 23 o.type 5 i0 z byteE.size 1 byteET.under hi hz0 hz1 hz2 hz3 byteE.pos v n (byteE.flat xs) hown ad zs.length cap (byteE.flat zs) (byteE.flat_len zs) hr.news (byteE.flat_one zs) hmax hlen hb
  unfold Oper.wp
  simp [execOp, ho, resolve, invoke, builtin, hs, hx, hrun, Result.andThen]
  rw [← byteE.flat_app] at hown'
  exact h v' w' hown' hg hwh
theorem sown_apart {α : Type} {E : Elem α} {e t k : TypeId} {w : World} {base n p : Nat} {v : Value} {l : List α} {F : Nat → Value} (h : SOwn E e w base v n l) (hr : w.rowIs p t k F) (hne : t ≠ e) : v.ownBlock ≠ some p := by
  intro ep
  obtain ⟨_, h2⟩ := h
  rcases h2 with ⟨ev, _⟩ | ⟨g, cap, cur, ev, _, hh, _⟩
  · subst ev; simp [Value.ownBlock] at ep
  · subst ev
    simp only [Value.ownBlock, Option.some.injEq] at ep
    subst ep
    obtain ⟨c', hc', _⟩ := hr
    rw [hc'] at hh
    simp only [Option.some.injEq, Obj.cells.injEq] at hh
    exact hne hh.2.1
theorem wr_next {w wc w2 w3 : World} {base p g q M n r2 cc2 off N' N c k : Nat} {l m : List Bool} {v : Int} {vF : Value} {a a2 : Option Addr} (hW : WrAt w base p l vF a N c) (em : m = restL l ++ bitsI k v) (en : n = m.length) (eq : q = n / 8 ∧ M = (n + 7) / 8) (er2 : r2 = n % 8) (hb : base ≤ w.heap.size)
    (HO1 : Own wc w.heap.size g M M (pack m)) (HG1 : w.grownBy wc none) (HO2 : SOwn byteE 5 w2 base (Value.slice a2 (l.length / 8 + q) cc2) (l.length / 8 + q) (fullB l ++ fullB m)) (HG2 : wc.grownBy w2 vF.ownBlock)
    (HAP : (Value.slice a2 (l.length / 8 + q) cc2).ownBlock ≠ some p ∧ (Value.slice a2 (l.length / 8 + q) cc2).ownBlock ≠ some g ∧ some g ≠ vF.ownBlock ∧ p < w.heap.size)
    (HR3 : w3.rowIs p 62 3 (WrF (Value.slice a2 (l.length / 8 + q) cc2) (.slice a N c) (l.length % 8))) (HG3 : w2.grownBy w3 (some p)) (hN : N' = M - q) (hoff : N' = 0 ∨ off = q)
    (hwh : (Value.slice a2 (l.length / 8 + q) cc2).ownBlock = vF.ownBlock ∨ (Value.slice a2 (l.length / 8 + q) cc2).ownBlock = some wc.heap.size) :
    WrIs ((w3.setCell ⟨p, 1, none⟩ (.slice (some ⟨g, off, none⟩) N' N')).setCell ⟨p, 2, none⟩ (.int .i64 (r2 : Int))) base p (l ++ bitsI k v) ∧ w.Since base ((w3.setCell ⟨p, 1, none⟩ (.slice (some ⟨g, off, none⟩) N' N')).setCell ⟨p, 2, none⟩ (.int .i64 (r2 : Int))) ∧ Frees w ((w3.setCell ⟨p, 1, none⟩ (.slice (some ⟨g, off, none⟩) N' N')).setCell ⟨p, 2, none⟩ (.int .i64 (r2 : Int))) p := by
  obtain ⟨w1, w2', w3'⟩ := wr_more l (bitsI k v)
  rw [← em] at w1 w2' w3'
  have hmod : (l ++ bitsI k v).length % 8 = r2 := by
    rw [← restL_len, w3', restL_len, ← en, er2]
  have hdiv : (l ++ bitsI k v).length / 8 = l.length / 8 + q := by rw [w1, ← en, eq.1]
  obtain ⟨hap, hag, hgF, hpl⟩ := HAP
  have hgp : g ≠ p := by have := HO1.ge.1; omega
  have hset : w3.grownBy ((w3.setCell ⟨p, 1, none⟩ (.slice (some ⟨g, off, none⟩) N' N')).setCell ⟨p, 2, none⟩ (.int .i64 (r2 : Int))) (some p) := gb_trans (gb_set rfl) (gb_set rfl) (fun k hk => .inr hk)
  have hset2 : w2.grownBy ((w3.setCell ⟨p, 1, none⟩ (.slice (some ⟨g, off, none⟩) N' N')).setCell ⟨p, 2, none⟩ (.int .i64 (r2 : Int))) (some p) := gb_trans HG3 hset (fun k hk => .inr hk)
  have hfl : (fullB m).length = q := by rw [fullB_len, ← en, eq.1]
  have hpl2 : (pack (restL m)).length = N' := by rw [pack_len, restL_len, ← en]; omega
  have hrow : ((w3.setCell ⟨p, 1, none⟩ (.slice (some ⟨g, off, none⟩) N' N')).setCell ⟨p, 2, none⟩ (.int .i64 (r2 : Int))).rowIs p 62 3 (WrF (Value.slice a2 (l.length / 8 + q) cc2) (.slice (some ⟨g, off, none⟩) N' N') r2) := by
    refine ((HR3.set 1 _).set 2 _).congr fun i hi => ?_
    unfold WrF
    match i, hi with
    | 0, _ => rfl
    | 1, _ => rfl
    | 2, _ => rfl
  refine ⟨?_, ?_, ?_⟩
  · refine ⟨Value.slice a2 (l.length / 8 + q) cc2, some ⟨g, off, none⟩, N', N', ?_⟩
    refine ⟨?_, by rw [w3']; exact hpl2, hW.low, ?_, hap, ?_, ?_, (fun h => by cases h), fun x hx => by cases hx; exact Nat.lt_of_lt_of_le (Nat.lt_of_lt_of_le HO1.ge.2 HG2.size) hset2.size⟩
    · rw [hmod]
      exact hrow
    · rw [hdiv, w2']
      exact SOwn.kept HO2 hset2 (.inr hap)
    · rw [w3']
      have hrd : Rd wc (some ⟨g, off, none⟩) (pack (restL m)) := by
        rcases hoff with h0 | h0
        · have : pack (restL m) = [] := List.eq_nil_of_length_eq_zero (by omega)
          rw [this]
          exact ⟨.inl rfl, fun z hz => by cases hz⟩
        · have h := HO1
          rw [← full_rest m] at h
          have h2 := h.tail (by rw [hfl, hpl2]; omega)
          rw [hfl, ← h0] at h2
          exact h2
      exact (hrd.grown HG2 (fun x hx => by cases hx; exact hgF)).grown hset2 (fun x hx => by cases hx; simpa using hgp)
    · intro x hx
      cases hx
      exact ⟨Nat.le_trans hb HO1.ge.1, hgp, hag⟩
  · have h1 : w.Since base wc := ⟨HG1.os, HG1.tape, HG1.output, HG1.size, fun k hk => HG1.block k (Nat.lt_of_lt_of_le hk hb) (by simp)⟩
    have h2 : w.Since base w2 := h1.grown HG2 (Nat.le_trans hb HG1.size) (fun k hk => (SOwn.block hW.own k hk).1)
    exact h2.grown hset2 (Nat.le_trans (Nat.le_trans hb HG1.size) HG2.size) (fun k hk => by cases hk; exact hW.low)
  · intro j ⟨j1, j2, j3, j4⟩
    have jF : some j ≠ vF.ownBlock := fun e => j3 vF (hW.row.cell (i := 0) (by omega)) e.symm
    have hj1 : j < wc.heap.size := Nat.lt_of_lt_of_le j1 HG1.size
    have hj2 : j < w2.heap.size := Nat.lt_of_lt_of_le hj1 HG2.size
    refine ⟨((hset2.block j hj2 (by simpa using j2)).trans (HG2.block j hj1 jF)).trans (HG1.block j j1 (by simp)), Nat.lt_of_lt_of_le hj2 hset2.size, j2, ?_, ?_⟩
    · intro v' hv'
      have h := hrow.cell (i := 0) (by omega)
      rw [hv'] at h
      simp only [Option.some.injEq] at h
      subst h
      rcases hwh with e | e
      · show (Value.slice a2 (l.length / 8 + q) cc2).ownBlock ≠ some j
        rw [e]; exact fun h => jF h.symm
      · show (Value.slice a2 (l.length / 8 + q) cc2).ownBlock ≠ some j
        rw [e]
        intro h
        simp only [Option.some.injEq] at h
        omega
    · intro x n' c' hv'
      have h := hrow.cell (i := 1) (by omega)
      rw [hv'] at h
      have h : Value.slice (some x) n' c' = Value.slice (some ⟨g, off, none⟩) N' N' := by simpa [WrF] using h
      simp only [Value.slice.injEq, Option.some.injEq] at h
      rw [h.1]
      have := HO1.ge.1
      show g ≠ j
      omega
set_option maxHeartbeats 4000000 in
theorem f_put (base p : Nat) (l : List Bool) (v : Int) (k : Nat) (w : World) (h : WrIs w base p l) (hv : 0 ≤ v ∧ v ≤ 18446744073709551615) (hk : k ≤ 64) (hl : l.length ≤ 1099511627776) (hb : base ≤ w.heap.size) :
    Calls Tryd.prog 36 #[.pointer (some ⟨p, 0, none⟩), .int .u64 v, .int .i64 k] w fun e w' => e = .returned (.tuple #[]) ∧ WrIs w' base p (l ++ bitsI k v) ∧ w.Since base w' ∧ Frees w w' p := by
  obtain ⟨vF, a, N, c, hW⟩ := h
  have HW : Hid (WrAt w base p l vF a N c) := hW
  have c0 : w.cell? ⟨p, 0, none⟩ = some vF := hW.row.cell (i := 0) (by omega)
  have c1 : w.cell? ⟨p, 1, none⟩ = some (.slice a N c) := hW.row.cell (i := 1) (by omega)
  have c2 : w.cell? ⟨p, 2, none⟩ = some (.int .i64 ((l.length % 8 : Nat) : Int)) := hW.row.cell (i := 2) (by omega)
  obtain ⟨m, em⟩ : ∃ m, m = restL l ++ bitsI k v := ⟨_, rfl⟩
  have hml : m.length = l.length % 8 + k := by rw [em, List.length_append, restL_len, bitsI_len]
  have HM : Hid (Calls Tryd.prog 51 #[.slice a N c, .int .i64 ((l.length % 8 : Nat) : Int), .int .u64 v, .int .i64 k] w.drew fun e w' => ∃ g, e = .returned (.tuple #[.slice (some ⟨g, 0, none⟩) ((m.length + 7) / 8) ((m.length + 7) / 8), .int .i64 (m.length : Int), .bool true]) ∧ Hid (Own w' w.heap.size g ((m.length + 7) / 8) ((m.length + 7) / 8) (pack m)) ∧ Hid (w.grownBy w' none)) := by
    have hA := append_full a (pack (restL l)) c (restL l).length k v w.drew hW.rd (by rw [pack_len, restL_len]; omega) hv (wholeB_pack _) hk
    rw [app_pack, restL_len, hW.len, ← em, ← hml] at hA
    refine hA.mono ?_
    rintro e w' ⟨g, he, ho, hg⟩
    exact ⟨g, he, ho, ⟨hg.os, hg.tape, hg.output, hg.size, hg.block⟩⟩
  obtain ⟨r, er⟩ : ∃ r, r = l.length % 8 := ⟨_, rfl⟩
  have ER : Hid (r = l.length % 8) := er
  rw [← er] at c2 HM
  have hr8 : r < 8 := by omega
  have EM : Hid (m = restL l ++ bitsI k v) := em
  obtain ⟨n, en⟩ : ∃ n, n = m.length := ⟨_, rfl⟩
  have EN : Hid (n = m.length) := en
  rw [← en] at HM
  obtain ⟨q, eq⟩ : ∃ q, q = n / 8 := ⟨_, rfl⟩
  have e1 : (n : Int) / 8 = (q : Int) := by omega
  obtain ⟨r2, er2⟩ : ∃ r2, r2 = n % 8 := ⟨_, rfl⟩
  have ER2 : Hid (r2 = n % 8) := er2
  have e2 : (n : Int) % 8 = (r2 : Int) := by omega
  clear er2
  obtain ⟨M, eM⟩ : ∃ M, M = (n + 7) / 8 := ⟨_, rfl⟩
  rw [← eM] at HM
  have hqM : q ≤ M ∧ M ≤ q + 1 ∧ n ≤ 80 ∧ M ≤ 11 := by omega
  have HQ : Hid (q = n / 8 ∧ M = (n + 7) / 8) := ⟨eq, eM⟩
  clear hW er em hml en eq eM
  go_enter Tryd.func36, Tryd.ntmps36
  go_upto_region 0 with fail
  go_cut [6, 7, 8] from 9 to 23 (fun t6 t7 t8 wc => ∃ g, t6 = .slice (some ⟨g, 0, none⟩) M M ∧ t7 = .int .i64 n ∧ t8 = .bool true ∧ Hid (Own wc w.heap.size g M M (pack m)) ∧ Hid (w.grownBy wc none))
  case first =>
    go_region_with (go_at_call 51; refine HM.out.mono ?_; rintro e w1 ⟨g, rfl, HO1, HG1⟩)
    all_goals go_wp2_with fail
    all_goals go_meet
    all_goals exact ⟨g, rfl, rfl, rfl, HO1, HG1⟩
  case rest =>
    obtain ⟨g, rfl, rfl, rfl, HO1, HG1⟩ := hcut
    have hr1 : wc.rowIs p 62 3 (WrF vF (.slice a N c) (l.length % 8)) := HW.out.row.of_block (HG1.out.block p HW.out.row.lt (by simp))
    have HR1 : Hid (wc.rowIs p 62 3 (WrF vF (.slice a N c) (l.length % 8))) := hr1
    have d0 : wc.cell? ⟨p, 0, none⟩ = some vF := hr1.cell (i := 0) (by omega)
    have f0 := hr1.frozen 0
    have HOW : Hid (SOwn byteE 5 wc base vF (l.length / 8) (fullB l)) := SOwn.kept HW.out.own HG1.out (Classical.em _)
    have hg0 := HO1.out.ge.1
    have ew : IntKind.i64.wrap (q : Int) = (q : Int) := wrap_id _ (by omega)
    have hq0 : (0 : Int) ≤ q := by omega
    have hqi : (q : Int) ≤ (M : Int) := by omega
    have HLEN : Hid ((fullB m).length = q) := by show _ = _; rw [fullB_len, HQ.out.1, EN.out]
    have HSR : Hid (SRd byteE wc.drew (some ⟨g, 0, none⟩) (fullB m)) := by
      have h := HO1.out.rd
      show SRd byteE wc (some ⟨g, 0, none⟩) (fullB m)
      refine .inr ⟨g, 0, rfl, fun j u hj => ?_⟩
      rw [byteE_flat] at hj
      have hj1 : j < (fullB m).length := by
        by_cases hlt : j < (fullB m).length
        · exact hlt
        · rw [List.getElem?_eq_none (by rw [List.length_map]; omega)] at hj; cases hj
      rw [Nat.zero_add]
      have hn := h.news j u ?_
      · rw [show (⟨g, 0, none⟩ : Addr).add j = ⟨g, j, none⟩ by unfold Addr.add; split <;> simp_all] at hn
        exact hn
      unfold bs
      rw [← full_rest m, List.map_append, List.getElem?_append_left (by rw [List.length_map]; exact hj1)]
      exact hj
    have HBS : Hid (base ≤ wc.heap.size) := Nat.le_trans hb HG1.out.size
    have HLB : Hid (l.length / 8 ≤ 137438953472) := by show _ ≤ _; omega
    clear hr1 c0 c1 c2 HM
    go_wp2_with fail
    go_region_law (refine step_append_b rfl (.tmp 28) (.tmp 32) rfl base vF (l.length / 8) (fullB l) (by simp [Act.eval]) HOW.out ⟨g, 0, none⟩ (fullB m) q M (by simp [Act.eval]) HLEN.out HSR.out ?b1 ?b2 HBS.out ?_; (case b1 => have := HLB.out; omega); (case b2 => have := HLB.out; unfold maxLen; omega); intro v2 w2 ho2 hg2 hwh; obtain ⟨a2, cc2, rfl, _⟩ := sown_slice ho2; have hr2 : w2.rowIs p 62 3 (WrF vF (.slice a N c) (l.length % 8)) := HR1.out.of_block (hg2.block p HR1.out.lt (fun e => HW.out.apart e.symm)); have f02 := hr2.frozen 0; have c02 : w2.cell? ⟨p, 0, none⟩ = some vF := hr2.cell (i := 0) (by omega))
    have HO2 : Hid (SOwn byteE 5 w2 base (Value.slice a2 (l.length / 8 + q) cc2) (l.length / 8 + q) (fullB l ++ fullB m)) := ho2
    have hap2 := sown_apart ho2 hr2 (by decide)
    have hpl := HW.out.row.lt
    have hgF : some g ≠ vF.ownBlock := fun e => by have := (SOwn.block HW.out.own g e.symm).2; omega
    have hg2' : (Value.slice a2 (l.length / 8 + q) cc2).ownBlock ≠ some g := by
      rcases hwh with e | e
      · rw [e]; exact fun h => hgF h.symm
      · rw [e]
        intro h
        have h2 := HO1.out.ge.2
        have : wc.drew.heap.size = wc.heap.size := rfl
        simp only [Option.some.injEq] at h
        omega
    have HG2 : Hid (wc.grownBy w2 vF.ownBlock) := ⟨hg2.os, hg2.tape, hg2.output, hg2.size, hg2.block⟩
    have HAP : Hid ((Value.slice a2 (l.length / 8 + q) cc2).ownBlock ≠ some p ∧ (Value.slice a2 (l.length / 8 + q) cc2).ownBlock ≠ some g ∧ some g ≠ vF.ownBlock ∧ p < w.heap.size) := ⟨hap2, hg2', hgF, hpl⟩
    obtain ⟨w3, e3⟩ : ∃ w3, w3 = w2.setCell ⟨p, 0, none⟩ (Value.slice a2 (l.length / 8 + q) cc2) := ⟨_, rfl⟩
    rw [← e3]
    have hr3 : w3.rowIs p 62 3 (WrF (Value.slice a2 (l.length / 8 + q) cc2) (.slice a N c) (l.length % 8)) := by
      rw [e3]
      refine (hr2.set 0 _).congr fun i hi => ?_
      unfold WrF
      by_cases h0 : i = 0
      · subst h0; rfl
      · simp [h0]
    have HR3 : Hid (w3.rowIs p 62 3 (WrF (Value.slice a2 (l.length / 8 + q) cc2) (.slice a N c) (l.length % 8))) := hr3
    have HG3 : Hid (w2.grownBy w3 (some p)) := by show w2.grownBy w3 (some p); rw [e3]; exact gb_set rfl
    have g1 := hr3.frozen 1
    have g2 := hr3.frozen 2
    have k1 : w3.cell? ⟨p, 1, none⟩ = some (.slice a N c) := hr3.cell (i := 1) (by omega)
    have k2 : w3.cell? ⟨p, 2, none⟩ = some (.int .i64 ((l.length % 8 : Nat) : Int)) := hr3.cell (i := 2) (by omega)
    have HWH : Hid ((Value.slice a2 (l.length / 8 + q) cc2).ownBlock = vF.ownBlock ∨ (Value.slice a2 (l.length / 8 + q) cc2).ownBlock = some wc.heap.size) := hwh
    clear hr2 hr3 f02 c02 hg2 ho2 hwh hap2 hg2' hgF e3 d0 f0 HSR HLEN HOW HBS HR1
    by_cases hn8 : M = q
    · subst hn8
      go_wp2
      go_end0
      exact ⟨rfl, wr_next HW.out EM.out EN.out HQ.out ER2.out hb HO1.out HG1.out HO2.out HG2.out HAP.out HR3.out HG3.out (by omega) (.inl rfl) HWH.out⟩
    · have hM : M = q + 1 := by omega
      subst hM
      go_wp2
      go_end0
      exact ⟨rfl, wr_next HW.out EM.out EN.out HQ.out ER2.out hb HO1.out HG1.out HO2.out HG2.out HAP.out HR3.out HG3.out (by omega) (.inr rfl) HWH.out⟩
end Go.Proofs.YteahhkpbjkcmhaaDoor
