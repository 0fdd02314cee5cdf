/- Samples: copied, held against one another. -/
import Derived.Test.YthkalbiglfgleaaLf
import Derived.Deep.RegionHeld3
import Derived.Maps.AppendAt
namespace Go.Proofs.Ythkalbiglfgleaa
open Go.RowKit
set_option linter.unusedVariables false
set_option maxRecDepth 20000

/-- What type of row lies in a block. -/
def Typed (w : World) (b : Nat) (t : TypeId) : Prop := ∃ c, w.heap[b]? = some (.cells c t (0, 0))
theorem Typed.ne {w : World} {b b' : Nat} {t t' : TypeId} (h : Typed w b t) (h' : Typed w b' t') (ht : t ≠ t') : b ≠ b' := by
  rintro rfl
  obtain ⟨c, h1⟩ := h
  obtain ⟨c', h2⟩ := h'
  rw [h1] at h2
  simp only [Option.some.injEq, Obj.cells.injEq] at h2
  exact ht h2.2.1
theorem typed_lt {w : World} {b : Nat} {t : TypeId} (h : Typed w b t) : b < w.heap.size := by
  obtain ⟨c, h⟩ := h
  exact (Array.getElem?_eq_some_iff.1 h).1
theorem sown_typed {α : Type} {E : Elem α} {e : TypeId} {w : World} {base n c : Nat} {x : Addr} {l : List α} (h : SOwn E e w base (.slice (some x) n c) n l) : Typed w x.block e := by
  rcases h.2 with ⟨h', _⟩ | ⟨g, cap, cur, h', _, h2, _⟩
  · simp at h'
  · simp only [Value.slice.injEq, Option.some.injEq] at h'
    obtain ⟨rfl, _⟩ := h'
    exact ⟨cur, h2⟩
theorem sown_stay {α : Type} {E : Elem α} {e : TypeId} {w w' : World} {base n c : Nat} {a : Option Addr} {l : List α} (h : SOwn E e w base (.slice a n c) n l) (hb : ∀ x, a = some x → w'.heap[x.block]? = w.heap[x.block]?) : SOwn E e w' base (.slice a n c) n l := by
  refine ⟨h.1, ?_⟩
  rcases h.2 with h' | ⟨g, cap, cur, h', h3, h4, h5⟩
  · exact .inl h'
  · refine .inr ⟨g, cap, cur, h', h3, ?_, h5⟩
    have hx : a = some ⟨g, 0, none⟩ := by simp only [Value.slice.injEq] at h'; exact h'.1
    have := hb _ hx
    simp only at this
    rw [this, h4]
theorem sown_cap {α : Type} {E : Elem α} {e : TypeId} {w : World} {base n c : Nat} {a : Option Addr} {l : List α} (h : SOwn E e w base (.slice a n c) n l) : n ≤ c ∧ (a = none → c = 0) := by
  rcases h.2 with ⟨h', h0⟩ | ⟨g, cap, cur, h', h1, h2, h3, h4, _⟩
  · simp only [Value.slice.injEq] at h'
    exact ⟨by omega, fun _ => h'.2.2⟩
  · simp only [Value.slice.injEq] at h'
    obtain ⟨rfl, _, rfl⟩ := h'
    exact ⟨h3, fun e => by cases e⟩
theorem sown_slice {α : Type} {E : Elem α} {e : TypeId} {w : World} {base n : Nat} {v : Value} {l : List α} (h : SOwn E e w base v n l) : ∃ a c, v = .slice a n c := by
  rcases h.2 with ⟨h', h0⟩ | ⟨g, cap, cur, h', _⟩
  · exact ⟨none, 0, by rw [h', h0]⟩
  · exact ⟨_, _, h'⟩
theorem srd_lit {α : Type} (E : Elem α) (e : TypeId) (w : World) (l : List α) : SRd E (w.alloc (.cells (E.flat l).toArray e)) (some ⟨w.heap.size, 0, none⟩) l := by
  refine .inr ⟨w.heap.size, 0, rfl, fun j v hj => ?_⟩
  rw [Nat.zero_add, cell_of_row _ w.heap.size j _ e _ (heap_alloc_new w _)]
  simpa using hj
theorem free_row {w : World} {g : Nat} {cs : Array Value} {t : TypeId} (h : w.heap[g]? = some (.cells cs t (0, 0))) (i : Nat) : w.frozen? ⟨g, i, none⟩ = false := by
  unfold World.frozen?
  simp only [h]
  simp
theorem flat_set {α : Type} (E : Elem α) : ∀ (l : List α) (i : Nat) (x x' : α) (j : Nat) (u : Value), l[i]? = some x → j < E.size → E.cells x' = (E.cells x).set j u → E.flat (l.set i x') = (E.flat l).set (i * E.size + j) u := by
  intro l
  induction l with
  | nil => intro i x x' j u h; simp at h
  | cons y r ih =>
    intro i x x' j u h hj hc
    have hl := E.len y
    unfold Elem.flat at ih ⊢
    cases i with
    | zero =>
      simp only [List.getElem?_cons_zero, Option.some.injEq] at h
      subst h
      rw [List.set_cons_zero, List.flatMap_cons, List.flatMap_cons, hc, Nat.zero_mul, Nat.zero_add, List.set_append_left _ _ (by omega)]
    | succ i =>
      simp only [List.getElem?_cons_succ] at h
      rw [List.set_cons_succ, List.flatMap_cons, List.flatMap_cons, ih i x x' j u h hj hc, List.set_append_right _ _ (by rw [hl, Nat.succ_mul]; omega), hl, show (i + 1) * E.size + j - E.size = i * E.size + j by rw [Nat.succ_mul]; omega]
theorem sown_set {α : Type} {E : Elem α} {e : TypeId} {w : World} {base g n c j : Nat} {l l' : List α} {u : Value} (h : SOwn E e w base (.slice (some ⟨g, 0, none⟩) n c) n l) (hl : E.flat l' = (E.flat l).set j u) : SOwn E e (w.setCell ⟨g, j, none⟩ u) base (.slice (some ⟨g, 0, none⟩) n c) n l' := by
  refine ⟨by rw [hl, List.length_set]; exact h.1, ?_⟩
  rcases h.2 with ⟨h', _⟩ | ⟨g', cap, cur, h', h3, h4, h5, h6, h7, h8⟩
  · simp at h'
  · simp only [Value.slice.injEq, Option.some.injEq, Addr.mk.injEq, and_true, true_and] at h'
    obtain ⟨rfl, rfl⟩ := h'
    refine .inr ⟨g, c, cur.setIfInBounds j u, rfl, h3, ?_, h5, h6, by simpa using h7, ?_⟩
    · rw [setCell_eq_setRow w g j cur e (0, 0) u h4, setRow_heap w g cur _ e _ h4]
    · rw [hl, ← h8, Array.toList_setIfInBounds, List.take_set]
theorem sown_free {α : Type} {E : Elem α} {e : TypeId} {w : World} {base g n c : Nat} {l : List α} (h : SOwn E e w base (.slice (some ⟨g, 0, none⟩) n c) n l) (j : Nat) : w.frozen? ⟨g, j, none⟩ = false := by
  obtain ⟨cs, h⟩ := sown_typed h
  exact free_row h j
theorem set_other {w : World} {g k j : Nat} (v : Value) (h : k ≠ g) : (w.setCell ⟨g, j, none⟩ v).heap[k]? = w.heap[k]? := Below.heap_setCell w ⟨g, j, none⟩ v k (fun e => h (by simpa using e))
theorem size_alloc (w : World) (o : Obj) : (w.alloc o).heap.size = w.heap.size + 1 := Array.size_push _
theorem step_append_at {α : Type} {E : Elem α} {P : Program} {t e : TypeId} {bytes : Nat} (T : ElemOf E P t e bytes) {ops : Array Oper} {o : Oper} {a : Act} {w : World} {K : Act → World → Prop} {Q : Exit → Act → World → Prop} {X : Prop} (hgd : o.guard = none) (s x : Operand)
    (ho : o.op = .call { callee := .builtin .append, args := #[s, x], argTypes := #[t, t] }) (base : Nat) (v : Value) (n : Nat) (xs : List α) (hs : a.eval s = v) (hown : SOwn E e w base v n xs)
    (ad : Addr) (zs : List α) (m cap : Nat) (hx : a.eval x = .slice (some ad) m cap) (hm : zs.length = m) (hr : SRd E w (some ad) zs) (hlen : (n + m) * bytes ≤ 140737488355328) (hmax : n + m ≤ maxLen) (hb : base ≤ w.heap.size)
    (h : ∀ v' w', SOwn E e w' base v' (n + m) (xs ++ zs) → w.grownBy w' v.ownBlock → (v'.ownBlock = v.ownBlock ∨ v'.ownBlock = some w.heap.size) → K (a.put o.dst v') w') : if Region.wanted o (yielded ops a.tmps) = true then Oper.wp P o a w K Q else X := by
  have hw : Region.wanted o (yielded ops a.tmps) = true := by simp [Region.wanted, hgd]
  rw [if_pos hw]
  obtain ⟨i0, z, hi, hz0, hz1, hz2, hz3⟩ := T.info
  subst hm
  obtain ⟨v', w', hrun, hown', hg, _, hwh⟩ := run_append_own_at (P := P) w base t o.type e i0 z E.size bytes T.under hi hz0 hz1 hz2 hz3 E.pos v n (E.flat xs) hown ad zs.length cap (E.flat zs) (E.flat_len zs) hr.news (E.flat_one zs) hmax hlen hb
  unfold Oper.wp
  simp [execOp, ho, resolve, invoke, builtin, hs, hx, hrun, Result.andThen]
  rw [← E.flat_app] at hown'
  exact h v' w' hown' hg hwh
/-- A sample's row that a call owns. -/
structure SmOwn (w : World) (base : Nat) (r : Sv × Int × Int) (s : Smp) : Prop where
  tn : r.1.2.1 = s.1.length
  tv : r.2 = s.2
  sm : s.1.length ≤ 4398046511000
  own : SOwn labE 49 w base (.slice r.1.1 s.1.length r.1.2.2) s.1.length s.1
theorem SmOwn.stay {w w' : World} {base : Nat} {r : Sv × Int × Int} {s : Smp} (h : SmOwn w base r s) (hs : ∀ k, Typed w k 49 → base ≤ k → w'.heap[k]? = w.heap[k]?) : SmOwn w' base r s :=
  ⟨h.tn, h.tv, h.sm, sown_stay h.own (fun x hx => by
    have h2 := h.own
    rw [hx] at h2
    exact hs _ (sown_typed h2) (SOwn.block h2 x.block rfl).1)⟩
theorem SmOwn.rd {w : World} {base : Nat} {r : Sv × Int × Int} {s : Smp} (h : SmOwn w base r s) : OneIs w r s := ⟨h.tn, SOwn.rd h.own, (sown_cap h.own).2, h.sm, h.tv⟩
/-- Samples that a call owns. -/
structure SmsOwn (w : World) (base : Nat) (v : Value) (Q : List Smp) (raw : List (Sv × Int × Int)) : Prop where
  row : SOwn smpE 37 w base v Q.length raw
  smp : ∀ (i : Nat) (r : Sv × Int × Int) (s : Smp), raw[i]? = some r → Q[i]? = some s → SmOwn w base r s
theorem SmsOwn.nil (w : World) (base : Nat) : SmsOwn w base (.slice none 0 0) [] [] := ⟨SOwn.nil 37 w base, fun i r m hr => by simp at hr⟩
theorem SmsOwn.stay {w w' : World} {base : Nat} {v : Value} {Q : List Smp} {raw : List (Sv × Int × Int)} (h : SmsOwn w base v Q raw) (hs : ∀ k, base ≤ k → k < w.heap.size → w'.heap[k]? = w.heap[k]?) : SmsOwn w' base v Q raw := by
  obtain ⟨a, c, rfl⟩ := sown_slice h.row
  exact ⟨sown_stay h.row (fun x hx => hs _ (SOwn.block h.row x.block (by rw [hx]; rfl)).1 (SOwn.block h.row x.block (by rw [hx]; rfl)).2), fun i r m hr hm => (h.smp i r m hr hm).stay (fun k hk hb => hs k hb (typed_lt hk))⟩
theorem SmsOwn.grown {w w' : World} {base : Nat} {v : Value} {Q : List Smp} {raw : List (Sv × Int × Int)} (h : SmsOwn w base v Q raw) (hg : w.grownBy w' none) : SmsOwn w' base v Q raw :=
  h.stay (fun k h1 h2 => hg.block k h2 (by simp))
theorem SmsOwn.rd {w : World} {base c : Nat} {a : Option Addr} {n : Nat} {Q : List Smp} {raw : List (Sv × Int × Int)} (h : SmsOwn w base (.slice a n c) Q raw) : SmpRd w a raw Q ∧ (a = none → c = 0) ∧ Q.length = n := by
  obtain ⟨a', c', e⟩ := sown_slice h.row
  simp only [Value.slice.injEq] at e
  obtain ⟨rfl, rfl, rfl⟩ := e
  exact ⟨⟨SOwn.rd h.row, SOwn.len h.row, fun i r m hr hm => (h.smp i r m hr hm).rd⟩, (sown_cap h.row).2, rfl⟩
/-- A sample is appended to those that a call owns. -/
theorem own_append {w w' : World} {base : Nat} {v v' : Value} {Q : List Smp} {raw : List (Sv × Int × Int)} {m : Smp} {r : Sv × Int × Int} (h : SmsOwn w base v Q raw)
    (ho : SOwn smpE 37 w' base v' (Q.length + 1) (raw ++ [r])) (hg : w.grownBy w' v.ownBlock) (hr : SmOwn w base r m) : SmsOwn w' base v' (Q ++ [m]) (raw ++ [r]) := by
  have hT : ∀ k, v.ownBlock = some k → Typed w k 37 := fun k hk => by
    obtain ⟨a, c, rfl⟩ := sown_slice h.row
    cases a with
    | none => simp [Value.ownBlock] at hk
    | some x =>
      have : x.block = k := by simpa [Value.ownBlock] using hk
      rw [← this]; exact sown_typed h.row
  have st : ∀ k, Typed w k 49 → base ≤ k → w'.heap[k]? = w.heap[k]? := fun b hb _ => hg.block b (typed_lt hb) (fun e1 => Typed.ne hb (hT b e1.symm) (by decide) rfl)
  have hrl : raw.length = Q.length := SOwn.len h.row
  refine ⟨by rw [List.length_append]; exact ho, fun i r' t hr' ht => ?_⟩
  by_cases hi : i < raw.length
  · rw [List.getElem?_append_left hi] at hr'
    rw [List.getElem?_append_left (by omega)] at ht
    exact (h.smp i r' t hr' ht).stay st
  · rw [List.getElem?_append_right (by omega)] at hr' ht
    rw [hrl] at hr'
    obtain ⟨h7, _⟩ := List.getElem?_eq_some_iff.1 hr'
    simp at h7
    rw [show i - Q.length = 0 by omega] at hr' ht
    simp at hr' ht
    subst hr' ht
    exact hr.stay st
theorem info37 : (Try.prog.info? 37).map (fun i => (i.zero, i.size, i.bytes)) = some (some (.agg #[.slice none 0 0, .int .i64 0, .int .u64 0]), 3, 40) := by kernel_rfl
theorem smpT : ElemOf smpE Try.prog 22 37 40 := by
  obtain ⟨i0, hi, hz0, hz1, hz2⟩ := info_parts info37
  exact ⟨Try.underlying22, i0, _, hi, hz0, hz1, hz2, rfl⟩
set_option maxHeartbeats 2000000 in
/-- CopySamples. -/
theorem scopy (a : Option Addr) (raw : List (Sv × Int × Int)) (Q : List Smp) (L c : Nat) (w : World) (hx : SmpRd w a raw Q) (hL : Q.length = L) (hz : L ≤ 3518437208882) :
    Calls Try.prog 7 #[.slice a L c] w fun e w' => ∃ a' c' raw', e = .returned (.slice a' L c') ∧ SmsOwn w' w.heap.size (.slice a' L c') Q raw' ∧ w.grownBy w' none := by
  have HX : Hid (SmpRd w a raw Q) := hx
  have HL : Hid (Q.length = L) := hL
  clear hx hL
  go_enter Try.func7, Try.ntmps7
  go_wp2
  go_loopw [3, 4] (fun t3 i wr => ∃ (k : Nat) (Va : Option Addr) (Vc : Nat) (raw' : List (Sv × Int × Int)), k ≤ L ∧ t3 = .slice Va k Vc ∧ i = .int .i64 k ∧ SmsOwn wr w.heap.size (.slice Va k Vc) (Q.take k) raw' ∧ w.grownBy wr none) (fun _ i _ => L - (intOf i).toNat)
  case atStart => exact ⟨0, none, 0, [], Nat.zero_le _, rfl, rfl, by rw [List.take_zero]; exact SmsOwn.nil _ _, World.grownBy.refl _ _⟩
  case round =>
    obtain ⟨k, Va, Vc, raw', hk, rfl, rfl, hown, hg⟩ := hrel
    have HO : Hid (SmsOwn wr w.heap.size (.slice Va k Vc) (Q.take k) raw') := hown
    have HG : Hid (w.grownBy wr none) := hg
    clear hown hg
    by_cases hlt : k < L
    · have hki : (k : Int) < (L : Int) := by omega
      have hl := HL.out
      obtain ⟨⟨ls, T, V⟩, ex⟩ : ∃ x, Q[k]? = some x := ⟨_, List.getElem?_eq_getElem (by omega)⟩
      obtain ⟨b, off, la, lc, rfl, z0, z1, z2, hsr0, hnil, hll⟩ := smp_cells HX.out ex
      have hsr := hsr0.grown HG.out (by simp)
      obtain ⟨n1, en1⟩ : ∃ n1, ls.length = n1 := ⟨_, rfl⟩
      rw [en1] at z0 hll
      have HCS : Hid (∀ u, w.grownBy u none → u.cell? ⟨b, off + k * 3, none⟩ = some (.slice la n1 lc) ∧ u.cell? ⟨b, off + k * 3 + 1, none⟩ = some (.int .i64 T) ∧ u.cell? ⟨b, off + k * 3 + 2, none⟩ = some (.int .u64 V)) := fun u hu => ⟨hu.cell z0 (by simp), hu.cell z1 (by simp), hu.cell z2 (by simp)⟩
      obtain ⟨a0, a1, a2⟩ := HCS.out _ HG.out
      clear z0 z1 z2 hsr0
      have EN1 : Hid (ls.length = n1) := en1
      have EX : Hid (Q[k]? = some (ls, T, V)) := ex
      have HLC : Hid (∀ u, Hid (wr.grownBy u none) → Calls Try.prog 17 #[.slice la n1 lc] u fun e w' => ∃ g c, e = .returned (.slice (some ⟨g, 0, none⟩) n1 c) ∧ Hid (LOwn w' u.heap.size g n1 c ls) ∧ Hid (u.grownBy w' none)) := fun u hu => by
        refine (lcopy la ls n1 lc u (hsr.grown hu.out (by simp)) en1 hnil hll).mono ?_
        rintro e w' ⟨g, c, rfl, h1, h2⟩
        exact ⟨g, c, rfl, h1, h2⟩
      have HDR : Hid (wr.grownBy wr.drew none) := gb_drew (World.grownBy.refl _ _)
      have HNEXT : Hid (∀ u w6 g cg, Hid (wr.grownBy u none) → Hid (LOwn w6 u.heap.size g n1 cg ls) → Hid (u.grownBy w6 none) →
          SOwn smpE 37 (w6.alloc (.cells #[.slice (some ⟨g, 0, none⟩) n1 cg, .int .i64 T, .int .u64 V] 37)) w.heap.size (.slice Va k Vc) k raw' ∧
          SRd smpE (w6.alloc (.cells #[.slice (some ⟨g, 0, none⟩) n1 cg, .int .i64 T, .int .u64 V] 37)) (some ⟨w6.heap.size, 0, none⟩) [((some ⟨g, 0, none⟩, n1, cg), T, V)] ∧
          w.heap.size ≤ (w6.alloc (.cells #[.slice (some ⟨g, 0, none⟩) n1 cg, .int .i64 T, .int .u64 V] 37)).heap.size ∧
          ∀ v7 w7, SOwn smpE 37 w7 w.heap.size v7 (k + 1) (raw' ++ [((some ⟨g, 0, none⟩, n1, cg), T, V)]) → (w6.alloc (.cells #[.slice (some ⟨g, 0, none⟩) n1 cg, .int .i64 T, .int .u64 V] 37)).grownBy w7 (Value.slice Va k Vc).ownBlock →
            ∃ a7 c7, v7 = .slice a7 (k + 1) c7 ∧ Hid (SmsOwn w7 w.heap.size v7 (Q.take (k + 1)) (raw' ++ [((some ⟨g, 0, none⟩, n1, cg), T, V)]) ∧ w.grownBy w7 none)) := by
        intro u w6 g cg hu ho hg6
        have gall := (HG.out.trans hu.out).trans hg6.out
        have ga := World.grownBy_alloc w6 (.cells #[.slice (some ⟨g, 0, none⟩) n1 cg, .int .i64 T, .int .u64 V] 37) none
        have hO6 := HO.out.grown (hu.out.trans hg6.out)
        have hlt : (Q.take k).length = k := by rw [List.length_take, HL.out, Nat.min_eq_left hk]
        have hrow := (hO6.grown ga).row
        rw [hlt] at hrow
        refine ⟨hrow, srd_lit smpE 37 w6 [((some ⟨g, 0, none⟩, n1, cg), T, V)], Nat.le_trans gall.size ga.size, ?_⟩
        intro v7 w7 ho7 hg7
        obtain ⟨a7, c7, rfl⟩ := sown_slice ho7
        refine ⟨a7, c7, rfl, ?_, ?_⟩
        · have e1 : Q.take (k + 1) = Q.take k ++ [(ls, T, V)] := by rw [List.take_add_one, EX.out]; rfl
          rw [e1]
          refine own_append (hO6.grown ga) (by rw [hlt]; exact ho7) hg7 ⟨EN1.out.symm, rfl, by simp only; rw [EN1.out]; exact hll, ?_⟩
          simp only
          rw [EN1.out]
          exact SOwn.base (SOwn.kept ho.out ga (.inr (by simp [Value.ownBlock]))) (Nat.le_trans HG.out.size hu.out.size)
        · refine gb_trans (gall.trans ga) hg7 (fun j hj => .inl ?_)
          exact (SOwn.block HO.out.row j hj).1
      clear ex hsr en1 hnil hl
      go_wp2_with fail
      go_upto_region 5 with fail
      go_region_held3 (fun u => u.cell? ⟨b, off + k * 3, none⟩ = some (.slice la n1 lc) ∧ u.cell? ⟨b, off + k * 3 + 1, none⟩ = some (.int .i64 T) ∧ u.cell? ⟨b, off + k * 3 + 2, none⟩ = some (.int .u64 V)) (first | exact ⟨a0, a1, a2⟩ | (refine ⟨?_, ?_, ?_⟩ <;> assumption)) (first
        | (go_at_call 17; refine (HLC.out _ HDR).mono ?_; rintro e w6 ⟨g, cg, rfl, ho6, hg6⟩; have hgall := (HG.out.trans HDR.out).trans hg6.out; obtain ⟨b0, b1, b2⟩ := HCS.out _ hgall; obtain ⟨d0, d1, d2⟩ := HCS.out _ (hgall.trans (World.grownBy_alloc w6 (.cells #[.slice (some ⟨g, 0, none⟩) n1 cg, .int .i64 T, .int .u64 V] 37) none)); have HN := HNEXT.out _ w6 g cg HDR ho6 hg6; clear hgall)
        | (refine step_append_at smpT rfl (.tmp 11) (.tmp 29) rfl w.heap.size (.slice Va k Vc) k raw' (by simp [Act.eval]) HN.1 ⟨w6.heap.size, 0, none⟩ [((some ⟨g, 0, none⟩, n1, cg), T, V)] 1 1 (by simp [Act.eval]) rfl HN.2.1 (by omega) (by unfold maxLen; omega) HN.2.2.1 ?_; intro v7 w7 ho7 hg7 _; obtain ⟨a7, c7, rfl, HR7⟩ := HN.2.2.2 v7 w7 ho7 hg7; obtain ⟨e0, e1, e2⟩ := HCS.out _ HR7.out.2; clear ho7 hg7))
      clear HN b0 b1 b2 d0 d1 d2 e0 e1 e2 ho6 hg6
      go_wp2
      go_roundw
      case rel => exact ⟨k + 1, a7, c7, _, by omega, rfl, by go_num, HR7.out.1, HR7.out.2⟩
      case measure => simp [intOf]; omega
    · obtain rfl : k = L := by omega
      have HLT : Hid (Q.take k = Q) := List.take_of_length_le (by have := HL.out; omega)
      go_wp2
      go_ret
      have ho := HO.out
      rw [HLT.out] at ho
      exact ⟨Va, Vc, raw', rfl, ho, HG.out⟩
end Go.Proofs.Ythkalbiglfgleaa
