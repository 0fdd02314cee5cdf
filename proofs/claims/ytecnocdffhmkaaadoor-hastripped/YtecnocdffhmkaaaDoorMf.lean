/- Several texts in one: Sa, Sb, Sc. -/
import Derived.Test.YtecnocdffhmkaaaDoorMa
import Derived.Deep.RegionHeld3
import Derived.Maps.AppendAt
import Derived.Deep.CutRange
import Derived.Deep.Cut
import Derived.BigQuiet
/- Samples, as they lie. -/
namespace Go.Proofs.YtecnocdffhmkaaaDoor
set_option maxRecDepth 20000
open Go.RowKit
set_option linter.unusedVariables false

abbrev Sv := Option Addr × Nat × Nat
def svV (q : Sv) : Value := .slice q.1 q.2.1 q.2.2
abbrev Smp := List Lab × Int × Int
def smpE : Elem (Sv × Int × Int) where
  cells q := [svV q.1, .int .i64 q.2.1, .int .u64 q.2.2]
  size := 3
  pos := by decide
  len _ := rfl
  one q v h := by
    simp only [List.mem_cons, List.mem_nil_iff, or_false] at h
    rcases h with rfl | rfl | rfl <;> rfl
/-- A sample as it lies, and what it is. -/
def OneIs (w : World) (r : Sv × Int × Int) (s : Smp) : Prop := r.1.2.1 = s.1.length ∧ SRd labE w r.1.1 s.1 ∧ (r.1.1 = none → r.1.2.2 = 0) ∧ s.1.length ≤ 4398046511000 ∧ r.2 = s.2
theorem OneIs.grown {w w' : World} {r : Sv × Int × Int} {s : Smp} (h : OneIs w r s) (hg : w.grownBy w' none) : OneIs w' r s := ⟨h.1, h.2.1.grown hg (by simp), h.2.2⟩
/-- Samples that can be read. -/
structure SmpRd (w : World) (a : Option Addr) (raw : List (Sv × Int × Int)) (Q : List Smp) : Prop where
  rd : SRd smpE w a raw
  len : raw.length = Q.length
  smp : ∀ (i : Nat) (r : Sv × Int × Int) (s : Smp), raw[i]? = some r → Q[i]? = some s → OneIs w r s
theorem SmpRd.grown {w w' : World} {a : Option Addr} {raw : List (Sv × Int × Int)} {Q : List Smp} (h : SmpRd w a raw Q) (hg : w.grownBy w' none) : SmpRd w' a raw Q :=
  ⟨h.rd.grown hg (by simp), h.len, fun i r s hr hs => (h.smp i r s hr hs).grown hg⟩
theorem smp_cells {w : World} {a : Option Addr} {raw : List (Sv × Int × Int)} {Q : List Smp} (h : SmpRd w a raw Q) {k : Nat} {ls : List Lab} {T V : Int} (hs : Q[k]? = some (ls, T, V)) :
    ∃ b off la lc, a = some ⟨b, off, none⟩ ∧ w.cell? ⟨b, off + k * 3, none⟩ = some (.slice la ls.length lc) ∧ w.cell? ⟨b, off + k * 3 + 1, none⟩ = some (.int .i64 T) ∧ w.cell? ⟨b, off + k * 3 + 2, none⟩ = some (.int .u64 V) ∧ SRd labE w la ls ∧ (la = none → lc = 0) ∧ ls.length ≤ 4398046511000 := by
  have hk : k < raw.length := by rw [h.len]; exact (List.getElem?_eq_some_iff.1 hs).1
  obtain ⟨⟨⟨la, ln, lc⟩, T', V'⟩, hr⟩ : ∃ r, raw[k]? = some r := ⟨_, List.getElem?_eq_getElem hk⟩
  obtain ⟨b, off, rfl, hc⟩ := h.rd.at (by omega)
  obtain ⟨h1, h2, h3, h4, h5⟩ := h.smp k _ _ hr hs
  simp only at h1 h2 h3 h4 h5
  cases h5
  subst h1
  exact ⟨b, off, la, lc, rfl, hc k _ 0 _ hr rfl, by rw [Nat.add_assoc]; exact hc k _ 1 _ hr rfl, by rw [Nat.add_assoc]; exact hc k _ 2 _ hr rfl, h2, h3, h4⟩

end Go.Proofs.YtecnocdffhmkaaaDoor

/- Samples: copied, held against one another. -/
namespace Go.Proofs.YtecnocdffhmkaaaDoor
open Go.RowKit
set_option linter.unusedVariables false
set_option maxRecDepth 20000

/-- What type of row lies in a block. -/
def Typed (w : World) (b : Nat) (t : TypeId) : Prop := ∃ c, w.heap[b]? = some (.cells c t (0, 0))
theorem Typed.ne {w : World} {b b' : Nat} {t t' : TypeId} (h : Typed w b t) (h' : Typed w b' t') (ht : t ≠ t') : b ≠ b' := by
  rintro rfl
  obtain ⟨c, h1⟩ := h
  obtain ⟨c', h2⟩ := h'
  rw [h1] at h2
  simp only [Option.some.injEq, Obj.cells.injEq] at h2
  exact ht h2.2.1
theorem typed_lt {w : World} {b : Nat} {t : TypeId} (h : Typed w b t) : b < w.heap.size := by
  obtain ⟨c, h⟩ := h
  exact (Array.getElem?_eq_some_iff.1 h).1
theorem sown_typed {α : Type} {E : Elem α} {e : TypeId} {w : World} {base n c : Nat} {x : Addr} {l : List α} (h : SOwn E e w base (.slice (some x) n c) n l) : Typed w x.block e := by
  rcases h.2 with ⟨h', _⟩ | ⟨g, cap, cur, h', _, h2, _⟩
  · simp at h'
  · simp only [Value.slice.injEq, Option.some.injEq] at h'
    obtain ⟨rfl, _⟩ := h'
    exact ⟨cur, h2⟩
theorem sown_stay {α : Type} {E : Elem α} {e : TypeId} {w w' : World} {base n c : Nat} {a : Option Addr} {l : List α} (h : SOwn E e w base (.slice a n c) n l) (hb : ∀ x, a = some x → w'.heap[x.block]? = w.heap[x.block]?) : SOwn E e w' base (.slice a n c) n l := by
  refine ⟨h.1, ?_⟩
  rcases h.2 with h' | ⟨g, cap, cur, h', h3, h4, h5⟩
  · exact .inl h'
  · refine .inr ⟨g, cap, cur, h', h3, ?_, h5⟩
    have hx : a = some ⟨g, 0, none⟩ := by simp only [Value.slice.injEq] at h'; exact h'.1
    have := hb _ hx
    simp only at this
    rw [this, h4]
theorem sown_cap {α : Type} {E : Elem α} {e : TypeId} {w : World} {base n c : Nat} {a : Option Addr} {l : List α} (h : SOwn E e w base (.slice a n c) n l) : n ≤ c ∧ (a = none → c = 0) := by
  rcases h.2 with ⟨h', h0⟩ | ⟨g, cap, cur, h', h1, h2, h3, h4, _⟩
  · simp only [Value.slice.injEq] at h'
    exact ⟨by omega, fun _ => h'.2.2⟩
  · simp only [Value.slice.injEq] at h'
    obtain ⟨rfl, _, rfl⟩ := h'
    exact ⟨h3, fun e => by cases e⟩
theorem sown_slice {α : Type} {E : Elem α} {e : TypeId} {w : World} {base n : Nat} {v : Value} {l : List α} (h : SOwn E e w base v n l) : ∃ a c, v = .slice a n c := by
  rcases h.2 with ⟨h', h0⟩ | ⟨g, cap, cur, h', _⟩
  · exact ⟨none, 0, by rw [h', h0]⟩
  · exact ⟨_, _, h'⟩
theorem srd_lit {α : Type} (E : Elem α) (e : TypeId) (w : World) (l : List α) : SRd E (w.alloc (.cells (E.flat l).toArray e)) (some ⟨w.heap.size, 0, none⟩) l := by
  refine .inr ⟨w.heap.size, 0, rfl, fun j v hj => ?_⟩
  rw [Nat.zero_add, cell_of_row _ w.heap.size j _ e _ (heap_alloc_new w _)]
  simpa using hj
theorem free_row {w : World} {g : Nat} {cs : Array Value} {t : TypeId} (h : w.heap[g]? = some (.cells cs t (0, 0))) (i : Nat) : w.frozen? ⟨g, i, none⟩ = false := by
  unfold World.frozen?
  simp only [h]
  simp
theorem flat_set {α : Type} (E : Elem α) : ∀ (l : List α) (i : Nat) (x x' : α) (j : Nat) (u : Value), l[i]? = some x → j < E.size → E.cells x' = (E.cells x).set j u → E.flat (l.set i x') = (E.flat l).set (i * E.size + j) u := by
  intro l
  induction l with
  | nil => intro i x x' j u h; simp at h
  | cons y r ih =>
    intro i x x' j u h hj hc
    have hl := E.len y
    unfold Elem.flat at ih ⊢
    cases i with
    | zero =>
      simp only [List.getElem?_cons_zero, Option.some.injEq] at h
      subst h
      rw [List.set_cons_zero, List.flatMap_cons, List.flatMap_cons, hc, Nat.zero_mul, Nat.zero_add, List.set_append_left _ _ (by omega)]
    | succ i =>
      simp only [List.getElem?_cons_succ] at h
      rw [List.set_cons_succ, List.flatMap_cons, List.flatMap_cons, ih i x x' j u h hj hc, List.set_append_right _ _ (by rw [hl, Nat.succ_mul]; omega), hl, show (i + 1) * E.size + j - E.size = i * E.size + j by rw [Nat.succ_mul]; omega]
theorem sown_set {α : Type} {E : Elem α} {e : TypeId} {w : World} {base g n c j : Nat} {l l' : List α} {u : Value} (h : SOwn E e w base (.slice (some ⟨g, 0, none⟩) n c) n l) (hl : E.flat l' = (E.flat l).set j u) : SOwn E e (w.setCell ⟨g, j, none⟩ u) base (.slice (some ⟨g, 0, none⟩) n c) n l' := by
  refine ⟨by rw [hl, List.length_set]; exact h.1, ?_⟩
  rcases h.2 with ⟨h', _⟩ | ⟨g', cap, cur, h', h3, h4, h5, h6, h7, h8⟩
  · simp at h'
  · simp only [Value.slice.injEq, Option.some.injEq, Addr.mk.injEq, and_true, true_and] at h'
    obtain ⟨rfl, rfl⟩ := h'
    refine .inr ⟨g, c, cur.setIfInBounds j u, rfl, h3, ?_, h5, h6, by simpa using h7, ?_⟩
    · rw [setCell_eq_setRow w g j cur e (0, 0) u h4, setRow_heap w g cur _ e _ h4]
    · rw [hl, ← h8, Array.toList_setIfInBounds, List.take_set]
theorem sown_free {α : Type} {E : Elem α} {e : TypeId} {w : World} {base g n c : Nat} {l : List α} (h : SOwn E e w base (.slice (some ⟨g, 0, none⟩) n c) n l) (j : Nat) : w.frozen? ⟨g, j, none⟩ = false := by
  obtain ⟨cs, h⟩ := sown_typed h
  exact free_row h j
theorem set_other {w : World} {g k j : Nat} (v : Value) (h : k ≠ g) : (w.setCell ⟨g, j, none⟩ v).heap[k]? = w.heap[k]? := Below.heap_setCell w ⟨g, j, none⟩ v k (fun e => h (by simpa using e))
theorem size_alloc (w : World) (o : Obj) : (w.alloc o).heap.size = w.heap.size + 1 := Array.size_push _
theorem step_append_at {α : Type} {E : Elem α} {P : Program} {t e : TypeId} {bytes : Nat} (T : ElemOf E P t e bytes) {ops : Array Oper} {o : Oper} {a : Act} {w : World} {K : Act → World → Prop} {Q : Exit → Act → World → Prop} {X : Prop} (hgd : o.guard = none) (s x : Operand)
    (ho : o.op = .call { callee := .builtin .append, args := #[s, x], argTypes := #[t, t] }) (base : Nat) (v : Value) (n : Nat) (xs : List α) (hs : a.eval s = v) (hown : SOwn E e w base v n xs)
    (ad : Addr) (zs : List α) (m cap : Nat) (hx : a.eval x = .slice (some ad) m cap) (hm : zs.length = m) (hr : SRd E w (some ad) zs) (hlen : (n + m) * bytes ≤ 140737488355328) (hmax : n + m ≤ maxLen) (hb : base ≤ w.heap.size)
    (h : ∀ v' w', SOwn E e w' base v' (n + m) (xs ++ zs) → w.grownBy w' v.ownBlock → (v'.ownBlock = v.ownBlock ∨ v'.ownBlock = some w.heap.size) → K (a.put o.dst v') w') : if Region.wanted o (yielded ops a.tmps) = true then Oper.wp P o a w K Q else X := by
  have hw : Region.wanted o (yielded ops a.tmps) = true := by simp [Region.wanted, hgd]
  rw [if_pos hw]
  obtain ⟨i0, z, hi, hz0, hz1, hz2, hz3⟩ := T.info
  subst hm
  obtain ⟨v', w', hrun, hown', hg, _, hwh⟩ := run_append_own_at (P := P) w base t o.type e i0 z E.size bytes T.under hi hz0 hz1 hz2 hz3 E.pos v n (E.flat xs) hown ad zs.length cap (E.flat zs) (E.flat_len zs) hr.news (E.flat_one zs) hmax hlen hb
  unfold Oper.wp
  simp [execOp, ho, resolve, invoke, builtin, hs, hx, hrun, Result.andThen]
  rw [← E.flat_app] at hown'
  exact h v' w' hown' hg hwh
/-- A sample's row that a call owns. -/
structure SmOwn (w : World) (base : Nat) (r : Sv × Int × Int) (s : Smp) : Prop where
  tn : r.1.2.1 = s.1.length
  tv : r.2 = s.2
  sm : s.1.length ≤ 4398046511000
  own : SOwn labE 63 w base (.slice r.1.1 s.1.length r.1.2.2) s.1.length s.1
theorem SmOwn.stay {w w' : World} {base : Nat} {r : Sv × Int × Int} {s : Smp} (h : SmOwn w base r s) (hs : ∀ k, Typed w k 63 → base ≤ k → w'.heap[k]? = w.heap[k]?) : SmOwn w' base r s :=
  ⟨h.tn, h.tv, h.sm, sown_stay h.own (fun x hx => by
    have h2 := h.own
    rw [hx] at h2
    exact hs _ (sown_typed h2) (SOwn.block h2 x.block rfl).1)⟩
theorem SmOwn.rd {w : World} {base : Nat} {r : Sv × Int × Int} {s : Smp} (h : SmOwn w base r s) : OneIs w r s := ⟨h.tn, SOwn.rd h.own, (sown_cap h.own).2, h.sm, h.tv⟩
/-- Samples that a call owns. -/
structure SmsOwn (w : World) (base : Nat) (v : Value) (Q : List Smp) (raw : List (Sv × Int × Int)) : Prop where
  row : SOwn smpE 47 w base v Q.length raw
  smp : ∀ (i : Nat) (r : Sv × Int × Int) (s : Smp), raw[i]? = some r → Q[i]? = some s → SmOwn w base r s
theorem SmsOwn.nil (w : World) (base : Nat) : SmsOwn w base (.slice none 0 0) [] [] := ⟨SOwn.nil 47 w base, fun i r m hr => by simp at hr⟩
theorem SmsOwn.stay {w w' : World} {base : Nat} {v : Value} {Q : List Smp} {raw : List (Sv × Int × Int)} (h : SmsOwn w base v Q raw) (hs : ∀ k, base ≤ k → k < w.heap.size → w'.heap[k]? = w.heap[k]?) : SmsOwn w' base v Q raw := by
  obtain ⟨a, c, rfl⟩ := sown_slice h.row
  exact ⟨sown_stay h.row (fun x hx => hs _ (SOwn.block h.row x.block (by rw [hx]; rfl)).1 (SOwn.block h.row x.block (by rw [hx]; rfl)).2), fun i r m hr hm => (h.smp i r m hr hm).stay (fun k hk hb => hs k hb (typed_lt hk))⟩
theorem SmsOwn.grown {w w' : World} {base : Nat} {v : Value} {Q : List Smp} {raw : List (Sv × Int × Int)} (h : SmsOwn w base v Q raw) (hg : w.grownBy w' none) : SmsOwn w' base v Q raw :=
  h.stay (fun k h1 h2 => hg.block k h2 (by simp))
theorem SmsOwn.rd {w : World} {base c : Nat} {a : Option Addr} {n : Nat} {Q : List Smp} {raw : List (Sv × Int × Int)} (h : SmsOwn w base (.slice a n c) Q raw) : SmpRd w a raw Q ∧ (a = none → c = 0) ∧ Q.length = n := by
  obtain ⟨a', c', e⟩ := sown_slice h.row
  simp only [Value.slice.injEq] at e
  obtain ⟨rfl, rfl, rfl⟩ := e
  exact ⟨⟨SOwn.rd h.row, SOwn.len h.row, fun i r m hr hm => (h.smp i r m hr hm).rd⟩, (sown_cap h.row).2, rfl⟩
/-- A sample is appended to those that a call owns. -/
theorem own_append {w w' : World} {base : Nat} {v v' : Value} {Q : List Smp} {raw : List (Sv × Int × Int)} {m : Smp} {r : Sv × Int × Int} (h : SmsOwn w base v Q raw)
    (ho : SOwn smpE 47 w' base v' (Q.length + 1) (raw ++ [r])) (hg : w.grownBy w' v.ownBlock) (hr : SmOwn w base r m) : SmsOwn w' base v' (Q ++ [m]) (raw ++ [r]) := by
  have hT : ∀ k, v.ownBlock = some k → Typed w k 47 := fun k hk => by
    obtain ⟨a, c, rfl⟩ := sown_slice h.row
    cases a with
    | none => simp [Value.ownBlock] at hk
    | some x =>
      have : x.block = k := by simpa [Value.ownBlock] using hk
      rw [← this]; exact sown_typed h.row
  have st : ∀ k, Typed w k 63 → base ≤ k → w'.heap[k]? = w.heap[k]? := fun b hb _ => hg.block b (typed_lt hb) (fun e1 => Typed.ne hb (hT b e1.symm) (by decide) rfl)
  have hrl : raw.length = Q.length := SOwn.len h.row
  refine ⟨by rw [List.length_append]; exact ho, fun i r' t hr' ht => ?_⟩
  by_cases hi : i < raw.length
  · rw [List.getElem?_append_left hi] at hr'
    rw [List.getElem?_append_left (by omega)] at ht
    exact (h.smp i r' t hr' ht).stay st
  · rw [List.getElem?_append_right (by omega)] at hr' ht
    rw [hrl] at hr'
    obtain ⟨h7, _⟩ := List.getElem?_eq_some_iff.1 hr'
    simp at h7
    rw [show i - Q.length = 0 by omega] at hr' ht
    simp at hr' ht
    subst hr' ht
    exact hr.stay st
theorem info37 : (Tryd.prog.info? 47).map (fun i => (i.zero, i.size, i.bytes)) = some (some (.agg #[.slice none 0 0, .int .i64 0, .int .u64 0]), 3, 40) := by kernel_rfl
theorem smpT : ElemOf smpE Tryd.prog 22 47 40 := by
  obtain ⟨i0, hi, hz0, hz1, hz2⟩ := info_parts info37
  exact ⟨Tryd.underlying22, i0, _, hi, hz0, hz1, hz2, rfl⟩
set_option maxHeartbeats 2000000 in
/-- CopySamples. -/
theorem scopy (a : Option Addr) (raw : List (Sv × Int × Int)) (Q : List Smp) (L c : Nat) (w : World) (hx : SmpRd w a raw Q) (hL : Q.length = L) (hz : L ≤ 3518437208882) :
    Calls Tryd.prog 9 #[.slice a L c] w fun e w' => ∃ a' c' raw', e = .returned (.slice a' L c') ∧ SmsOwn w' w.heap.size (.slice a' L c') Q raw' ∧ w.grownBy w' none := by
  have HX : Hid (SmpRd w a raw Q) := hx
  have HL : Hid (Q.length = L) := hL
  clear hx hL
  go_enter Tryd.func9, Tryd.ntmps9
  go_wp2
  go_loopw [3, 4] (fun t3 i wr => ∃ (k : Nat) (Va : Option Addr) (Vc : Nat) (raw' : List (Sv × Int × Int)), k ≤ L ∧ t3 = .slice Va k Vc ∧ i = .int .i64 k ∧ SmsOwn wr w.heap.size (.slice Va k Vc) (Q.take k) raw' ∧ w.grownBy wr none) (fun _ i _ => L - (intOf i).toNat)
  case atStart => exact ⟨0, none, 0, [], Nat.zero_le _, rfl, rfl, by rw [List.take_zero]; exact SmsOwn.nil _ _, World.grownBy.refl _ _⟩
  case round =>
    obtain ⟨k, Va, Vc, raw', hk, rfl, rfl, hown, hg⟩ := hrel
    have HO : Hid (SmsOwn wr w.heap.size (.slice Va k Vc) (Q.take k) raw') := hown
    have HG : Hid (w.grownBy wr none) := hg
    clear hown hg
    by_cases hlt : k < L
    · have hki : (k : Int) < (L : Int) := by omega
      have hl := HL.out
      obtain ⟨⟨ls, T, V⟩, ex⟩ : ∃ x, Q[k]? = some x := ⟨_, List.getElem?_eq_getElem (by omega)⟩
      obtain ⟨b, off, la, lc, rfl, z0, z1, z2, hsr0, hnil, hll⟩ := smp_cells HX.out ex
      have hsr := hsr0.grown HG.out (by simp)
      obtain ⟨n1, en1⟩ : ∃ n1, ls.length = n1 := ⟨_, rfl⟩
      rw [en1] at z0 hll
      have HCS : Hid (∀ u, w.grownBy u none → u.cell? ⟨b, off + k * 3, none⟩ = some (.slice la n1 lc) ∧ u.cell? ⟨b, off + k * 3 + 1, none⟩ = some (.int .i64 T) ∧ u.cell? ⟨b, off + k * 3 + 2, none⟩ = some (.int .u64 V)) := fun u hu => ⟨hu.cell z0 (by simp), hu.cell z1 (by simp), hu.cell z2 (by simp)⟩
      obtain ⟨a0, a1, a2⟩ := HCS.out _ HG.out
      clear z0 z1 z2 hsr0
      have EN1 : Hid (ls.length = n1) := en1
      have EX : Hid (Q[k]? = some (ls, T, V)) := ex
      have HLC : Hid (∀ u, Hid (wr.grownBy u none) → Calls Tryd.prog 31 #[.slice la n1 lc] u fun e w' => ∃ g c, e = .returned (.slice (some ⟨g, 0, none⟩) n1 c) ∧ Hid (LOwn w' u.heap.size g n1 c ls) ∧ Hid (u.grownBy w' none)) := fun u hu => by
        refine (lcopy la ls n1 lc u (hsr.grown hu.out (by simp)) en1 hnil hll).mono ?_
        rintro e w' ⟨g, c, rfl, h1, h2⟩
        exact ⟨g, c, rfl, h1, h2⟩
      have HDR : Hid (wr.grownBy wr.drew none) := gb_drew (World.grownBy.refl _ _)
      have HNEXT : Hid (∀ u w6 g cg, Hid (wr.grownBy u none) → Hid (LOwn w6 u.heap.size g n1 cg ls) → Hid (u.grownBy w6 none) →
          SOwn smpE 47 (w6.alloc (.cells #[.slice (some ⟨g, 0, none⟩) n1 cg, .int .i64 T, .int .u64 V] 47)) w.heap.size (.slice Va k Vc) k raw' ∧
          SRd smpE (w6.alloc (.cells #[.slice (some ⟨g, 0, none⟩) n1 cg, .int .i64 T, .int .u64 V] 47)) (some ⟨w6.heap.size, 0, none⟩) [((some ⟨g, 0, none⟩, n1, cg), T, V)] ∧
          w.heap.size ≤ (w6.alloc (.cells #[.slice (some ⟨g, 0, none⟩) n1 cg, .int .i64 T, .int .u64 V] 47)).heap.size ∧
          ∀ v7 w7, SOwn smpE 47 w7 w.heap.size v7 (k + 1) (raw' ++ [((some ⟨g, 0, none⟩, n1, cg), T, V)]) → (w6.alloc (.cells #[.slice (some ⟨g, 0, none⟩) n1 cg, .int .i64 T, .int .u64 V] 47)).grownBy w7 (Value.slice Va k Vc).ownBlock →
            ∃ a7 c7, v7 = .slice a7 (k + 1) c7 ∧ Hid (SmsOwn w7 w.heap.size v7 (Q.take (k + 1)) (raw' ++ [((some ⟨g, 0, none⟩, n1, cg), T, V)]) ∧ w.grownBy w7 none)) := by
        intro u w6 g cg hu ho hg6
        have gall := (HG.out.trans hu.out).trans hg6.out
        have ga := World.grownBy_alloc w6 (.cells #[.slice (some ⟨g, 0, none⟩) n1 cg, .int .i64 T, .int .u64 V] 47) none
        have hO6 := HO.out.grown (hu.out.trans hg6.out)
        have hlt : (Q.take k).length = k := by rw [List.length_take, HL.out, Nat.min_eq_left hk]
        have hrow := (hO6.grown ga).row
        rw [hlt] at hrow
        refine ⟨hrow, srd_lit smpE 47 w6 [((some ⟨g, 0, none⟩, n1, cg), T, V)], Nat.le_trans gall.size ga.size, ?_⟩
        intro v7 w7 ho7 hg7
        obtain ⟨a7, c7, rfl⟩ := sown_slice ho7
        refine ⟨a7, c7, rfl, ?_, ?_⟩
        · have e1 : Q.take (k + 1) = Q.take k ++ [(ls, T, V)] := by rw [List.take_add_one, EX.out]; rfl
          rw [e1]
          refine own_append (hO6.grown ga) (by rw [hlt]; exact ho7) hg7 ⟨EN1.out.symm, rfl, by simp only; rw [EN1.out]; exact hll, ?_⟩
          simp only
          rw [EN1.out]
          exact SOwn.base (SOwn.kept ho.out ga (.inr (by simp [Value.ownBlock]))) (Nat.le_trans HG.out.size hu.out.size)
        · refine gb_trans (gall.trans ga) hg7 (fun j hj => .inl ?_)
          exact (SOwn.block HO.out.row j hj).1
      clear ex hsr en1 hnil hl
      go_wp2_with fail
      go_upto_region 5 with fail
      go_region_held3 (fun u => u.cell? ⟨b, off + k * 3, none⟩ = some (.slice la n1 lc) ∧ u.cell? ⟨b, off + k * 3 + 1, none⟩ = some (.int .i64 T) ∧ u.cell? ⟨b, off + k * 3 + 2, none⟩ = some (.int .u64 V)) (first | exact ⟨a0, a1, a2⟩ | (refine ⟨?_, ?_, ?_⟩ <;> assumption)) (first
        | (go_at_call 31; refine (HLC.out _ HDR).mono ?_; rintro e w6 ⟨g, cg, rfl, ho6, hg6⟩; have hgall := (HG.out.trans HDR.out).trans hg6.out; obtain ⟨b0, b1, b2⟩ := HCS.out _ hgall; obtain ⟨d0, d1, d2⟩ := HCS.out _ (hgall.trans (World.grownBy_alloc w6 (.cells #[.slice (some ⟨g, 0, none⟩) n1 cg, .int .i64 T, .int .u64 V] 47) none)); have HN := HNEXT.out _ w6 g cg HDR ho6 hg6; clear hgall)
        | (refine step_append_at smpT rfl (.tmp 11) (.tmp 29) rfl w.heap.size (.slice Va k Vc) k raw' (by simp [Act.eval]) HN.1 ⟨w6.heap.size, 0, none⟩ [((some ⟨g, 0, none⟩, n1, cg), T, V)] 1 1 (by simp [Act.eval]) rfl HN.2.1 (by omega) (by unfold maxLen; omega) HN.2.2.1 ?_; intro v7 w7 ho7 hg7 _; obtain ⟨a7, c7, rfl, HR7⟩ := HN.2.2.2 v7 w7 ho7 hg7; obtain ⟨e0, e1, e2⟩ := HCS.out _ HR7.out.2; clear ho7 hg7))
      clear HN b0 b1 b2 d0 d1 d2 e0 e1 e2 ho6 hg6
      go_wp2
      go_roundw
      case rel => exact ⟨k + 1, a7, c7, _, by omega, rfl, by go_num, HR7.out.1, HR7.out.2⟩
      case measure => simp [intOf]; omega
    · obtain rfl : k = L := by omega
      have HLT : Hid (Q.take k = Q) := List.take_of_length_le (by have := HL.out; omega)
      go_wp2
      go_ret
      have ho := HO.out
      rw [HLT.out] at ho
      exact ⟨Va, Vc, raw', rfl, ho, HG.out⟩
end Go.Proofs.YtecnocdffhmkaaaDoor

/- Samples held against one another. -/
namespace Go.Proofs.YtecnocdffhmkaaaDoor
open Go.RowKit
set_option linter.unusedVariables false
set_option maxRecDepth 20000

theorem lsameQ (a b : Option Addr) (xs ys : List Lab) (L M c d : Nat) (w : World) (hx : SRd labE w a xs) (hy : SRd labE w b ys) (hL : xs.length = L) (hM : ys.length = M) (hz : L ≤ 4398046511104) :
    Calls Tryd.prog 25 #[.slice a L c, .slice b M d] w fun e w' => e = .returned (.bool (decide (xs = ys))) ∧ ∃ n, w' = w.drewN n := by
  subst hL
  subst hM
  by_cases hl : xs.length = ys.length
  · rw [← hl]
    exact lsame_loop a b xs ys c d w hx hy hl.symm hz
  · have e : decide (xs = ys) = false := by
      simp only [decide_eq_false_iff_not]
      intro h
      exact hl (by rw [h])
    rw [e]
    refine (lsame_len a b _ _ c d w hl).mono ?_
    rintro e w' ⟨rfl, rfl⟩
    exact ⟨rfl, 0, rfl⟩
theorem ssame_len (a b : Option Addr) (L M c d : Nat) (w : World) (hne : ¬ L = M) :
    Calls Tryd.prog 11 #[.slice a L c, .slice b M d] w fun e w' => e = .returned (.bool false) ∧ w.grownBy w' none := by
  have h : ((L : Int) != (M : Int)) = true := by simp; omega
  go_enter Tryd.func11, Tryd.ntmps11
  go_wp2
  go_ret
  exact ⟨rfl, World.grownBy.refl _ _⟩
set_option maxHeartbeats 4000000 in
theorem ssame_loop (a b : Option Addr) (ra rb : List (Sv × Int × Int)) (xs ys : List Smp) (c d : Nat) (W : World) (hx : SmpRd W a ra xs) (hy : SmpRd W b rb ys) (hl : ys.length = xs.length) (hz : xs.length ≤ 3518437208882) :
    Calls Tryd.prog 11 #[.slice a xs.length c, .slice b xs.length d] W fun e w' => e = .returned (.bool (decide (xs = ys))) ∧ W.grownBy w' none := by
  have HX : Hid (SmpRd W a ra xs) := hx
  have HY : Hid (SmpRd W b rb ys) := hy
  have HE : Hid (∀ k, k < xs.length → xs[k]? ≠ ys[k]? → decide (xs = ys) = false) := by
    intro k hk hne
    simp only [decide_eq_false_iff_not]
    intro h
    rw [h] at hne
    exact hne rfl
  have HF : Hid ((∀ j, j < xs.length → xs[j]? = ys[j]?) → decide (xs = ys) = true) := fun h => by
    simp only [decide_eq_true_eq]
    apply List.ext_getElem?
    intro j
    by_cases hj : j < xs.length
    · exact h j hj
    · rw [List.getElem?_eq_none (by omega), List.getElem?_eq_none (by omega)]
  have HM : Hid (ys.length = xs.length) := hl
  obtain ⟨L, hL⟩ : ∃ L, L = xs.length := ⟨_, rfl⟩
  have H5 : Hid (L = xs.length) := hL
  obtain ⟨res, hres⟩ : ∃ r, r = decide (xs = ys) := ⟨_, rfl⟩
  have HRes : Hid (res = decide (xs = ys)) := hres
  rw [← hL] at hz ⊢
  rw [← hres]
  clear hx hy hl hL hres
  have h1 : ((L : Int) != (L : Int)) = false := by simp
  have HG0 : Hid (W.grownBy W none) := World.grownBy.refl _ _
  go_enter Tryd.func11, Tryd.ntmps11
  go_wp2
  go_loopw [5] (fun i wr => ∃ k : Nat, k ≤ L ∧ i = .int .i64 k ∧ W.grownBy wr none ∧ ∀ j, j < k → xs[j]? = ys[j]?) (fun i _ => L - (intOf i).toNat)
  case atStart => exact ⟨0, Nat.zero_le _, rfl, HG0.out, fun j h => by omega⟩
  case round =>
    obtain ⟨k, hk, rfl, hgr, hall⟩ := hrel
    have HA : Hid (∀ j, j < k → xs[j]? = ys[j]?) := hall
    have HGR : Hid (W.grownBy wr none) := hgr
    clear hall hgr
    by_cases hlt : k < L
    · have h5 := H5.out
      have h6 := HM.out
      obtain ⟨⟨t1, i1, s1⟩, ex⟩ : ∃ x, xs[k]? = some x := ⟨_, List.getElem?_eq_getElem (by omega)⟩
      obtain ⟨⟨t2, i2, s2⟩, ey⟩ : ∃ y, ys[k]? = some y := ⟨_, List.getElem?_eq_getElem (by omega)⟩
      obtain ⟨ba, offa, ta, tc, rfl, a0, a1, a2, rt, _, z1⟩ := smp_cells (HX.out.grown HGR.out) ex
      obtain ⟨bb, offb, tb, td, rfl, b0, b1, b2, st, _, z2⟩ := smp_cells (HY.out.grown HGR.out) ey
      have HC1 : Hid (∀ n, Calls Tryd.prog 25 #[.slice ta t1.length tc, .slice tb t2.length td] (wr.drewN n) fun e w' => e = .returned (.bool (decide (t1 = t2))) ∧ ∃ m, w' = (wr.drewN n).drewN m) := fun n => lsameQ ta tb t1 t2 _ _ tc td _ (rt.grown (gb_drewN wr n) (by simp)) (st.grown (gb_drewN wr n) (by simp)) rfl rfl (Nat.le_trans z1 (by decide))
      have hi : (k : Int) < (L : Int) := by omega
      have HEQ : Hid (decide (t1 = t2) = true → (i1 != i2) = false → (s1 != s2) = false → xs[k]? = ys[k]?) := fun e3 e1 e2 => by
        have e1 : i1 = i2 := by simpa using e1
        have e2 : s1 = s2 := by simpa using e2
        rw [ex, ey, e1, e2, of_decide_eq_true e3]
      have HNE : Hid (decide (t1 = t2) = false ∨ (i1 != i2) = true ∨ (s1 != s2) = true → decide (xs = ys) = false) := fun e1 => by
        refine HE.out k (by omega) ?_
        rw [ex, ey]
        intro e
        simp only [Option.some.injEq, Prod.mk.injEq] at e
        rcases e1 with e1 | e1 | e1
        · exact of_decide_eq_false e1 e.1
        · simp [e.2.1] at e1
        · simp [e.2.2] at e1
      generalize decide (t1 = t2) = q3 at HC1 HEQ HNE
      generalize t1.length = n1 at HC1 a0
      generalize t2.length = n2 at HC1 b0
      clear ex ey h5 h6 rt st z1 z2
      cases q3 with
      | false =>
        have HNE' : Hid (decide (xs = ys) = false) := HNE.out (.inl rfl)
        clear HNE HEQ
        go_wp2_with fail
        go_quiet (exact Calls.quiet_of (HC1.out _))
        go_wp2
        go_ret
        exact ⟨ret_bool (by rw [HRes.out, HNE'.out]), HGR.out.trans (gb_drewN wr _)⟩
      | true =>
        cases q1 : (i1 != i2) with
        | true =>
          have HNE' : Hid (decide (xs = ys) = false) := HNE.out (.inr (.inl q1))
          clear HNE HEQ
          go_wp2_with fail
          go_quiet (exact Calls.quiet_of (HC1.out _))
          go_wp2
          go_ret
          exact ⟨ret_bool (by rw [HRes.out, HNE'.out]), HGR.out.trans (gb_drewN wr _)⟩
        | false =>
          cases q2 : (s1 != s2) with
          | true =>
            have HNE' : Hid (decide (xs = ys) = false) := HNE.out (.inr (.inr q2))
            clear HNE HEQ
            go_wp2_with fail
            go_quiet (exact Calls.quiet_of (HC1.out _))
            go_wp2
            go_ret
            exact ⟨ret_bool (by rw [HRes.out, HNE'.out]), HGR.out.trans (gb_drewN wr _)⟩
          | false =>
            have HEQ' : Hid (xs[k]? = ys[k]?) := HEQ.out rfl q1 q2
            clear HNE HEQ
            go_wp2_with fail
            go_quiet (exact Calls.quiet_of (HC1.out _))
            go_wp2
            go_roundw
            case rel =>
              refine ⟨k + 1, by omega, by go_num, HGR.out.trans (gb_drewN wr _), fun j hj => ?_⟩
              by_cases hjk : j < k
              · exact HA.out j hjk
              · have : j = k := by omega
                subst this
                exact HEQ'.out
            case measure => simp [intOf]; omega
    · go_wp2
      go_ret
      refine ⟨ret_bool ?_, HGR.out⟩
      rw [HRes.out]
      exact (HF.out fun j hj => HA.out j (by have := H5.out; omega)).symm
theorem ssame (a b : Option Addr) (ra rb : List (Sv × Int × Int)) (xs ys : List Smp) (L M c d : Nat) (w : World) (hx : SmpRd w a ra xs) (hy : SmpRd w b rb ys) (hL : xs.length = L) (hM : ys.length = M) (hz : L ≤ 3518437208882) :
    Calls Tryd.prog 11 #[.slice a L c, .slice b M d] w fun e w' => e = .returned (.bool (decide (xs = ys))) ∧ w.grownBy w' none := by
  subst hL hM
  by_cases hl : xs.length = ys.length
  · rw [← hl]
    exact ssame_loop a b ra rb xs ys c d w hx hy hl.symm hz
  · have e : decide (xs = ys) = false := by
      simp only [decide_eq_false_iff_not]
      intro h
      exact hl (by rw [h])
    rw [e]
    exact ssame_len a b _ _ c d w hl
end Go.Proofs.YtecnocdffhmkaaaDoor

