/- Several texts in one: Ph, Pi, Pj, Pk, Pl. -/
import Derived.Test.YtnimdngiejcljaaZg
/- Package parse: tell. -/
namespace Go.Proofs.Ytnimdngiejcljaa
open Go.RowKit
set_option linter.unusedVariables false
set_option linter.unusedSimpArgs false
set_option maxRecDepth 20000

/-- A reader went on: only itself and its nodes' row were written; the row is the old one or a new one. -/
structure Adv (p : Nat) (w : World) (v : Value) (w' : World) (v' : Value) : Prop where
  fr : Fr (Wr p v) w w'
  new : ∀ j, v'.ownBlock = some j → v.ownBlock = some j ∨ w.heap.size ≤ j
theorem Adv.refl (p : Nat) (w : World) (v : Value) : Adv p w v w v := ⟨.refl _ _, fun j h => .inl h⟩
theorem Adv.trans {p : Nat} {w w1 w2 : World} {v v1 v2 : Value} (h : Adv p w v w1 v1) (h' : Adv p w1 v1 w2 v2) : Adv p w v w2 v2 := by
  refine ⟨h.fr.trans h'.fr (fun k hk hs => ?_), fun j hj => ?_⟩
  · rcases hs with e | e
    · exact .inl e
    · rcases h.new k e with e2 | e2
      · exact .inr e2
      · omega
  · rcases h'.new j hj with e | e
    · exact h.new j e
    · exact .inr (Nat.le_trans h.fr.size e)
theorem Adv.me {p : Nat} {w w' : World} {v : Value} (h : Fr (Me p) w w') : Adv p w v w' v := ⟨h.mono (fun k _ e => .inl e), fun j h => .inl h⟩
theorem Adv.gb {p : Nat} {w w' : World} {v : Value} (h : w.grownBy w' none) : Adv p w v w' v := .me (.of h)
/-- Rows that were made before stay through what the reader writes. -/
theorem Adv.keep {α : Type} {E : Elem α} {e : TypeId} {p : Nat} {w w' : World} {v v' : Value} {b n : Nat} {u : Value} {l : List α} (h : Adv p w v w' v') (ho : SOwn E e w b u n l) (hp : p < b) (hne : ∀ j, u.ownBlock = some j → v.ownBlock ≠ some j) : SOwn E e w' b u n l ∧ ∀ j, u.ownBlock = some j → v'.ownBlock ≠ some j := by
  refine ⟨sown_same ho (fun k hk h1 => h.fr.block k h1 (fun hs => ?_)), fun j hj e2 => ?_⟩
  · have := (SOwn.block ho k hk).1
    rcases hs with e | e
    · omega
    · exact hne k hk e
  · rcases h.new j e2 with e3 | e3
    · exact hne j hj e3
    · have := (SOwn.block ho j hj).2
      omega
theorem step_append_e {α : Type} {E : Elem α} {P : Program} {t e : TypeId} {bytes : Nat} (T : ElemOf E P t e bytes) {w : World} {ops : Array Oper} {o : Oper} {a : Act} {K : Act → World → Prop} {Q : Exit → Act → World → Prop} {EE : Prop} (hgd : o.guard = none) (s x : Operand)
    (ho : o.op = .call { callee := .builtin .append, args := #[s, x], argTypes := #[t, t] }) (base : Nat) (v : Value) (n : Nat) (xs : List α) (hs : a.eval s = v) (hown : SOwn E e w base v n xs)
    (ad : Addr) (zs : List α) (m cap : Nat) (hx : a.eval x = .slice (some ad) m cap) (hm : zs.length = m) (hr : SRd E w (some ad) zs) (hm0 : 0 < m) (hlen : (n + m) * bytes ≤ 140737488355328) (hmax : n + m ≤ maxLen) (hb : base ≤ w.heap.size)
    (h : ∀ g c w', SOwn E e w' base (.slice (some ⟨g, 0, none⟩) (n + m) c) (n + m) (xs ++ zs) → w.grownBy w' v.ownBlock → (v.ownBlock = some g ∨ g = w.heap.size) → K (a.put o.dst (.slice (some ⟨g, 0, none⟩) (n + m) c)) w') :
    if Region.wanted o (yielded ops a.tmps) = true then Oper.wp P o a w K Q else EE := by
  obtain ⟨i0, z, hi, hz0, hz1, hz2, hz3⟩ := T.info
  subst hm
  refine step_append_lies w hgd s x t ho base e i0 z E.size bytes T.under hi hz0 hz1 hz2 hz3 E.pos _ n (E.flat xs) hs hown ad zs.length cap (E.flat zs) hx (E.flat_len zs) hr.news (E.flat_one zs) hm0 hmax hlen hb w.heap.size rfl ?_
  intro g c w' hown' hg hgg _
  rw [← E.flat_app] at hown'
  exact h g c w' hown' hg hgg
/-- A row of elements, as a literal. -/
theorem lit_rd {α : Type} (E : Elem α) (w : World) (t : TypeId) (l : List α) : SRd E (w.alloc (.cells (E.flat l).toArray t)) (some ⟨w.heap.size, 0, none⟩) l := by
  refine .inr ⟨_, 0, rfl, fun j v hj => ?_⟩
  rw [Nat.zero_add, cell_of_row _ _ _ _ _ _ (heap_alloc_new w _)]
  simpa using hj
theorem tell_end {w W2 w3 : World} {b p : Nat} {K : Tk} {k : Nat} {op : Int} {v : Value} {L : List Row} {q : Row} {g3 c3 : Nat} (h : RdAt w b p K k op v L) (hW : w.grownBy W2 none) (hm : SOwn matE 44 w b (slV q.2.1) q.1.mat.length q.1.mat) (hn : SOwn strE 9 w b (slV q.2.2) q.1.names.length q.1.names) (am : ∀ j, (slV q.2.1).ownBlock = some j → v.ownBlock ≠ some j) (an : ∀ j, (slV q.2.2).ownBlock = some j → v.ownBlock ≠ some j)
    (ho : SOwn ndE 34 w3 b (.slice (some ⟨g3, 0, none⟩) (L.length + 1) c3) (L.length + 1) (L ++ [q])) (hg : W2.grownBy w3 v.ownBlock) (hgg : v.ownBlock = some g3 ∨ g3 = W2.heap.size) :
    w3.cell? ⟨p, 3, none⟩ = some v ∧ w3.frozen? ⟨p, 3, none⟩ = false ∧ RdAt (w3.setCell ⟨p, 3, none⟩ (.slice (some ⟨g3, 0, none⟩) (L.length + 1) c3)) b p K k op (.slice (some ⟨g3, 0, none⟩) (L.length + 1) c3) (L ++ [q]) ∧ Adv p w v (w3.setCell ⟨p, 3, none⟩ (.slice (some ⟨g3, 0, none⟩) (L.length + 1) c3)) (.slice (some ⟨g3, 0, none⟩) (L.length + 1) c3) := by
  have hvb : ∀ j, v.ownBlock = some j → b ≤ j ∧ j < w.heap.size := SOwn.block h.nds.own
  have hp := h.hp
  have hb := h.hb
  have hs := hW.size
  have hg3 : b ≤ g3 := by
    rcases hgg with e | e
    · exact (hvb _ e).1
    · omega
  have same : ∀ j, j < w.heap.size → v.ownBlock ≠ some j → w3.heap[j]? = w.heap[j]? := fun j hj hne => by
    rw [hg.block j (by omega) (fun e => hne e.symm), hW.block j hj (by simp)]
  have hpv : v.ownBlock ≠ some p := fun e => by have := (hvb p e).1; omega
  have row3 := (same p h.lt hpv).trans h.row
  have hfr : Fr (Wr p v) w (w3.setCell ⟨p, 3, none⟩ (.slice (some ⟨g3, 0, none⟩) (L.length + 1) c3)) :=
    ((Fr.of hW).trans (Fr.row (S := Wr p v) hg (fun k hk => .inr hk)) (fun _ _ e => e)).trans (fr_set _ _ _ _) (fun _ _ e => .inl e)
  have same2 : ∀ j, b ≤ j → j < w.heap.size → v.ownBlock ≠ some j → (w3.setCell ⟨p, 3, none⟩ (.slice (some ⟨g3, 0, none⟩) (L.length + 1) c3)).heap[j]? = w.heap[j]? := fun j hbj hj hne => by
    rw [set_other (by omega), same j hj hne]
  have hown : SOwn ndE 34 (w3.setCell ⟨p, 3, none⟩ (.slice (some ⟨g3, 0, none⟩) (L.length + 1) c3)) b (.slice (some ⟨g3, 0, none⟩) (L.length + 1) c3) (L ++ [q]).length (L ++ [q]) := by
    rw [List.length_append]
    refine sown_same ho (fun k hk _ => ?_)
    cases hk
    exact set_other (by show g3 ≠ p; omega)
  refine ⟨(cell4 row3).2.2.2, free_row row3 3, ⟨hp, h.hg, h.ne, Nat.le_trans hb hfr.size, (row_set row3 _).2.2, srd_same h.tok ?_, hown, ?_, ?_, ?_, ?_⟩, hfr, ?_⟩
  · rw [set_other h.ne]
    exact same _ (Nat.lt_of_lt_of_le h.hg hb) (fun e => by have := (hvb _ e).1; have := h.hg; omega)
  · intro r hr
    rcases List.mem_append.1 hr with h1 | h1
    · exact sown_same (h.nds.mat r h1) (fun j hj h2 => same2 j (SOwn.block (h.nds.mat r h1) j hj).1 h2 (h.nds.apm r h1 j hj))
    · rw [List.mem_singleton] at h1; subst h1
      exact sown_same hm (fun j hj h2 => same2 j (SOwn.block hm j hj).1 h2 (am j hj))
  · intro r hr
    rcases List.mem_append.1 hr with h1 | h1
    · exact sown_same (h.nds.nam r h1) (fun j hj h2 => same2 j (SOwn.block (h.nds.nam r h1) j hj).1 h2 (h.nds.apn r h1 j hj))
    · rw [List.mem_singleton] at h1; subst h1
      exact sown_same hn (fun j hj h2 => same2 j (SOwn.block hn j hj).1 h2 (an j hj))
  · intro r hr j hj e
    cases e
    rcases List.mem_append.1 hr with h1 | h1
    · rcases hgg with e | e
      · exact h.nds.apm r h1 _ hj e
      · have := (SOwn.block (h.nds.mat r h1) _ hj).2
        simp only at this; omega
    · rw [List.mem_singleton] at h1; subst h1
      rcases hgg with e | e
      · exact am _ hj e
      · have := (SOwn.block hm _ hj).2
        simp only at this; omega
  · intro r hr j hj e
    cases e
    rcases List.mem_append.1 hr with h1 | h1
    · rcases hgg with e | e
      · exact h.nds.apn r h1 _ hj e
      · have := (SOwn.block (h.nds.nam r h1) _ hj).2
        simp only at this; omega
    · rw [List.mem_singleton] at h1; subst h1
      rcases hgg with e | e
      · exact an _ hj e
      · have := (SOwn.block hn _ hj).2
        simp only at this; omega
  · intro j hj
    cases hj
    rcases hgg with e | e
    · exact .inl e
    · exact .inr (by show _ ≤ g3; omega)
/-- tell. -/
theorem f_tell {w : World} {b p : Nat} {K : Tk} {k : Nat} {op : Int} {v : Value} {L : List Row} (h : RdAt w b p K k op v L) (q : Row) (hm : SOwn matE 44 w b (slV q.2.1) q.1.mat.length q.1.mat) (hn : SOwn strE 9 w b (slV q.2.2) q.1.names.length q.1.names) (am : ∀ j, (slV q.2.1).ownBlock = some j → v.ownBlock ≠ some j) (an : ∀ j, (slV q.2.2).ownBlock = some j → v.ownBlock ≠ some j) (hl : L.length ≤ 1000000) :
    Calls Try.prog 53 #[.pointer (some ⟨p, 0, none⟩), .agg (ndA q.1 q.2.1 q.2.2)] w fun e w' => e = .returned (.tuple #[]) ∧ ∃ v', RdAt w' b p K k op v' (L ++ [q]) ∧ Adv p w v w' v' := by
  obtain ⟨N, eN⟩ : ∃ N, N = L.length := ⟨_, rfl⟩
  have c3 := h.cells.2.2.2
  obtain ⟨a, c, rfl⟩ := h.nds.val
  rw [← eN] at c3
  have g0 := World.grownBy_alloc w (.cells (ndA q.1 q.2.1 q.2.2) 34) none
  have g1 := g0.trans (World.grownBy_alloc _ (.cells (ndA q.1 q.2.1 q.2.2) 34) none)
  have hne : p ≠ w.heap.size := by have := h.lt; omega
  have d3 : (w.alloc (.cells (ndA q.1 q.2.1 q.2.2) 34)).cell? ⟨p, 3, none⟩ = some (.slice a N c) := by rw [eN]; exact (h.grown g0).cells.2.2.2
  have e3 : ((w.alloc (.cells (ndA q.1 q.2.1 q.2.2) 34)).alloc (.cells (ndA q.1 q.2.1 q.2.2) 34)).cell? ⟨p, 3, none⟩ = some (.slice a N c) := by rw [eN]; exact (h.grown g1).cells.2.2.2
  have HOW : Hid (SOwn ndE 34 ((w.alloc (.cells (ndA q.1 q.2.1 q.2.2) 34)).alloc (.cells (ndA q.1 q.2.1 q.2.2) 34)).drew b (.slice a N c) N L) := by
    show SOwn _ _ _ _ _ _ _
    rw [eN]
    exact SOwn.kept h.nds.own (gb_drew g1) (by cases a <;> simp [Value.ownBlock])
  have HIL : Hid (SRd ndE ((w.alloc (.cells (ndA q.1 q.2.1 q.2.2) 34)).alloc (.cells (ndA q.1 q.2.1 q.2.2) 34)).drew (some ⟨(w.alloc (.cells (ndA q.1 q.2.1 q.2.2) 34)).heap.size, 0, none⟩) [q]) := by
    have := lit_rd ndE (w.alloc (.cells (ndA q.1 q.2.1 q.2.2) 34)) 34 [q]
    rw [show (ndE.flat [q]).toArray = ndA q.1 q.2.1 q.2.2 by simp [Elem.flat, ndE]] at this
    exact this
  have HSTEP : Hid (∀ g3 c3 w3, SOwn ndE 34 w3 b (.slice (some ⟨g3, 0, none⟩) (N + 1) c3) (N + 1) (L ++ [q]) → ((w.alloc (.cells (ndA q.1 q.2.1 q.2.2) 34)).alloc (.cells (ndA q.1 q.2.1 q.2.2) 34)).drew.grownBy w3 (Value.slice a N c).ownBlock → ((Value.slice a N c).ownBlock = some g3 ∨ g3 = ((w.alloc (.cells (ndA q.1 q.2.1 q.2.2) 34)).alloc (.cells (ndA q.1 q.2.1 q.2.2) 34)).drew.heap.size) → w3.cell? ⟨p, 3, none⟩ = some (.slice a N c) ∧ w3.frozen? ⟨p, 3, none⟩ = false ∧ Hid (RdAt (w3.setCell ⟨p, 3, none⟩ (.slice (some ⟨g3, 0, none⟩) (N + 1) c3)) b p K k op (.slice (some ⟨g3, 0, none⟩) (N + 1) c3) (L ++ [q]) ∧ Adv p w (.slice a N c) (w3.setCell ⟨p, 3, none⟩ (.slice (some ⟨g3, 0, none⟩) (N + 1) c3)) (.slice (some ⟨g3, 0, none⟩) (N + 1) c3))) := by
    show ∀ g3 c3 w3, _
    rw [eN]
    intro g3 c3 w3 ho hg hgg
    obtain ⟨x1, x2, x3, x4⟩ := tell_end h (gb_drew g1) hm hn am an ho hg hgg
    exact ⟨x1, x2, x3, x4⟩
  have hz : (w.alloc (.cells (ndA q.1 q.2.1 q.2.2) 34)).heap.size = w.heap.size + 1 := size_alloc _ _
  have hb : b ≤ ((w.alloc (.cells (ndA q.1 q.2.1 q.2.2) 34)).alloc (.cells (ndA q.1 q.2.1 q.2.2) 34)).drew.heap.size := Nat.le_trans h.hb g1.size
  have HB := hid hb
  have hN : N ≤ 1000000 := by omega
  rw [← eN]
  clear h hm hn am an eN hl hb g0 g1
  unfold ndA slV at *
  rw [hz] at HIL
  clear hz
  go_enter Try.func53, Try.ntmps53
  go_wp2
  go_region_law (refine step_append_e ndT rfl (.tmp 8) (.tmp 10) rfl b (.slice a N c) N L (by simp [Act.eval]) HOW.out ⟨w.heap.size + 1, 0, none⟩ [q] 1 1 (by simp [Act.eval]) rfl HIL.out (by omega) (by omega) ?b2 HB.out ?_; (case b2 => unfold maxLen; omega); intro g3 c3 w3 ho3 hg3 hgg; obtain ⟨s3, z3, HX3⟩ := HSTEP.out g3 c3 w3 ho3 hg3 hgg; clear ho3 hg3 hgg)
  all_goals go_wp2
  all_goals go_end0
  all_goals exact ⟨rfl, _, HX3.out.1, HX3.out.2⟩
end Go.Proofs.Ytnimdngiejcljaa

/- Package parse: list. -/
namespace Go.Proofs.Ytnimdngiejcljaa
open Go.RowKit
set_option linter.unusedVariables false
set_option linter.unusedSimpArgs false
set_option maxRecDepth 20000

/-- What a call answers that goes on from one state to another, or throws. -/
def LOut {α : Type} (I : α → Nat → World → Prop) (K : Tk) (S : Nat → Prop) (w0 : World) (k : Nat) (R : Rs α) (e : Ending) (w' : World) : Prop :=
  match R with
  | .ok a r => e = .returned (.tuple #[]) ∧ ∃ k', I a k' w' ∧ Ahead K k' r ∧ k < k'
  | .bad q c => e = .panicked (flt q c) ∧ Fr S w0 w'
  | .out => False
/-- Where a reader stands. -/
def atW (p : Nat) (w : World) : Nat := match w.cell? ⟨p, 1, none⟩ with
  | some (.int _ n) => n.toNat
  | _ => 0
theorem atW_eq {w : World} {b p : Nat} {K : Tk} {k : Nat} {op : Int} {v : Value} {L : List Row} (h : RdAt w b p K k op v L) : atW p w = k := by
  unfold atW
  rw [h.cells.2.1]
  simp
theorem need_yes {s : ByteArray} {ts : List Tok} (h : isB s ts = true) : need s ts = .ok () ts.tail := by unfold need; rw [if_pos h]
theorem need_no {s : ByteArray} {ts : List Tok} (h : isB s ts = false) : need s ts = .bad (hd ts).2.1 (failC ts) := by unfold need; rw [if_neg (by rw [h]; simp)]; rfl
theorem ent60 (caps : Array Value) (w : World) : (callFunc 60 caps).run Try.prog w = .ok (.enter 60 caps) w := by kernel_rfl
theorem ent84 (caps : Array Value) (w : World) : (callFunc 84 caps).run Try.prog w = .ok (.enter 84 caps) w := by kernel_rfl
set_option maxHeartbeats 1000000 in
theorem f_list {α : Type} (I : α → Nat → World → Prop) (S : Nat → Prop) (w0 : World) (step : α → List Tok → Rs α) (fn : Nat) (caps : Array Value) (opens closes : ByteArray) (hE : ∀ w, (callFunc fn caps).run Try.prog w = .ok (.enter fn caps) w) {b p : Nat} {K : Tk} {op : Int} {v : Value} {L : List Row}
    (hR : ∀ a k w, I a k w → RdAt w b p K k op v L) (hT : ∀ a k k' w w', k ≤ k' → I a k w → RdAt w' b p K k' op v L → Fr (Me p) w w' → I a k' w') (hF : ∀ a k w, I a k w → Fr S w0 w)
    (hC : ∀ a k ts w, I a k w → Ahead K k ts → Calls Try.prog fn caps w fun e w' => LOut I K S w0 k (step a ts) e w')
    (f : Nat) (a : α) (k : Nat) (ts : List Tok) (w : World) (h : I a k w) (ha : Ahead K k ts) (hne : listR step opens closes f a ts ≠ .out) :
    Calls Try.prog 59 #[.pointer (some ⟨p, 0, none⟩), .string opens, .func (.func fn) #[] caps, .string closes] w fun e w' => LOut I K S w0 k (listR step opens closes f a ts) e w' := by
  obtain ⟨R, eR⟩ : ∃ R, R = listR step opens closes f a ts := ⟨_, rfl⟩
  rw [← eR] at hne ⊢
  have ER := hid eR
  have HNE := hid hne
  have H := hid h
  have HA := hid ha
  have HR := hid hR
  have HT := hid hT
  have HF := hid hF
  have HC := hid hC
  clear h ha eR hne hR hT hF hC
  go_enter Try.func59, Try.ntmps59
  go_wp2_with fail
  refine (f_needs (HR.out _ _ _ H.out) HA.out opens).mono ?_
  rintro e w1 (⟨hb, rfl, h1, f1⟩ | ⟨hb, rfl, g1⟩)
  · have H1 : Hid (I a (k + 1) w1) := HT.out _ _ _ _ _ (by omega) H.out h1 f1
    have HA1 := hid (HA.out.next (mean_next hb))
    have ER1 : Hid (R = if isB closes ts.tail = true then .ok a ts.tail.tail else (step a ts.tail).bind (moreR step closes f)) := by
      have := ER.out
      unfold listR at this
      rw [need_yes hb, bind_ok] at this
      exact this
    clear hb h1 f1 ER
    go_wp2_with fail
    refine (f_takes (HR.out _ _ _ H1.out) HA1.out closes).mono ?_
    rintro e w2 (⟨hb, rfl, h2, f2⟩ | ⟨hb, rfl, g2⟩)
    · have H2 : Hid (I a (k + 1 + 1) w2) := HT.out _ _ _ _ _ (by omega) H1.out h2 f2
      have HA2 := hid (HA1.out.next (mean_next hb))
      have ER2 : Hid (R = .ok a ts.tail.tail) := by
        have := ER1.out
        rw [if_pos hb] at this
        exact this
      clear hb h2 f2 ER1
      go_wp2
      go_end0
      rw [ER2.out]
      exact ⟨rfl, _, H2.out, HA2.out, by omega⟩
    · have H2 : Hid (I a (k + 1) w2) := HT.out _ _ _ _ _ (by omega) H1.out ((HR.out _ _ _ H1.out).grown g2) (.of g2)
      have ER2 : Hid (R = (step a ts.tail).bind (moreR step closes f)) := by
        have := ER1.out
        rw [if_neg (by rw [hb]; simp)] at this
        exact this
      clear hb g2 ER1
      go_wp2_with fail
      refine (HC.out a (k + 1) ts.tail w2 H2.out HA1.out).mono ?_
      intro e w3 h3
      cases hs : step a ts.tail with
      | out => rw [hs] at h3; exact h3.elim
      | bad q c =>
        rw [hs] at h3
        obtain ⟨rfl, h3⟩ := h3
        have ER3 : Hid (R = .bad q c) := by
          have := ER2.out
          rw [hs, bind_bad] at this
          exact this
        have H3 := hid h3
        clear h3 hs ER2
        go_wp2
        rw [ER3.out]
        exact ⟨rfl, rfl, H3.out⟩
      | ok a1 r1 =>
        rw [hs] at h3
        obtain ⟨rfl, k1, h3, ha3, hk3⟩ := h3
        have ER3 : Hid (moreR step closes f a1 r1 = R) := by
          have := ER2.out
          rw [hs, bind_ok] at this
          exact this.symm
        have H3 := hid h3
        have HA3 := hid ha3
        clear h3 hs ER2 ha3
        go_wp2_with fail
        go_loopw [] (fun wr => ∃ a2 k2 f2 r2, I a2 k2 wr ∧ Ahead K k2 r2 ∧ k < k2 ∧ Hid (moreR step closes f2 a2 r2 = R)) (fun wr => K.T.length - atW p wr)
        case atStart => exact ⟨a1, k1, f, r1, H3.out, HA3.out, by omega, ER3⟩
        case round =>
          clear H H1 H2 H3 HA HA1 HA3 ER3
          obtain ⟨a2, k2, f2, r2, h4, ha4, hk4, ER4⟩ := hrel
          have H4 := hid h4
          have HA4 := hid ha4
          have hlt := ha4.lt
          clear h4 ha4
          cases f2 with
          | zero => exact absurd ER4.out.symm HNE.out
          | succ f2 =>
            have ER5 : Hid ((if isB ⟨#[44]⟩ r2 = true then (step a2 r2.tail).bind (moreR step closes f2) else (need closes r2).bind fun _ r => .ok a2 r) = R) := ER4.out
            clear ER4
            go_wp2_with fail
            refine (f_takes (HR.out _ _ _ H4.out) HA4.out ⟨#[44]⟩).mono ?_
            rintro e w5 (⟨hb, rfl, h5, f5⟩ | ⟨hb, rfl, g5⟩)
            · have H5 : Hid (I a2 (k2 + 1) w5) := HT.out _ _ _ _ _ (by omega) H4.out h5 f5
              have HA5 := hid (HA4.out.next (mean_next hb))
              have ER6 : Hid ((step a2 r2.tail).bind (moreR step closes f2) = R) := by
                have := ER5.out
                rw [if_pos hb] at this
                exact this
              have HAT : Hid (atW p wr = k2) := atW_eq (HR.out _ _ _ H4.out)
              clear hb h5 f5 ER5
              go_wp2_with fail
              refine (HC.out a2 (k2 + 1) r2.tail w5 H5.out HA5.out).mono ?_
              intro e w6 h6
              cases hs : step a2 r2.tail with
              | out => rw [hs] at h6; exact h6.elim
              | bad q c =>
                rw [hs] at h6
                obtain ⟨rfl, h6⟩ := h6
                have ER7 : Hid (R = .bad q c) := by
                  have := ER6.out
                  rw [hs, bind_bad] at this
                  exact this.symm
                have H6 := hid h6
                clear h6 hs ER6
                go_wp2
                rw [ER7.out]
                exact ⟨rfl, rfl, H6.out⟩
              | ok a7 r7 =>
                rw [hs] at h6
                obtain ⟨rfl, k7, h7, ha7, hk7⟩ := h6
                have ER7 : Hid (moreR step closes f2 a7 r7 = R) := by
                  have := ER6.out
                  rw [hs, bind_ok] at this
                  exact this
                have H7 := hid h7
                have HA7 := hid ha7
                have HAT7 : Hid (atW p w6 = k7) := atW_eq (HR.out _ _ _ h7)
                clear h7 hs ER6 ha7
                go_wp2
                go_roundw
                case rel => exact ⟨a7, k7, f2, r7, H7.out, HA7.out, by omega, ER7⟩
                case measure => rw [HAT.out, HAT7.out]; omega
            · have H5 : Hid (I a2 k2 w5) := HT.out _ _ _ _ _ (by omega) H4.out ((HR.out _ _ _ H4.out).grown g5) (.of g5)
              have ER6 : Hid (((need closes r2).bind fun _ r => .ok a2 r) = R) := by
                have := ER5.out
                rw [if_neg (by rw [hb]; simp)] at this
                exact this
              clear hb g5 ER5
              go_wp2_with fail
              refine (f_needs (HR.out _ _ _ H5.out) HA4.out closes).mono ?_
              rintro e w6 (⟨hb, rfl, h6, f6⟩ | ⟨hb, rfl, g6⟩)
              · have H6 : Hid (I a2 (k2 + 1) w6) := HT.out _ _ _ _ _ (by omega) H5.out h6 f6
                have HA6 := hid (HA4.out.next (mean_next hb))
                have ER7 : Hid (R = .ok a2 r2.tail) := by
                  have := ER6.out
                  rw [need_yes hb, bind_ok] at this
                  exact this.symm
                clear hb h6 f6 ER6
                go_wp2
                go_end0
                rw [ER7.out]
                exact ⟨rfl, _, H6.out, HA6.out, by omega⟩
              · have H6 : Hid (Fr S w0 w6) := (HF.out _ _ _ H5.out).trans (.of (S := S) g6) (fun _ _ e => e)
                have ER7 : Hid (R = .bad (hd r2).2.1 (failC r2)) := by
                  have := ER6.out
                  rw [need_no hb, bind_bad] at this
                  exact this.symm
                clear hb g6 ER6
                go_wp2
                rw [ER7.out]
                exact ⟨rfl, rfl, H6.out⟩
  · have H1 : Hid (Fr S w0 w1) := (HF.out _ _ _ H.out).trans (.of (S := S) g1) (fun _ _ e => e)
    have ER1 : Hid (R = .bad (hd ts).2.1 (failC ts)) := by
      have := ER.out
      unfold listR at this
      rw [need_no hb, bind_bad] at this
      exact this
    clear hb g1 ER
    go_wp2
    rw [ER1.out]
    exact ⟨rfl, rfl, H1.out⟩
end Go.Proofs.Ytnimdngiejcljaa

/- Package parse: token, span; isKept. -/
namespace Go.Proofs.Ytnimdngiejcljaa
open Go.RowKit
set_option linter.unusedVariables false
set_option linter.unusedSimpArgs false
set_option maxRecDepth 20000

/-- A reader lives through what writes new blocks. -/
theorem RdAt.past {S : Nat → Prop} {w W W' : World} {b p : Nat} {K : Tk} {k0 k : Nat} {op0 op : Int} {v : Value} {L : List Row} (h0 : RdAt w b p K k0 op0 v L) (h : RdAt W b p K k op v L) (hf : Fr S W W') (hs : ∀ j, S j → w.heap.size ≤ j) : RdAt W' b p K k op v L :=
  h.fr hf (fun j hj => ⟨Nat.le_trans h0.hb (hs j hj), fun e => by have := (SOwn.block h0.nds.own j e).2; have := hs j hj; omega, fun q hq => ⟨fun e => by have := (SOwn.block (h0.nds.mat q hq) j e).2; have := hs j hj; omega, fun e => by have := (SOwn.block (h0.nds.nam q hq) j e).2; have := hs j hj; omega⟩⟩)
def tokOf (kd : Int) (ts : List Tok) : Rs Tok := if (hd ts).1 = kd then .ok (hd ts) ts.tail else fail ts
set_option maxHeartbeats 400000 in
theorem f_token {w : World} {b p : Nat} {K : Tk} {k : Nat} {op : Int} {v : Value} {L : List Row} {ts : List Tok} (h : RdAt w b p K k op v L) (ha : Ahead K k ts) (kd : Int) (h0 : kd ≠ 0) :
    Calls Try.prog 86 #[.pointer (some ⟨p, 0, none⟩), .int .i64 kd] w fun e w' => ReadOut b p K k op v L (tokOf kd ts) tkV w e w' := by
  have HA := hid ha
  have hk := ha.lt
  have hs := ha.small
  have HC := hid (ha.next)
  have H0 := hid (h.grown (World.grownBy_alloc w (.cells #[.int .i64 0, .int .i64 0, .string ⟨#[]⟩, .int .i64 0] 52) none))
  have HG0 := hid (World.grownBy_alloc w (.cells #[.int .i64 0, .int .i64 0, .string ⟨#[]⟩, .int .i64 0] 52) none)
  have HB0 := hid (heap_alloc_new w (.cells #[.int .i64 0, .int .i64 0, .string ⟨#[]⟩, .int .i64 0] 52))
  have HZ : Hid ((w.alloc (.cells #[.int .i64 0, .int .i64 0, .string ⟨#[]⟩, .int .i64 0] 52)).heap.size = w.heap.size + 1) := size_alloc _ _
  have HB := hid (fun W : World => heap_alloc_new W (.cells #[.int .i64 (hd ts).1, .int .i64 (hd ts).2.1, .string (hd ts).2.2.1, .int .i64 (hd ts).2.2.2] 52))
  have HGA := hid (fun W : World => World.grownBy_alloc W (.cells #[.int .i64 (hd ts).1, .int .i64 (hd ts).2.1, .string (hd ts).2.2.1, .int .i64 (hd ts).2.2.2] 52) none)
  have HPL := hid h.lt
  have HH := hid h
  unfold tokOf
  by_cases hc : (hd ts).1 = kd
  · have q0 : ((hd ts).1 == kd) = true := by simpa using hc
    have HN : Hid ((hd ts).1 ≠ 0) := by show _ ≠ _; rw [hc]; exact h0
    rw [if_pos hc]
    clear h ha hc h0
    go_enter Try.func86, Try.ntmps86
    go_wp2_with fail
    refine (f_here H0.out HA.out).mono ?_
    rintro e w1 ⟨rfl, g1⟩
    have B1 := hid ((g1.block w.heap.size (by rw [HZ.out]; omega) (by simp)).trans HB0.out)
    have hz1 : w.heap.size < w1.heap.size := by have := g1.size; rw [HZ.out] at this; omega
    have G1 : Hid (w.grownBy (w1.alloc (.cells #[.int .i64 (hd ts).1, .int .i64 (hd ts).2.1, .string (hd ts).2.2.1, .int .i64 (hd ts).2.2.2] 52)) none) := (HG0.out.trans g1).trans (HGA.out w1)
    have H1 := hid ((H0.out.grown g1).grown (HGA.out w1))
    obtain ⟨z0, z1, z2, z3⟩ := cell4 (HB.out w1)
    have B2 := hid ((((HGA.out w1).block w.heap.size hz1 (by simp)).trans B1.out))
    clear g1 z1 z2 z3
    unfold tkV
    go_wp2_with fail
    refine (f_must H1.out HA.out true).mono ?_
    rintro e w2 ⟨⟨_, rfl⟩ | ⟨h, _⟩, g2⟩
    · have G2 : Hid (w.grownBy w2 none) := G1.out.trans g2
      have hz2 : w.heap.size < w2.heap.size := by have := g2.size; simp only [size_alloc] at this; omega
      have B3 := hid ((g2.block w.heap.size (by simp only [size_alloc]; omega) (by simp)).trans B2.out)
      have B4 := hid ((g2.block w1.heap.size (by simp only [size_alloc]; omega) (by simp)).trans (HB.out w1))
      have H2 := hid (H1.out.grown g2)
      have HS := hid (H2.out.at (k + 1))
      rw [show ((k + 1 : Nat) : Int) = (k : Int) + 1 by omega] at HS
      have HFS := hid (fr_set p 1 w2 (.int .i64 ((k : Int) + 1)))
      obtain ⟨c0, c1, c2, c3⟩ := H2.out.cells
      have z1 := H2.out.free 1
      have hne1 : p ≠ w1.heap.size := by have := HPL.out; omega
      have hne2 : p ≠ w.heap.size := by have := HPL.out; omega
      have hne3 : w.heap.size ≠ w1.heap.size := by omega
      obtain ⟨y0, y1, y2, y3⟩ := cell4 B4.out
      obtain ⟨x0, x1, x2, x3⟩ := cell4 B3.out
      have u0 := free_row B3.out 0
      have u1 := free_row B3.out 1
      have u2 := free_row B3.out 2
      have u3 := free_row B3.out 3
      have HROW : Hid ((w2.setCell ⟨p, 1, none⟩ (.int .i64 ((k : Int) + 1))).heap[w.heap.size]? = some (.cells #[.int .i64 0, .int .i64 0, .string ⟨#[]⟩, .int .i64 0] 52 (0, 0))) := by show _ = _; rw [set_other (fun e => hne2 e.symm)]; exact B3.out
      clear g2 c0 c2 c3 z0
      go_wp2
      generalize hW : w2.setCell ⟨p, 1, none⟩ (.int .i64 ((k : Int) + 1)) = W at *
      refine bodyPost_ret (v := .agg #[.int .i64 (hd ts).1, .int .i64 (hd ts).2.1, .string (hd ts).2.2.1, .int .i64 (hd ts).2.2.2]) (results_cell_row Try.results86 _ _ w.heap.size 52 _ (0, 0) _ rfl (row4 HROW.out _ _ _ _) Try.underlying52 rfl isz32) rfl ?_
      have gp := gb_put4 W w.heap.size (.int .i64 (hd ts).1) (.int .i64 (hd ts).2.1) (.string (hd ts).2.2.1) (.int .i64 (hd ts).2.2.2)
      have F1 : Fr (Me p) w W := (Fr.of (S := Me p) G2.out).trans HFS.out (fun _ _ e => e)
      refine ⟨rfl, k + 1, RdAt.past (S := fun j => j = w.heap.size) HH.out HS.out (Fr.row gp (fun j e => by cases e; rfl)) (fun j e => Nat.le_of_eq e.symm), HC.out HN.out, by omega, F1.trans (Fr.row (S := fun j => j = w.heap.size) gp (fun j e => by cases e; rfl)) (fun j hj e => by omega)⟩
    · cases h
  · have q0 : ((hd ts).1 == kd) = false := by simpa using hc
    rw [if_neg hc]
    clear h ha hc h0
    go_enter Try.func86, Try.ntmps86
    go_wp2_with fail
    refine (f_here H0.out HA.out).mono ?_
    rintro e w1 ⟨rfl, g1⟩
    have G1 : Hid (w.grownBy (w1.alloc (.cells #[.int .i64 (hd ts).1, .int .i64 (hd ts).2.1, .string (hd ts).2.2.1, .int .i64 (hd ts).2.2.2] 52)) none) := (HG0.out.trans g1).trans (HGA.out w1)
    have H1 := hid ((H0.out.grown g1).grown (HGA.out w1))
    obtain ⟨z0, z1, z2, z3⟩ := cell4 (HB.out w1)
    clear g1 z1 z2 z3
    unfold tkV
    go_wp2_with fail
    refine (f_must H1.out HA.out false).mono ?_
    rintro e w2 ⟨⟨h, _⟩ | ⟨_, rfl⟩, g2⟩
    · cases h
    · have G2 : Hid (w.grownBy w2 none) := G1.out.trans g2
      clear g2
      go_wp2
      exact ⟨rfl, rfl, .of G2.out⟩
theorem f_span {w : World} {b p : Nat} {K : Tk} {k : Nat} {op : Int} {v : Value} {L : List Row} {ts : List Tok} (h : RdAt w b p K k op v L) (ha : Ahead K k ts) :
    Calls Try.prog 81 #[.pointer (some ⟨p, 0, none⟩)] w fun e w' => ReadOut b p K k op v L (spanT ts) (.int .i64) w e w' := by
  have HT := hid (f_token h ha 2 (by decide))
  have f3 := fld3 (.int .i64 (hd ts).1) (.int .i64 (hd ts).2.1) (.string (hd ts).2.2.1) (.int .i64 (hd ts).2.2.2)
  unfold tokOf at HT
  unfold spanT
  by_cases hc : (hd ts).1 = 2
  · rw [if_pos hc] at HT ⊢
    clear h ha hc
    go_enter Try.func81, Try.ntmps81
    go_wp2_with fail
    refine HT.out.mono ?_
    rintro e w1 ⟨rfl, h1⟩
    have H1 : Hid (∃ k', RdAt w1 b p K k' op v L ∧ Ahead K k' ts.tail ∧ k < k' ∧ Fr (Me p) w w1) := h1
    clear HT h1
    unfold tkV
    go_wp2
    go_ret
    exact ⟨rfl, H1.out⟩
  · rw [if_neg hc] at HT ⊢
    clear h ha hc
    go_enter Try.func81, Try.ntmps81
    go_wp2_with fail
    refine HT.out.mono ?_
    rintro e w1 ⟨rfl, h1⟩
    have H1 : Hid (Fr (Me p) w w1) := h1
    clear HT h1
    go_wp2
    exact ⟨rfl, rfl, H1.out⟩
theorem idx92 (x y z u : Value) (w : World) : (Instr.index 92 (.agg #[x, y, z, u]) (.int .i64 0)).run Try.prog w = .ok x w ∧ (Instr.index 92 (.agg #[x, y, z, u]) (.int .i64 1)).run Try.prog w = .ok y w ∧ (Instr.index 92 (.agg #[x, y, z, u]) (.int .i64 2)).run Try.prog w = .ok z w ∧ (Instr.index 92 (.agg #[x, y, z, u]) (.int .i64 3)).run Try.prog w = .ok u w :=
  ⟨by kernel_rfl, by kernel_rfl, by kernel_rfl, by kernel_rfl⟩
/-- The rows whose words are kept. -/
def keptRow : Nat → List ByteArray
  | 0 => funcsR
  | 1 => aggsR
  | 2 => opsR
  | _ => grpsR
theorem kept_none {q : Tok} (h : ∀ j, j < 4 → numIn (keptRow j) q = 0) : keptB q = (decide (q.2.2.1 = boolS) || decide (q.2.2.1 = offS)) := by
  have h0 := h 0 (by omega)
  have h1 := h 1 (by omega)
  have h2 := h 2 (by omega)
  have h3 := h 3 (by omega)
  simp only [keptRow] at h0 h1 h2 h3
  unfold keptB
  rw [h0, h1, h2, h3]
  rfl
theorem kept_some {q : Tok} {j : Nat} (hj : j < 4) (h : numIn (keptRow j) q ≠ 0) : keptB q = true := by
  have hj4 : j = 0 ∨ j = 1 ∨ j = 2 ∨ j = 3 := by omega
  unfold keptB
  rcases hj4 with rfl | rfl | rfl | rfl <;> simp only [keptRow] at h <;> simp [h]
/-- A slice of a row of words, in a world. -/
def KeptAt (q : Tok) (j : Nat) (w : World) (v : Value) : Prop := ∀ W, w.grownBy W none → Calls Try.prog 55 #[v, tkV q] W fun e w' => e = .returned (.int .i64 (numIn (keptRow j) q)) ∧ W.grownBy w' none
theorem kept_of {q : Tok} {j : Nat} {w : World} {a : Option Addr} {c : Nat} {l : List ByteArray} (e : l = keptRow j) (h : SRd strE w a l) (hl : l.length ≤ 1000) : KeptAt q j w (.slice a l.length c) := fun W hg => by
  subst e
  exact f_numIn a c _ q W (h.grown hg (by simp)) hl
theorem KeptAt.grown {q : Tok} {j : Nat} {w w' : World} {v : Value} (h : KeptAt q j w v) (hg : w.grownBy w' none) : KeptAt q j w' v := fun W h2 => h W (hg.trans h2)
end Go.Proofs.Ytnimdngiejcljaa

/- Package parse: isKept. -/
namespace Go.Proofs.Ytnimdngiejcljaa
open Go.RowKit
set_option linter.unusedVariables false
set_option linter.unusedSimpArgs false
set_option maxRecDepth 20000

theorem tl_bool : boolS.toList = [98, 111, 111, 108] := by first | rfl | simp [boolS] | decide
theorem tl_off : offS.toList = [111, 102, 102, 115, 101, 116] := by first | rfl | simp [offS] | decide
theorem f_kept (q : Tok) (w : World) : Calls Try.prog 82 #[tkV q] w fun e w' => e = .returned (.bool (keptB q)) ∧ w.grownBy w' none := by
  obtain ⟨kd, at_, t, sp⟩ := q
  have HG := hid (World.grownBy_alloc w (.cells #[.int .i64 kd, .int .i64 at_, .string t, .int .i64 sp] 52) none)
  have HB := hid (heap_alloc_new w (.cells #[.int .i64 kd, .int .i64 at_, .string t, .int .i64 sp] 52))
  unfold tkV
  go_enter Try.func82, Try.ntmps82
  go_wp2_with fail
  refine (f_funcs _).mono ?_
  rintro e w1 ⟨a1, c1, rfl, h1, g1⟩
  have K1 : Hid (KeptAt (kd, at_, t, sp) 0 w1 (.slice a1 funcsR.length c1)) := kept_of rfl h1 (by decide)
  have G1 : Hid ((w.alloc (.cells #[.int .i64 kd, .int .i64 at_, .string t, .int .i64 sp] 52)).grownBy w1 none) := g1
  generalize funcsR.length = n1 at K1 ⊢
  clear h1 g1
  go_wp2_with fail
  refine (f_aggs _).mono ?_
  rintro e w2 ⟨a2, c2, rfl, h2, g2⟩
  have K2 : Hid (KeptAt (kd, at_, t, sp) 1 w2 (.slice a2 aggsR.length c2)) := kept_of rfl h2 (by decide)
  have K1' : Hid (KeptAt (kd, at_, t, sp) 0 w2 (.slice a1 n1 c1)) := K1.out.grown g2
  have G2 := hid (G1.out.trans g2)
  generalize aggsR.length = n2 at K2 ⊢
  clear h2 g2 K1 G1
  go_wp2_with fail
  refine (f_ops _).mono ?_
  rintro e w3 ⟨a3, c3, rfl, h3, g3⟩
  have K3 : Hid (KeptAt (kd, at_, t, sp) 2 w3 (.slice a3 opsR.length c3)) := kept_of rfl h3 (by decide)
  have K1 : Hid (KeptAt (kd, at_, t, sp) 0 w3 (.slice a1 n1 c1)) := K1'.out.grown g3
  have K2' : Hid (KeptAt (kd, at_, t, sp) 1 w3 (.slice a2 n2 c2)) := K2.out.grown g3
  have G3 := hid (G2.out.trans g3)
  generalize opsR.length = n3 at K3 ⊢
  clear h3 g3 K1' K2 G2
  go_wp2_with fail
  refine (f_grps _).mono ?_
  rintro e w4 ⟨a4, c4, rfl, h4, g4⟩
  have K4 : Hid (KeptAt (kd, at_, t, sp) 3 w4 (.slice a4 grpsR.length c4)) := kept_of rfl h4 (by decide)
  have K1' : Hid (KeptAt (kd, at_, t, sp) 0 w4 (.slice a1 n1 c1)) := K1.out.grown g4
  have K2 : Hid (KeptAt (kd, at_, t, sp) 1 w4 (.slice a2 n2 c2)) := K2'.out.grown g4
  have K3' : Hid (KeptAt (kd, at_, t, sp) 2 w4 (.slice a3 n3 c3)) := K3.out.grown g4
  have G4 := hid (G3.out.trans g4)
  generalize grpsR.length = n4 at K4 ⊢
  clear h4 g4 K1 K2' K3 G3
  go_wp2_with fail
  go_loopw [10] (fun t10 wr => ∃ k : Nat, k ≤ 4 ∧ t10 = .int .i64 (k : Int) ∧ w4.grownBy wr none ∧ Hid (∀ j, j < k → numIn (keptRow j) (kd, at_, t, sp) = 0)) (fun t10 _ => 4 - (intOf t10).toNat)
  case atStart => exact ⟨0, by omega, rfl, World.grownBy.refl _ _, fun j hj => by omega⟩
  case round =>
    obtain ⟨k, hk, rfl, hg, HN⟩ := hrel
    have GR := hid hg
    obtain ⟨z0, z1, z2, z3⟩ := cell4 (((G4.out.trans hg).block w.heap.size (by simp) (by simp)).trans HB.out)
    have i1 := fun W => (idx92 (.slice a1 n1 c1) (.slice a2 n2 c2) (.slice a3 n3 c3) (.slice a4 n4 c4) W).1
    have i2 := fun W => (idx92 (.slice a1 n1 c1) (.slice a2 n2 c2) (.slice a3 n3 c3) (.slice a4 n4 c4) W).2.1
    have i3 := fun W => (idx92 (.slice a1 n1 c1) (.slice a2 n2 c2) (.slice a3 n3 c3) (.slice a4 n4 c4) W).2.2.1
    have i4 := fun W => (idx92 (.slice a1 n1 c1) (.slice a2 n2 c2) (.slice a3 n3 c3) (.slice a4 n4 c4) W).2.2.2
    clear hg
    by_cases hlt : k < 4
    · have hki : (k : Int) < 4 := by omega
      obtain ⟨vk, ek, HK⟩ : ∃ vk, Hid (∀ W, (Instr.index 92 (.agg #[(.slice a1 n1 c1), (.slice a2 n2 c2), (.slice a3 n3 c3), (.slice a4 n4 c4)]) (.int .i64 (k : Int))).run Try.prog W = .ok vk W) ∧ Hid (KeptAt (kd, at_, t, sp) k w4 vk) := by
        have hk4 : k = 0 ∨ k = 1 ∨ k = 2 ∨ k = 3 := by omega
        rcases hk4 with rfl | rfl | rfl | rfl
        · exact ⟨_, i1, K1'⟩
        · exact ⟨_, i2, K2⟩
        · exact ⟨_, i3, K3'⟩
        · exact ⟨_, i4, K4⟩
      have ek2 := ek.out
      have HC := hid (HK.out wr GR.out)
      unfold tkV at HC
      clear i1 i2 i3 i4 ek HK
      by_cases h0 : numIn (keptRow k) (kd, at_, t, sp) = 0
      · rw [h0] at HC
        have HN2 : Hid (∀ j, j < k + 1 → numIn (keptRow j) (kd, at_, t, sp) = 0) := fun j hj => by
          by_cases h : j = k
          · rw [h]; exact h0
          · exact HN.out j (by omega)
        clear h0
        go_wp2_with fail
        refine HC.out.mono ?_
        rintro e w5 ⟨rfl, g5⟩
        have G5 : Hid (w4.grownBy w5 none) := GR.out.trans g5
        clear g5
        go_wp2
        go_roundw
        case rel => exact ⟨k + 1, by omega, by go_num, G5.out, HN2⟩
        case measure => simp [intOf]; omega
      · have q0 : (numIn (keptRow k) (kd, at_, t, sp) != 0) = true := by simpa using h0
        have HT : Hid (keptB (kd, at_, t, sp) = true) := kept_some hlt h0
        generalize numIn (keptRow k) (kd, at_, t, sp) = n at HC q0
        clear h0
        go_wp2_with fail
        refine HC.out.mono ?_
        rintro e w5 ⟨rfl, g5⟩
        have G5 : Hid (w4.grownBy w5 none) := GR.out.trans g5
        clear g5
        go_wp2
        go_ret
        exact ⟨by rw [HT.out]; rfl, (HG.out.trans G4.out).trans G5.out⟩
    · have hki : ¬ (k : Int) < 4 := by omega
      have HT : Hid (keptB (kd, at_, t, sp) = (decide (t = boolS) || decide (t = offS))) := kept_none (fun j hj => HN.out j (by omega))
      have G5 : Hid (w.grownBy wr none) := (HG.out.trans G4.out).trans GR.out
      have s2 := hid (str_eq t offS)
      rw [tl_off] at s2
      clear i1 i2 i3 i4
      cases hb : decide (t = boolS) with
      | true =>
        have q1 : (t.toList == [98, 111, 111, 108]) = true := by rw [← tl_bool, str_eq]; exact hb
        have HT2 : Hid (keptB (kd, at_, t, sp) = true) := by show _ = _; rw [HT.out, hb]; rfl
        clear hb HT
        go_wp2
        go_ret
        exact ⟨by rw [HT2.out]; rfl, G5.out⟩
      | false =>
        have q1 : (t.toList == [98, 111, 111, 108]) = false := by rw [← tl_bool, str_eq]; exact hb
        have HT2 : Hid (keptB (kd, at_, t, sp) = decide (t = offS)) := by show _ = _; rw [HT.out, hb]; rfl
        clear hb HT
        go_wp2
        go_ret
        exact ⟨ret_bool (by rw [HT2.out]; exact s2.out), G5.out⟩
end Go.Proofs.Ytnimdngiejcljaa

/- Package parse: names in brackets. -/
namespace Go.Proofs.Ytnimdngiejcljaa
open Go.RowKit
set_option linter.unusedVariables false
set_option linter.unusedSimpArgs false
set_option maxRecDepth 20000

/-- A list that is being made, in a box; the reader in another one. -/
structure AccAt {α : Type} (E : Elem α) (e t : TypeId) (w0 : World) (box rbox b p : Nat) (K : Tk) (op : Int) (v : Value) (L : List Row) (xs : List α) (k : Nat) (w : World) : Prop where
  rd : RdAt w b p K k op v L
  fr : Fr (Me p) w0 w
  ex : ∃ sl : Sl, w.heap[box]? = some (.cells #[slV sl] t (0, 0)) ∧ SOwn E e w (box + 1) (slV sl) xs.length xs
  rb : w.heap[rbox]? = some (.cells #[.pointer (some ⟨p, 0, none⟩)] 46 (0, 0))
  lo : w0.heap.size ≤ rbox ∧ rbox < box
  old : ∃ k0 op0, RdAt w0 b p K k0 op0 v L
theorem one_cell {w : World} {g : Nat} {x : Value} {t : TypeId} (h : w.heap[g]? = some (.cells #[x] t (0, 0))) : w.cell? ⟨g, 0, none⟩ = some x := by rw [cell_of_row _ _ _ _ _ _ h]; rfl
theorem one_set {w : World} {g : Nat} {x : Value} {t : TypeId} (h : w.heap[g]? = some (.cells #[x] t (0, 0))) (y : Value) : (w.setCell ⟨g, 0, none⟩ y).heap[g]? = some (.cells #[y] t (0, 0)) := by
  simp [World.setCell, Array.getElem?_modify, h]
theorem AccAt.step {α : Type} {E : Elem α} {e t : TypeId} {w0 w w' : World} {box rbox b p : Nat} {K : Tk} {op : Int} {v : Value} {L : List Row} {xs : List α} {k k' : Nat} (h : AccAt E e t w0 box rbox b p K op v L xs k w) (hr : RdAt w' b p K k' op v L) (hf : Fr (Me p) w w') : AccAt E e t w0 box rbox b p K op v L xs k' w' := by
  obtain ⟨k0, op0, h0⟩ := h.old
  obtain ⟨sl, hb, ho⟩ := h.ex
  have hp0 := h0.lt
  have hlo := h.lo
  have hbl := (Array.getElem?_eq_some_iff.1 hb).1
  refine ⟨hr, h.fr.trans hf (fun _ _ e => e), ⟨sl, ?_, sown_same ho (fun j hj hl => hf.block j hl (fun e => ?_))⟩, ?_, h.lo, h.old⟩
  · rw [hf.block box hbl (fun e => by change box = p at e; omega)]; exact hb
  · change j = p at e
    have := (SOwn.block ho j hj).1
    omega
  · rw [hf.block rbox (by omega) (fun e => by change rbox = p at e; omega)]; exact h.rb
theorem acc_val {α : Type} {E : Elem α} {e t : TypeId} {w0 w : World} {box rbox b p : Nat} {K : Tk} {op : Int} {v : Value} {L : List Row} {xs : List α} {k : Nat} {x : Value} (h : AccAt E e t w0 box rbox b p K op v L xs k w) (hsl : w.heap[box]? = some (.cells #[x] t (0, 0))) : SOwn E e w (box + 1) x xs.length xs := by
  obtain ⟨sl', hb, ho⟩ := h.ex
  rw [hsl] at hb
  simp only [Option.some.injEq, Obj.cells.injEq, Array.mk.injEq, List.cons.injEq] at hb
  rw [hb.1.1]
  exact ho
/-- One more. -/
theorem AccAt.put {α : Type} {E : Elem α} {e t : TypeId} {w0 w w2 : World} {box rbox b p : Nat} {K : Tk} {op : Int} {v : Value} {L : List Row} {xs ys : List α} {k k' : Nat} {sl sl2 : Sl} (h : AccAt E e t w0 box rbox b p K op v L xs k w) (hsl : w.heap[box]? = some (.cells #[slV sl] t (0, 0))) (hr : RdAt w2 b p K k' op v L) (hf : Fr (Wr p (slV sl)) w w2) (ho2 : SOwn E e w2 (box + 1) (slV sl2) ys.length ys) :
    w2.cell? ⟨box, 0, none⟩ = some (slV sl) ∧ w2.frozen? ⟨box, 0, none⟩ = false ∧ AccAt E e t w0 box rbox b p K op v L ys k' (w2.setCell ⟨box, 0, none⟩ (slV sl2)) := by
  have ho := acc_val h hsl
  obtain ⟨k0, op0, h0⟩ := h.old
  have hlo := h.lo
  have hbl := (Array.getElem?_eq_some_iff.1 hsl).1
  have hp0 := h0.lt
  have hown : ∀ j, (slV sl).ownBlock = some j → box + 1 ≤ j := fun j hj => (SOwn.block ho j hj).1
  have e3 : w2.heap[box]? = some (.cells #[slV sl] t (0, 0)) := by
    rw [hf.block box hbl (fun e => by rcases e with e | e; omega; have := hown _ e; omega)]; exact hsl
  have hF : Fr (fun j => w0.heap.size ≤ j) w2 (w2.setCell ⟨box, 0, none⟩ (slV sl2)) := (fr_set box 0 w2 _).mono (fun j _ e => by change j = box at e; show w0.heap.size ≤ j; omega)
  refine ⟨one_cell e3, free_row e3 0, h0.past hr hF (fun j e => e), (h.fr.trans hf (fun j hj e => ?_)).trans hF (fun j hj e => by change w0.heap.size ≤ j at e; omega), ⟨sl2, one_set e3 _, sown_same ho2 (fun j hj _ => set_other (fun e => by have := (SOwn.block ho2 j hj).1; omega))⟩, ?_, h.lo, h.old⟩
  · rcases e with e | e
    · exact e
    · have := hown j e; omega
  · rw [set_other (by omega), hf.block rbox (by omega) (fun e => by rcases e with e | e; omega; have := hown _ e; omega)]
    exact h.rb
theorem acc_past {α : Type} {E : Elem α} {e t : TypeId} {w0 w w1 w2 : World} {box rbox b p : Nat} {K : Tk} {op : Int} {v : Value} {L : List Row} {xs : List α} {k k' : Nat} {sl : Sl} (h : AccAt E e t w0 box rbox b p K op v L xs k w) (hr : RdAt w1 b p K k' op v L) (hf : Fr (Me p) w w1) (hsl : w.heap[box]? = some (.cells #[slV sl] t (0, 0))) (hg : w1.grownBy w2 (slV sl).ownBlock) : RdAt w2 b p K k' op v L ∧ Fr (Wr p (slV sl)) w w2 := by
  have ho := acc_val h hsl
  obtain ⟨k0, op0, h0⟩ := h.old
  have hlo := h.lo
  have hown : ∀ j, (slV sl).ownBlock = some j → box + 1 ≤ j := fun j hj => (SOwn.block ho j hj).1
  have hF : Fr (fun j => (slV sl).ownBlock = some j) w1 w2 := Fr.row hg (fun j hj => hj)
  exact ⟨h0.past hr hF (fun j e => by have := hown j e; omega), (hf.mono (fun j _ e => .inl e)).trans hF (fun j _ e => .inr e)⟩
theorem AccAt.put1 {α : Type} {E : Elem α} {e t : TypeId} {w0 w w1 w2 : World} {box rbox b p : Nat} {K : Tk} {op : Int} {v : Value} {L : List Row} {xs ys : List α} {k k' : Nat} {sl sl2 : Sl} (h : AccAt E e t w0 box rbox b p K op v L xs k w) (hr : RdAt w1 b p K k' op v L) (hf : Fr (Me p) w w1) (hsl : w.heap[box]? = some (.cells #[slV sl] t (0, 0))) (hg : w1.grownBy w2 (slV sl).ownBlock) (ho2 : SOwn E e w2 (box + 1) (slV sl2) ys.length ys) :
    w2.cell? ⟨box, 0, none⟩ = some (slV sl) ∧ w2.frozen? ⟨box, 0, none⟩ = false ∧ AccAt E e t w0 box rbox b p K op v L ys k' (w2.setCell ⟨box, 0, none⟩ (slV sl2)) :=
  h.put hsl (acc_past h hr hf hsl hg).1 (acc_past h hr hf hsl hg).2 ho2
theorem acc_rb {α : Type} {E : Elem α} {e t : TypeId} {w0 w w1 w2 : World} {box rbox b p : Nat} {K : Tk} {op : Int} {v : Value} {L : List Row} {xs ys : List α} {k k' : Nat} {sl sl2 : Sl} (h : AccAt E e t w0 box rbox b p K op v L xs k w) (hr : RdAt w1 b p K k' op v L) (hf : Fr (Me p) w w1) (hsl : w.heap[box]? = some (.cells #[slV sl] t (0, 0))) (hg : w1.grownBy w2 (slV sl).ownBlock) (ho2 : SOwn E e w2 (box + 1) (slV sl2) ys.length ys) :
    w2.cell? ⟨rbox, 0, none⟩ = some (.pointer (some ⟨p, 0, none⟩)) := by
  have h1 := (h.put1 hr hf hsl hg ho2).2.2.rb
  have hlo := h.lo
  rw [set_other (by omega)] at h1
  exact one_cell h1
theorem acc_box {α : Type} {E : Elem α} {e t : TypeId} {w0 w w1 : World} {box rbox b p : Nat} {K : Tk} {op : Int} {v : Value} {L : List Row} {xs : List α} {k : Nat} {x : Value} (h : AccAt E e t w0 box rbox b p K op v L xs k w) (hf : Fr (Me p) w w1) (hsl : w.heap[box]? = some (.cells #[x] t (0, 0))) : w1.cell? ⟨box, 0, none⟩ = some x := by
  obtain ⟨k0, op0, h0⟩ := h.old
  have hp0 := h0.lt
  have hlo := h.lo
  refine one_cell ((hf.block box (Array.getElem?_eq_some_iff.1 hsl).1 (fun e => by change box = p at e; omega)).trans hsl)
theorem acc_own {α : Type} {E : Elem α} {e t : TypeId} {w0 w w1 : World} {box rbox b p : Nat} {K : Tk} {op : Int} {v : Value} {L : List Row} {xs : List α} {k : Nat} {x : Value} (h : AccAt E e t w0 box rbox b p K op v L xs k w) (hf : Fr (Me p) w w1) (hsl : w.heap[box]? = some (.cells #[x] t (0, 0))) (ho : SOwn E e w (box + 1) x xs.length xs) : SOwn E e w1 (box + 1) x xs.length xs := by
  obtain ⟨k0, op0, h0⟩ := h.old
  have hp0 := h0.lt
  have hlo := h.lo
  exact sown_same ho (fun j hj hl => hf.block j hl (fun e => by change j = p at e; have := (SOwn.block ho j hj).1; omega))
theorem acc_size {α : Type} {E : Elem α} {e t : TypeId} {w0 w : World} {box rbox b p : Nat} {K : Tk} {op : Int} {v : Value} {L : List Row} {xs : List α} {k : Nat} {o : Obj} (h : AccAt E e t w0 box rbox b p K op v L xs k w) : box + 1 ≤ (w.alloc o).heap.size := by
  obtain ⟨sl, hb, _⟩ := h.ex
  have := (Array.getElem?_eq_some_iff.1 hb).1
  rw [size_alloc]; omega
theorem str_lit1 (w : World) (s : ByteArray) : SRd strE (w.alloc (.cells #[.string s] 9)) (some ⟨w.heap.size, 0, none⟩) [s] := row_lit w [s]
theorem nstep_ok {ns : List ByteArray} {ts r : List Tok} {s : ByteArray} (h : lname ts = .ok s r) : nstep ns ts = .ok (ns ++ [s]) r := by unfold nstep; rw [h, bind_ok]
theorem nstep_bad {ns : List ByteArray} {ts : List Tok} {q c : Int} (h : lname ts = .bad q c) : nstep ns ts = .bad q c := by unfold nstep; rw [h, bind_bad]
set_option maxHeartbeats 4000000 in
theorem f_nstep {w0 w : World} {box rbox b p : Nat} {K : Tk} {op : Int} {v : Value} {L : List Row} {ns : List ByteArray} {k : Nat} {ts : List Tok} (h : AccAt strE 9 32 w0 box rbox b p K op v L ns k w) (ha : Ahead K k ts) (hn : ns.length ≤ 1000000) :
    Calls Try.prog 60 #[.pointer (some ⟨box, 0, none⟩), .pointer (some ⟨rbox, 0, none⟩)] w fun e w' => LOut (fun ns k w' => AccAt strE 9 32 w0 box rbox b p K op v L ns k w') K (Me p) w0 k (nstep ns ts) e w' := by
  have H := hid h
  have HA := hid ha
  obtain ⟨sl, hb, ho⟩ := h.ex
  have gd : w.grownBy w.drew none := gb_drew (World.grownBy.refl w none)
  have HL := hid (f_lname (h.rd.grown gd) ha)
  have r0 := one_cell h.rb
  have b0 := one_cell hb
  have r1 : w.drew.cell? ⟨rbox, 0, none⟩ = _ := r0
  have b1 : w.drew.cell? ⟨box, 0, none⟩ = _ := b0
  have HB := hid hb
  have HO := hid ho
  cases hs : lname ts with
  | out => unfold lname at hs; split at hs <;> cases hs
  | ok s r =>
    rw [hs] at HL
    rw [nstep_ok hs]
    clear hs h ha hb ho
    obtain ⟨a0, n0, c0⟩ := sl
    unfold slV at *
    go_enter Try.func60, Try.ntmps60
    go_wp2_with fail
    refine wp_region_held_drew (S := fun W => W.cell? ⟨rbox, 0, none⟩ = some (.pointer (some ⟨p, 0, none⟩))) (by kernel_rfl) r1 (fun hHeld => ?_)
    refine wpAnyH_take (i := 1) (v := .pointer (some ⟨p, 0, none⟩)) rfl (by kernel_rfl) (by kernel_rfl) (by kernel_rfl) (fun _ _ _ h => h) (Or.inl ⟨by rfl, fun w hSw => ?_⟩) (by assumption) ?_
    · go_simp
    (try simp only [Act.put]); (try simp only [List.setIfInBounds_toArray]); (try simp only [List.set_cons_succ]); (try simp only [List.set_cons_zero])
    refine wpAnyH_ready (rs := [0, 2]) (by kernel_rfl) (by simp) (AllReadyH.cons (i := 0) rfl (fun K9 hK => ?_) (AllReadyH.cons (i := 2) rfl (fun K9 hK => ?_) AllReadyH.nil))
    · go_simp
      refine hK.out _ _ r1 (fun hHeld => ?_)
      clear hK K9 hHeld
      (try simp only [Act.put]); (try simp only [List.setIfInBounds_toArray]); (try simp only [List.set_cons_succ]); (try simp only [List.set_cons_zero])
      refine wpAnyH_ready (rs := [2]) (by kernel_rfl) (by simp) (AllReadyH.cons (i := 2) rfl (fun K9 hK => ?_) AllReadyH.nil)
      go_simp
      refine HL.out.mono ?_
      rintro e w1 ⟨rfl, k1, h1, ha1, hk1, f1⟩
      have F1 : Hid (Fr (Me p) w w1) := ⟨f1.os, f1.tape, f1.output, f1.size, f1.block⟩
      have HA1 := hid ha1
      have HK1 := hid hk1
      have HR1 := hid h1
      have H1 := hid (H.out.step h1 F1.out)
      have b2 := acc_box H.out F1.out HB.out
      have r2 := one_cell H1.out.rb
      have HO1 := hid (acc_own H.out F1.out HB.out HO.out)
      refine hK.out _ _ r2 (fun hHeld => ?_)
      clear hK K9 h1 ha1 hk1 f1 hHeld
      (try simp only [Act.put]); (try simp only [List.setIfInBounds_toArray]); (try simp only [List.set_cons_succ]); (try simp only [List.set_cons_zero])
      refine wpAnyH_ready (rs := [3]) (by kernel_rfl) (by simp) (AllReadyH.cons (i := 3) rfl (fun K9 hK => ?_) AllReadyH.nil)
      go_simp
      have g2 := World.grownBy_alloc w1 (.cells #[.string s] 9) none
      have r3 := g2.cell r2 (by simp)
      have b3 := g2.cell b2 (by simp)
      have HRD := hid (str_lit1 w1 s)
      have HO2 := hid (SOwn.kept HO1.out g2 (by cases a0 <;> simp [Value.ownBlock]))
      have HR2 := hid (HR1.out.grown g2)
      have F2 : Hid (Fr (Me p) w (w1.alloc (.cells #[.string s] 9))) := F1.out.trans (.of (S := Me p) g2) (fun _ _ e => e)
      have HSZ := hid (acc_size (o := .cells #[.string s] 9) H1.out)
      refine hK.out _ _ r3 (fun hHeld => ?_)
      clear hK K9 g2 hHeld
      (try simp only [Act.put]); (try simp only [List.setIfInBounds_toArray]); (try simp only [List.set_cons_succ]); (try simp only [List.set_cons_zero])
      refine wpAnyH_ready (rs := [4]) (by kernel_rfl) (by simp) (AllReadyH.cons (i := 4) rfl (fun K9 hK => ?_) AllReadyH.nil)
      refine step_append_e strT rfl (.tmp 2) (.tmp 5) rfl (box + 1) (.slice a0 n0 c0) ns.length ns (by simp [Act.eval]) HO2.out ⟨w1.heap.size, 0, none⟩ [s] 1 1 (by simp [Act.eval]) rfl HRD.out (by omega) (by omega) (by unfold maxLen; omega) HSZ.out ?_
      intro g3 c3 w3 ho3 hg3 hgg
      have HP := hid (AccAt.put1 (sl := (a0, n0, c0)) (ys := ns ++ [s]) (sl2 := (some ⟨g3, 0, none⟩, ns.length + 1, c3)) H.out HR2.out F2.out HB.out hg3 (by rw [List.length_append]; exact ho3))
      have s3 := HP.out.1
      have z3 := HP.out.2.1
      have r4 : w3.cell? ⟨rbox, 0, none⟩ = some (.pointer (some ⟨p, 0, none⟩)) := acc_rb (sl := (a0, n0, c0)) (sl2 := (some ⟨g3, 0, none⟩, ns.length + 1, c3)) (ys := ns ++ [s]) H.out HR2.out F2.out HB.out hg3 (by rw [List.length_append]; exact ho3)
      refine hK.out _ _ r4 (fun hHeld => ?_)
      clear hK K9 hHeld ho3 hg3 hgg
      unfold slV at HP
      (try simp only [Act.put]); (try simp only [List.setIfInBounds_toArray]); (try simp only [List.set_cons_succ]); (try simp only [List.set_cons_zero])
      refine wpAnyH_ready (rs := [5]) (by kernel_rfl) (by simp) (AllReadyH.cons (i := 5) rfl (fun K9 hK => ?_) AllReadyH.nil)
      go_simp
      have r5 : (w3.setCell ⟨box, 0, none⟩ (.slice (some ⟨g3, 0, none⟩) (ns.length + 1) c3)).cell? ⟨rbox, 0, none⟩ = some (.pointer (some ⟨p, 0, none⟩)) := one_cell HP.out.2.2.rb
      refine hK.out _ _ r5 (fun hHeld => ?_)
      clear hK K9 hHeld
      (try simp only [Act.put]); (try simp only [List.setIfInBounds_toArray]); (try simp only [List.set_cons_succ]); (try simp only [List.set_cons_zero])
      refine wpAnyH_done (by kernel_rfl) ?_ _
      go_wp2
      go_end0
      exact ⟨rfl, k1, HP.out.2.2, HA1.out, HK1.out⟩
    · go_simp
      refine HL.out.mono ?_
      rintro e w1 ⟨rfl, k1, h1, ha1, hk1, f1⟩
      have F1 : Hid (Fr (Me p) w w1) := ⟨f1.os, f1.tape, f1.output, f1.size, f1.block⟩
      have HA1 := hid ha1
      have HK1 := hid hk1
      have HR1 := hid h1
      have H1 := hid (H.out.step h1 F1.out)
      have b2 := acc_box H.out F1.out HB.out
      have r2 := one_cell H1.out.rb
      have HO1 := hid (acc_own H.out F1.out HB.out HO.out)
      refine hK.out _ _ r2 (fun hHeld => ?_)
      clear hK K9 h1 ha1 hk1 f1 hHeld
      (try simp only [Act.put]); (try simp only [List.setIfInBounds_toArray]); (try simp only [List.set_cons_succ]); (try simp only [List.set_cons_zero])
      refine wpAnyH_ready (rs := [0, 3]) (by kernel_rfl) (by simp) (AllReadyH.cons (i := 0) rfl (fun K9 hK => ?_) (AllReadyH.cons (i := 3) rfl (fun K9 hK => ?_) AllReadyH.nil))
      · go_simp
        refine hK.out _ _ r2 (fun hHeld => ?_)
        clear hK K9 hHeld
        (try simp only [Act.put]); (try simp only [List.setIfInBounds_toArray]); (try simp only [List.set_cons_succ]); (try simp only [List.set_cons_zero])
        refine wpAnyH_ready (rs := [3]) (by kernel_rfl) (by simp) (AllReadyH.cons (i := 3) rfl (fun K9 hK => ?_) AllReadyH.nil)
        go_simp
        have g2 := World.grownBy_alloc w1 (.cells #[.string s] 9) none
        have r3 := g2.cell r2 (by simp)
        have b3 := g2.cell b2 (by simp)
        have HRD := hid (str_lit1 w1 s)
        have HO2 := hid (SOwn.kept HO1.out g2 (by cases a0 <;> simp [Value.ownBlock]))
        have HR2 := hid (HR1.out.grown g2)
        have F2 : Hid (Fr (Me p) w (w1.alloc (.cells #[.string s] 9))) := F1.out.trans (.of (S := Me p) g2) (fun _ _ e => e)
        have HSZ := hid (acc_size (o := .cells #[.string s] 9) H1.out)
        refine hK.out _ _ r3 (fun hHeld => ?_)
        clear hK K9 g2 hHeld
        (try simp only [Act.put]); (try simp only [List.setIfInBounds_toArray]); (try simp only [List.set_cons_succ]); (try simp only [List.set_cons_zero])
        refine wpAnyH_ready (rs := [4]) (by kernel_rfl) (by simp) (AllReadyH.cons (i := 4) rfl (fun K9 hK => ?_) AllReadyH.nil)
        refine step_append_e strT rfl (.tmp 2) (.tmp 5) rfl (box + 1) (.slice a0 n0 c0) ns.length ns (by simp [Act.eval]) HO2.out ⟨w1.heap.size, 0, none⟩ [s] 1 1 (by simp [Act.eval]) rfl HRD.out (by omega) (by omega) (by unfold maxLen; omega) HSZ.out ?_
        intro g3 c3 w3 ho3 hg3 hgg
        have HP := hid (AccAt.put1 (sl := (a0, n0, c0)) (ys := ns ++ [s]) (sl2 := (some ⟨g3, 0, none⟩, ns.length + 1, c3)) H.out HR2.out F2.out HB.out hg3 (by rw [List.length_append]; exact ho3))
        have s3 := HP.out.1
        have z3 := HP.out.2.1
        have r4 : w3.cell? ⟨rbox, 0, none⟩ = some (.pointer (some ⟨p, 0, none⟩)) := acc_rb (sl := (a0, n0, c0)) (sl2 := (some ⟨g3, 0, none⟩, ns.length + 1, c3)) (ys := ns ++ [s]) H.out HR2.out F2.out HB.out hg3 (by rw [List.length_append]; exact ho3)
        refine hK.out _ _ r4 (fun hHeld => ?_)
        clear hK K9 hHeld ho3 hg3 hgg
        unfold slV at HP
        (try simp only [Act.put]); (try simp only [List.setIfInBounds_toArray]); (try simp only [List.set_cons_succ]); (try simp only [List.set_cons_zero])
        refine wpAnyH_ready (rs := [5]) (by kernel_rfl) (by simp) (AllReadyH.cons (i := 5) rfl (fun K9 hK => ?_) AllReadyH.nil)
        go_simp
        have r5 : (w3.setCell ⟨box, 0, none⟩ (.slice (some ⟨g3, 0, none⟩) (ns.length + 1) c3)).cell? ⟨rbox, 0, none⟩ = some (.pointer (some ⟨p, 0, none⟩)) := one_cell HP.out.2.2.rb
        refine hK.out _ _ r5 (fun hHeld => ?_)
        clear hK K9 hHeld
        (try simp only [Act.put]); (try simp only [List.setIfInBounds_toArray]); (try simp only [List.set_cons_succ]); (try simp only [List.set_cons_zero])
        refine wpAnyH_done (by kernel_rfl) ?_ _
        go_wp2
        go_end0
        exact ⟨rfl, k1, HP.out.2.2, HA1.out, HK1.out⟩
      · go_simp
        have g2 := World.grownBy_alloc w1 (.cells #[.string s] 9) none
        have r3 := g2.cell r2 (by simp)
        have b3 := g2.cell b2 (by simp)
        have HRD := hid (str_lit1 w1 s)
        have HO2 := hid (SOwn.kept HO1.out g2 (by cases a0 <;> simp [Value.ownBlock]))
        have HR2 := hid (HR1.out.grown g2)
        have F2 : Hid (Fr (Me p) w (w1.alloc (.cells #[.string s] 9))) := F1.out.trans (.of (S := Me p) g2) (fun _ _ e => e)
        have HSZ := hid (acc_size (o := .cells #[.string s] 9) H1.out)
        refine hK.out _ _ r3 (fun hHeld => ?_)
        clear hK K9 g2 hHeld
        (try simp only [Act.put]); (try simp only [List.setIfInBounds_toArray]); (try simp only [List.set_cons_succ]); (try simp only [List.set_cons_zero])
        refine wpAnyH_ready (rs := [0]) (by kernel_rfl) (by simp) (AllReadyH.cons (i := 0) rfl (fun K9 hK => ?_) AllReadyH.nil)
        go_simp
        refine hK.out _ _ r3 (fun hHeld => ?_)
        clear hK K9 hHeld
        (try simp only [Act.put]); (try simp only [List.setIfInBounds_toArray]); (try simp only [List.set_cons_succ]); (try simp only [List.set_cons_zero])
        refine wpAnyH_ready (rs := [4]) (by kernel_rfl) (by simp) (AllReadyH.cons (i := 4) rfl (fun K9 hK => ?_) AllReadyH.nil)
        refine step_append_e strT rfl (.tmp 2) (.tmp 5) rfl (box + 1) (.slice a0 n0 c0) ns.length ns (by simp [Act.eval]) HO2.out ⟨w1.heap.size, 0, none⟩ [s] 1 1 (by simp [Act.eval]) rfl HRD.out (by omega) (by omega) (by unfold maxLen; omega) HSZ.out ?_
        intro g3 c3 w3 ho3 hg3 hgg
        have HP := hid (AccAt.put1 (sl := (a0, n0, c0)) (ys := ns ++ [s]) (sl2 := (some ⟨g3, 0, none⟩, ns.length + 1, c3)) H.out HR2.out F2.out HB.out hg3 (by rw [List.length_append]; exact ho3))
        have s3 := HP.out.1
        have z3 := HP.out.2.1
        have r4 : w3.cell? ⟨rbox, 0, none⟩ = some (.pointer (some ⟨p, 0, none⟩)) := acc_rb (sl := (a0, n0, c0)) (sl2 := (some ⟨g3, 0, none⟩, ns.length + 1, c3)) (ys := ns ++ [s]) H.out HR2.out F2.out HB.out hg3 (by rw [List.length_append]; exact ho3)
        refine hK.out _ _ r4 (fun hHeld => ?_)
        clear hK K9 hHeld ho3 hg3 hgg
        unfold slV at HP
        (try simp only [Act.put]); (try simp only [List.setIfInBounds_toArray]); (try simp only [List.set_cons_succ]); (try simp only [List.set_cons_zero])
        refine wpAnyH_ready (rs := [5]) (by kernel_rfl) (by simp) (AllReadyH.cons (i := 5) rfl (fun K9 hK => ?_) AllReadyH.nil)
        go_simp
        have r5 : (w3.setCell ⟨box, 0, none⟩ (.slice (some ⟨g3, 0, none⟩) (ns.length + 1) c3)).cell? ⟨rbox, 0, none⟩ = some (.pointer (some ⟨p, 0, none⟩)) := one_cell HP.out.2.2.rb
        refine hK.out _ _ r5 (fun hHeld => ?_)
        clear hK K9 hHeld
        (try simp only [Act.put]); (try simp only [List.setIfInBounds_toArray]); (try simp only [List.set_cons_succ]); (try simp only [List.set_cons_zero])
        refine wpAnyH_done (by kernel_rfl) ?_ _
        go_wp2
        go_end0
        exact ⟨rfl, k1, HP.out.2.2, HA1.out, HK1.out⟩
  | bad q c =>
    rw [hs] at HL
    rw [nstep_bad hs]
    clear hs h ha hb ho
    obtain ⟨a0, n0, c0⟩ := sl
    unfold slV at *
    go_enter Try.func60, Try.ntmps60
    go_wp2_with fail
    refine wp_region_held_drew (S := fun W => W.cell? ⟨rbox, 0, none⟩ = some (.pointer (some ⟨p, 0, none⟩)) ∧ W.cell? ⟨box, 0, none⟩ = some (.slice a0 n0 c0)) (by kernel_rfl) ⟨r1, b1⟩ (fun hHeld => ?_)
    refine wpAnyH_take (i := 0) (v := .slice a0 n0 c0) rfl (by kernel_rfl) (by kernel_rfl) (by kernel_rfl) (fun _ _ _ h => h) (Or.inl ⟨by rfl, fun w hSw => ?_⟩) (by assumption) ?_
    · obtain ⟨x1, x2⟩ := hSw; go_simp
    (try simp only [Act.put]); (try simp only [List.setIfInBounds_toArray]); (try simp only [List.set_cons_succ]); (try simp only [List.set_cons_zero])
    refine wpAnyH_take (i := 1) (v := .pointer (some ⟨p, 0, none⟩)) rfl (by kernel_rfl) (by kernel_rfl) (by kernel_rfl) (fun _ _ _ h => h) (Or.inl ⟨by rfl, fun w hSw => ?_⟩) (by assumption) ?_
    · obtain ⟨x1, x2⟩ := hSw; go_simp
    (try simp only [Act.put]); (try simp only [List.setIfInBounds_toArray]); (try simp only [List.set_cons_succ]); (try simp only [List.set_cons_zero])
    refine wpAnyH_ready (rs := [2]) (by kernel_rfl) (by simp) (AllReadyH.cons (i := 2) rfl (fun K9 hK => ?_) AllReadyH.nil)
    go_simp
    refine HL.out.mono ?_
    rintro e w1 ⟨rfl, f1⟩
    exact ⟨rfl, rfl, H.out.fr.trans ⟨f1.os, f1.tape, f1.output, f1.size, f1.block⟩ (fun _ _ e => e)⟩
end Go.Proofs.Ytnimdngiejcljaa

