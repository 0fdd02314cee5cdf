/- Package parse: tell. -/
import Derived.Test.YtnimdngiejcljaaPg
namespace Go.Proofs.Ytnimdngiejcljaa
open Go.RowKit
set_option linter.unusedVariables false
set_option linter.unusedSimpArgs false
set_option maxRecDepth 20000

/-- A reader went on: only itself and its nodes' row were written; the row is the old one or a new one. -/
structure Adv (p : Nat) (w : World) (v : Value) (w' : World) (v' : Value) : Prop where
  fr : Fr (Wr p v) w w'
  new : ∀ j, v'.ownBlock = some j → v.ownBlock = some j ∨ w.heap.size ≤ j
theorem Adv.refl (p : Nat) (w : World) (v : Value) : Adv p w v w v := ⟨.refl _ _, fun j h => .inl h⟩
theorem Adv.trans {p : Nat} {w w1 w2 : World} {v v1 v2 : Value} (h : Adv p w v w1 v1) (h' : Adv p w1 v1 w2 v2) : Adv p w v w2 v2 := by
  refine ⟨h.fr.trans h'.fr (fun k hk hs => ?_), fun j hj => ?_⟩
  · rcases hs with e | e
    · exact .inl e
    · rcases h.new k e with e2 | e2
      · exact .inr e2
      · omega
  · rcases h'.new j hj with e | e
    · exact h.new j e
    · exact .inr (Nat.le_trans h.fr.size e)
theorem Adv.me {p : Nat} {w w' : World} {v : Value} (h : Fr (Me p) w w') : Adv p w v w' v := ⟨h.mono (fun k _ e => .inl e), fun j h => .inl h⟩
theorem Adv.gb {p : Nat} {w w' : World} {v : Value} (h : w.grownBy w' none) : Adv p w v w' v := .me (.of h)
/-- Rows that were made before stay through what the reader writes. -/
theorem Adv.keep {α : Type} {E : Elem α} {e : TypeId} {p : Nat} {w w' : World} {v v' : Value} {b n : Nat} {u : Value} {l : List α} (h : Adv p w v w' v') (ho : SOwn E e w b u n l) (hp : p < b) (hne : ∀ j, u.ownBlock = some j → v.ownBlock ≠ some j) : SOwn E e w' b u n l ∧ ∀ j, u.ownBlock = some j → v'.ownBlock ≠ some j := by
  refine ⟨sown_same ho (fun k hk h1 => h.fr.block k h1 (fun hs => ?_)), fun j hj e2 => ?_⟩
  · have := (SOwn.block ho k hk).1
    rcases hs with e | e
    · omega
    · exact hne k hk e
  · rcases h.new j e2 with e3 | e3
    · exact hne j hj e3
    · have := (SOwn.block ho j hj).2
      omega
theorem step_append_e {α : Type} {E : Elem α} {P : Program} {t e : TypeId} {bytes : Nat} (T : ElemOf E P t e bytes) {w : World} {ops : Array Oper} {o : Oper} {a : Act} {K : Act → World → Prop} {Q : Exit → Act → World → Prop} {EE : Prop} (hgd : o.guard = none) (s x : Operand)
    (ho : o.op = .call { callee := .builtin .append, args := #[s, x], argTypes := #[t, t] }) (base : Nat) (v : Value) (n : Nat) (xs : List α) (hs : a.eval s = v) (hown : SOwn E e w base v n xs)
    (ad : Addr) (zs : List α) (m cap : Nat) (hx : a.eval x = .slice (some ad) m cap) (hm : zs.length = m) (hr : SRd E w (some ad) zs) (hm0 : 0 < m) (hlen : (n + m) * bytes ≤ 140737488355328) (hmax : n + m ≤ maxLen) (hb : base ≤ w.heap.size)
    (h : ∀ g c w', SOwn E e w' base (.slice (some ⟨g, 0, none⟩) (n + m) c) (n + m) (xs ++ zs) → w.grownBy w' v.ownBlock → (v.ownBlock = some g ∨ g = w.heap.size) → K (a.put o.dst (.slice (some ⟨g, 0, none⟩) (n + m) c)) w') :
    if Region.wanted o (yielded ops a.tmps) = true then Oper.wp P o a w K Q else EE := by
  obtain ⟨i0, z, hi, hz0, hz1, hz2, hz3⟩ := T.info
  subst hm
  refine step_append_lies w hgd s x t ho base e i0 z E.size bytes T.under hi hz0 hz1 hz2 hz3 E.pos _ n (E.flat xs) hs hown ad zs.length cap (E.flat zs) hx (E.flat_len zs) hr.news (E.flat_one zs) hm0 hmax hlen hb w.heap.size rfl ?_
  intro g c w' hown' hg hgg _
  rw [← E.flat_app] at hown'
  exact h g c w' hown' hg hgg
/-- A row of elements, as a literal. -/
theorem lit_rd {α : Type} (E : Elem α) (w : World) (t : TypeId) (l : List α) : SRd E (w.alloc (.cells (E.flat l).toArray t)) (some ⟨w.heap.size, 0, none⟩) l := by
  refine .inr ⟨_, 0, rfl, fun j v hj => ?_⟩
  rw [Nat.zero_add, cell_of_row _ _ _ _ _ _ (heap_alloc_new w _)]
  simpa using hj
theorem tell_end {w W2 w3 : World} {b p : Nat} {K : Tk} {k : Nat} {op : Int} {v : Value} {L : List Row} {q : Row} {g3 c3 : Nat} (h : RdAt w b p K k op v L) (hW : w.grownBy W2 none) (hm : SOwn matE 44 w b (slV q.2.1) q.1.mat.length q.1.mat) (hn : SOwn strE 9 w b (slV q.2.2) q.1.names.length q.1.names) (am : ∀ j, (slV q.2.1).ownBlock = some j → v.ownBlock ≠ some j) (an : ∀ j, (slV q.2.2).ownBlock = some j → v.ownBlock ≠ some j)
    (ho : SOwn ndE 34 w3 b (.slice (some ⟨g3, 0, none⟩) (L.length + 1) c3) (L.length + 1) (L ++ [q])) (hg : W2.grownBy w3 v.ownBlock) (hgg : v.ownBlock = some g3 ∨ g3 = W2.heap.size) :
    w3.cell? ⟨p, 3, none⟩ = some v ∧ w3.frozen? ⟨p, 3, none⟩ = false ∧ RdAt (w3.setCell ⟨p, 3, none⟩ (.slice (some ⟨g3, 0, none⟩) (L.length + 1) c3)) b p K k op (.slice (some ⟨g3, 0, none⟩) (L.length + 1) c3) (L ++ [q]) ∧ Adv p w v (w3.setCell ⟨p, 3, none⟩ (.slice (some ⟨g3, 0, none⟩) (L.length + 1) c3)) (.slice (some ⟨g3, 0, none⟩) (L.length + 1) c3) := by
  have hvb : ∀ j, v.ownBlock = some j → b ≤ j ∧ j < w.heap.size := SOwn.block h.nds.own
  have hp := h.hp
  have hb := h.hb
  have hs := hW.size
  have hg3 : b ≤ g3 := by
    rcases hgg with e | e
    · exact (hvb _ e).1
    · omega
  have same : ∀ j, j < w.heap.size → v.ownBlock ≠ some j → w3.heap[j]? = w.heap[j]? := fun j hj hne => by
    rw [hg.block j (by omega) (fun e => hne e.symm), hW.block j hj (by simp)]
  have hpv : v.ownBlock ≠ some p := fun e => by have := (hvb p e).1; omega
  have row3 := (same p h.lt hpv).trans h.row
  have hfr : Fr (Wr p v) w (w3.setCell ⟨p, 3, none⟩ (.slice (some ⟨g3, 0, none⟩) (L.length + 1) c3)) :=
    ((Fr.of hW).trans (Fr.row (S := Wr p v) hg (fun k hk => .inr hk)) (fun _ _ e => e)).trans (fr_set _ _ _ _) (fun _ _ e => .inl e)
  have same2 : ∀ j, b ≤ j → j < w.heap.size → v.ownBlock ≠ some j → (w3.setCell ⟨p, 3, none⟩ (.slice (some ⟨g3, 0, none⟩) (L.length + 1) c3)).heap[j]? = w.heap[j]? := fun j hbj hj hne => by
    rw [set_other (by omega), same j hj hne]
  have hown : SOwn ndE 34 (w3.setCell ⟨p, 3, none⟩ (.slice (some ⟨g3, 0, none⟩) (L.length + 1) c3)) b (.slice (some ⟨g3, 0, none⟩) (L.length + 1) c3) (L ++ [q]).length (L ++ [q]) := by
    rw [List.length_append]
    refine sown_same ho (fun k hk _ => ?_)
    cases hk
    exact set_other (by show g3 ≠ p; omega)
  refine ⟨(cell4 row3).2.2.2, free_row row3 3, ⟨hp, h.hg, h.ne, Nat.le_trans hb hfr.size, (row_set row3 _).2.2, srd_same h.tok ?_, hown, ?_, ?_, ?_, ?_⟩, hfr, ?_⟩
  · rw [set_other h.ne]
    exact same _ (Nat.lt_of_lt_of_le h.hg hb) (fun e => by have := (hvb _ e).1; have := h.hg; omega)
  · intro r hr
    rcases List.mem_append.1 hr with h1 | h1
    · exact sown_same (h.nds.mat r h1) (fun j hj h2 => same2 j (SOwn.block (h.nds.mat r h1) j hj).1 h2 (h.nds.apm r h1 j hj))
    · rw [List.mem_singleton] at h1; subst h1
      exact sown_same hm (fun j hj h2 => same2 j (SOwn.block hm j hj).1 h2 (am j hj))
  · intro r hr
    rcases List.mem_append.1 hr with h1 | h1
    · exact sown_same (h.nds.nam r h1) (fun j hj h2 => same2 j (SOwn.block (h.nds.nam r h1) j hj).1 h2 (h.nds.apn r h1 j hj))
    · rw [List.mem_singleton] at h1; subst h1
      exact sown_same hn (fun j hj h2 => same2 j (SOwn.block hn j hj).1 h2 (an j hj))
  · intro r hr j hj e
    cases e
    rcases List.mem_append.1 hr with h1 | h1
    · rcases hgg with e | e
      · exact h.nds.apm r h1 _ hj e
      · have := (SOwn.block (h.nds.mat r h1) _ hj).2
        simp only at this; omega
    · rw [List.mem_singleton] at h1; subst h1
      rcases hgg with e | e
      · exact am _ hj e
      · have := (SOwn.block hm _ hj).2
        simp only at this; omega
  · intro r hr j hj e
    cases e
    rcases List.mem_append.1 hr with h1 | h1
    · rcases hgg with e | e
      · exact h.nds.apn r h1 _ hj e
      · have := (SOwn.block (h.nds.nam r h1) _ hj).2
        simp only at this; omega
    · rw [List.mem_singleton] at h1; subst h1
      rcases hgg with e | e
      · exact an _ hj e
      · have := (SOwn.block hn _ hj).2
        simp only at this; omega
  · intro j hj
    cases hj
    rcases hgg with e | e
    · exact .inl e
    · exact .inr (by show _ ≤ g3; omega)
/-- tell. -/
theorem f_tell {w : World} {b p : Nat} {K : Tk} {k : Nat} {op : Int} {v : Value} {L : List Row} (h : RdAt w b p K k op v L) (q : Row) (hm : SOwn matE 44 w b (slV q.2.1) q.1.mat.length q.1.mat) (hn : SOwn strE 9 w b (slV q.2.2) q.1.names.length q.1.names) (am : ∀ j, (slV q.2.1).ownBlock = some j → v.ownBlock ≠ some j) (an : ∀ j, (slV q.2.2).ownBlock = some j → v.ownBlock ≠ some j) (hl : L.length ≤ 1000000) :
    Calls Try.prog 53 #[.pointer (some ⟨p, 0, none⟩), .agg (ndA q.1 q.2.1 q.2.2)] w fun e w' => e = .returned (.tuple #[]) ∧ ∃ v', RdAt w' b p K k op v' (L ++ [q]) ∧ Adv p w v w' v' := by
  obtain ⟨N, eN⟩ : ∃ N, N = L.length := ⟨_, rfl⟩
  have c3 := h.cells.2.2.2
  obtain ⟨a, c, rfl⟩ := h.nds.val
  rw [← eN] at c3
  have g0 := World.grownBy_alloc w (.cells (ndA q.1 q.2.1 q.2.2) 34) none
  have g1 := g0.trans (World.grownBy_alloc _ (.cells (ndA q.1 q.2.1 q.2.2) 34) none)
  have hne : p ≠ w.heap.size := by have := h.lt; omega
  have d3 : (w.alloc (.cells (ndA q.1 q.2.1 q.2.2) 34)).cell? ⟨p, 3, none⟩ = some (.slice a N c) := by rw [eN]; exact (h.grown g0).cells.2.2.2
  have e3 : ((w.alloc (.cells (ndA q.1 q.2.1 q.2.2) 34)).alloc (.cells (ndA q.1 q.2.1 q.2.2) 34)).cell? ⟨p, 3, none⟩ = some (.slice a N c) := by rw [eN]; exact (h.grown g1).cells.2.2.2
  have HOW : Hid (SOwn ndE 34 ((w.alloc (.cells (ndA q.1 q.2.1 q.2.2) 34)).alloc (.cells (ndA q.1 q.2.1 q.2.2) 34)).drew b (.slice a N c) N L) := by
    show SOwn _ _ _ _ _ _ _
    rw [eN]
    exact SOwn.kept h.nds.own (gb_drew g1) (by cases a <;> simp [Value.ownBlock])
  have HIL : Hid (SRd ndE ((w.alloc (.cells (ndA q.1 q.2.1 q.2.2) 34)).alloc (.cells (ndA q.1 q.2.1 q.2.2) 34)).drew (some ⟨(w.alloc (.cells (ndA q.1 q.2.1 q.2.2) 34)).heap.size, 0, none⟩) [q]) := by
    have := lit_rd ndE (w.alloc (.cells (ndA q.1 q.2.1 q.2.2) 34)) 34 [q]
    rw [show (ndE.flat [q]).toArray = ndA q.1 q.2.1 q.2.2 by simp [Elem.flat, ndE]] at this
    exact this
  have HSTEP : Hid (∀ g3 c3 w3, SOwn ndE 34 w3 b (.slice (some ⟨g3, 0, none⟩) (N + 1) c3) (N + 1) (L ++ [q]) → ((w.alloc (.cells (ndA q.1 q.2.1 q.2.2) 34)).alloc (.cells (ndA q.1 q.2.1 q.2.2) 34)).drew.grownBy w3 (Value.slice a N c).ownBlock → ((Value.slice a N c).ownBlock = some g3 ∨ g3 = ((w.alloc (.cells (ndA q.1 q.2.1 q.2.2) 34)).alloc (.cells (ndA q.1 q.2.1 q.2.2) 34)).drew.heap.size) → w3.cell? ⟨p, 3, none⟩ = some (.slice a N c) ∧ w3.frozen? ⟨p, 3, none⟩ = false ∧ Hid (RdAt (w3.setCell ⟨p, 3, none⟩ (.slice (some ⟨g3, 0, none⟩) (N + 1) c3)) b p K k op (.slice (some ⟨g3, 0, none⟩) (N + 1) c3) (L ++ [q]) ∧ Adv p w (.slice a N c) (w3.setCell ⟨p, 3, none⟩ (.slice (some ⟨g3, 0, none⟩) (N + 1) c3)) (.slice (some ⟨g3, 0, none⟩) (N + 1) c3))) := by
    show ∀ g3 c3 w3, _
    rw [eN]
    intro g3 c3 w3 ho hg hgg
    obtain ⟨x1, x2, x3, x4⟩ := tell_end h (gb_drew g1) hm hn am an ho hg hgg
    exact ⟨x1, x2, x3, x4⟩
  have hz : (w.alloc (.cells (ndA q.1 q.2.1 q.2.2) 34)).heap.size = w.heap.size + 1 := size_alloc _ _
  have hb : b ≤ ((w.alloc (.cells (ndA q.1 q.2.1 q.2.2) 34)).alloc (.cells (ndA q.1 q.2.1 q.2.2) 34)).drew.heap.size := Nat.le_trans h.hb g1.size
  have HB := hid hb
  have hN : N ≤ 1000000 := by omega
  rw [← eN]
  clear h hm hn am an eN hl hb g0 g1
  unfold ndA slV at *
  rw [hz] at HIL
  clear hz
  go_enter Try.func53, Try.ntmps53
  go_wp2
  go_region_law (refine step_append_e ndT rfl (.tmp 8) (.tmp 10) rfl b (.slice a N c) N L (by simp [Act.eval]) HOW.out ⟨w.heap.size + 1, 0, none⟩ [q] 1 1 (by simp [Act.eval]) rfl HIL.out (by omega) (by omega) ?b2 HB.out ?_; (case b2 => unfold maxLen; omega); intro g3 c3 w3 ho3 hg3 hgg; obtain ⟨s3, z3, HX3⟩ := HSTEP.out g3 c3 w3 ho3 hg3 hgg; clear ho3 hg3 hgg)
  all_goals go_wp2
  all_goals go_end0
  all_goals exact ⟨rfl, _, HX3.out.1, HX3.out.2⟩
end Go.Proofs.Ytnimdngiejcljaa
