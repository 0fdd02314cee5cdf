/- HeadSelects: the law's own series, point by point. -/
import Derived.Test.YtpabbmiibehfjaaGreatDoorIv
namespace Go.Proofs.YtpabbmiibehfjaaGreatDoor
open Go.RowKit Go.Maps
set_option linter.unusedVariables false
set_option maxRecDepth 20000

/-- A series of the law's own, in block xb: its labels lv, its points P so far. -/
structure XAt (wo wr : World) (xb : Nat) (lv : Value) (a : Option Addr) (c : Nat) (P : List Pt) : Prop where
  gr : wo.grownBy wr none
  row : wr.rowIs xb 49 2 (SerF lv (.slice a P.length c))
  own : SOwn pntE 51 wr xb (.slice a P.length c) P.length P
  ge : wo.heap.size ≤ xb
theorem XAt.grew {wo wr w' : World} {xb : Nat} {lv : Value} {a : Option Addr} {c : Nat} {P : List Pt} (h : XAt wo wr xb lv a c P) (hg : wr.grownBy w' none) : XAt wo w' xb lv a c P :=
  ⟨h.gr.trans hg, h.row.of_block (hg.block _ h.row.lt (by simp)), sown_stay h.own (fun x hx => hg.block _ (SOwn.block h.own x.block (by rw [hx]; rfl)).2 (by simp)), h.ge⟩
theorem XAt.cells {wo wr : World} {xb : Nat} {lv : Value} {a : Option Addr} {c : Nat} {P : List Pt} (h : XAt wo wr xb lv a c P) : wr.cell? ⟨xb, 0, none⟩ = some lv ∧ wr.cell? ⟨xb, 1, none⟩ = some (.slice a P.length c) := ⟨h.row.cell (i := 0) (by omega), h.row.cell (i := 1) (by omega)⟩
theorem XAt.app {wo W w2 : World} {xb : Nat} {lv : Value} {a a2 : Option Addr} {c c2 m : Nat} {P zs : List Pt} (h : XAt wo W xb lv a c P) (hm : zs.length = m) (ho : SOwn pntE 51 w2 xb (.slice a2 (P.length + m) c2) (P.length + m) (P ++ zs)) (hg : W.grownBy w2 (Value.ownBlock (.slice a P.length c))) :
    w2.cell? ⟨xb, 1, none⟩ = some (.slice a P.length c) ∧ w2.frozen? ⟨xb, 1, none⟩ = false ∧ XAt wo (w2.setCell ⟨xb, 1, none⟩ (.slice a2 (P.length + m) c2)) xb lv a2 c2 (P ++ zs) := by
  have hT : ∀ k, Value.ownBlock (.slice a P.length c) = some k → Typed W k 51 ∧ xb ≤ k := fun k hk => by
    cases a with
    | none => simp [Value.ownBlock] at hk
    | some x =>
      have e : x.block = k := by simpa [Value.ownBlock] using hk
      rw [← e]
      exact ⟨sown_typed h.own, (SOwn.block h.own x.block rfl).1⟩
  have hne : some xb ≠ Value.ownBlock (.slice a P.length c) := fun e => Typed.ne (rowIs_typed h.row) (hT xb e.symm).1 (by decide) rfl
  have hrow : w2.rowIs xb 49 2 (SerF lv (.slice a P.length c)) := h.row.of_block (hg.block _ h.row.lt hne)
  refine ⟨hrow.cell (i := 1) (by omega), hrow.frozen 1, ?_⟩
  have hgs : w2.grownBy (w2.setCell ⟨xb, 1, none⟩ (.slice a2 (P.length + m) c2)) (some xb) := gb_set rfl
  have hl : (P ++ zs).length = P.length + m := by rw [List.length_append, hm]
  refine ⟨?_, ?_, ?_, h.ge⟩
  · exact gb_trans (gb_trans h.gr hg (fun k hk => .inl (Nat.le_trans h.ge (hT k hk).2))) hgs (fun k hk => .inl (by cases hk; exact h.ge))
  · refine (hrow.set 1 (.slice a2 (P.length + m) c2)).congr (fun i hi => ?_)
    match i, hi with
    | 0, _ => rfl
    | 1, _ =>
      show (if (1 : Nat) = 1 then (Value.slice a2 (P.length + m) c2) else _) = .slice a2 (P ++ zs).length c2
      rw [if_pos rfl, hl]
  · rw [hl]
    refine sown_stay ho (fun x hx => ?_)
    subst hx
    have hT6 := sown_typed ho
    exact hgs.block _ (typed_lt hT6) (fun e1 => Typed.ne hT6 (rowIs_typed hrow) (by decide) (Option.some.inj e1))
/-- It begins without points. -/
theorem XAt.start {wo w : World} {lv : Value} (hg : wo.grownBy w none) : XAt wo (w.alloc (.cells #[lv, .slice none 0 0] 49)) w.heap.size lv none 0 [] := by
  have hr : (w.alloc (.cells #[lv, .slice none 0 0] 49)).rowIs w.heap.size 49 2 (SerF lv (.slice none 0 0)) := by
    refine ⟨_, heap_alloc_new w _, rfl, fun i hi => ?_⟩
    match i, hi with
    | 0, _ => rfl
    | 1, _ => rfl
  exact ⟨hg.trans (World.grownBy_alloc w _ none), hr, SOwn.nil 51 _ _, hg.size⟩
end Go.Proofs.YtpabbmiibehfjaaGreatDoor
