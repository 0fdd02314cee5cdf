/- Package reader: texts and signed numbers. (Printed by mk_hc.py.) -/
import Derived.Test.YtecnocdffhmkaaaDoorHb
namespace Go.Proofs.YtecnocdffhmkaaaDoor
open Go.RowKit
set_option linter.unusedVariables false
set_option maxRecDepth 20000

theorem gb_drew9 {w w' : World} (h : w.grownBy w' none) : w.grownBy w'.drew none := h.trans (gb_drewN w' 1)
structure Gb (w : World) where
  w' : World
  h : w.grownBy w' none
instance (w : World) : Inhabited (Gb w) := ⟨⟨w, World.grownBy.refl _ _⟩⟩
theorem wp_region_gb {P : Program} {id : Nat} {Q : Exit → Act → World → Prop} {a : Act} {w : World} {l : List Oper} (hm : P.follows .mixedOrders = true) (hB : Region.lexB .any l.toArray = true)
    (h : wpQuiet P l.toArray (fun w' => ∃ p : Gb w, w' = p.w') (fun a' => ∀ w', (∃ p : Gb w, w' = p.w') → Q .normal a' w') l a) : (Code.region id l.toArray true).wp P Q a w :=
  wp_region_quiet (C := fun w' => ∃ p : Gb w, w' = p.w') hm hB ⟨⟨w.drew, gb_drew9 (World.grownBy.refl _ _)⟩, rfl⟩ (by simpa using h)
theorem Gb.cell {w : World} {a : Addr} {v : Value} (h : w.cell? a = some v) (p : Gb w) : p.w'.cell? a = some v := p.h.cell h (by simp)
theorem gb_call {P : Program} {f : FuncId} {args : Array Value} {w : World} {p : Gb w} {v : Value}
    (h : Calls P f args p.w' fun e w' => e = .returned v ∧ p.w'.grownBy w' none) : Calls P f args p.w' fun e w'' => e = .returned v ∧ ∃ p : Gb w, w'' = p.w' :=
  h.mono fun _ w' ⟨he, hg⟩ => ⟨he, ⟨w', p.h.trans hg⟩, rfl⟩
theorem cell3 {w : World} {g : Nat} {x y z : Value} {t : TypeId} (h : w.heap[g]? = some (.cells #[x, y, z] t (0, 0))) : w.cell? ⟨g, 0, none⟩ = some x ∧ w.cell? ⟨g, 1, none⟩ = some y ∧ w.cell? ⟨g, 2, none⟩ = some z := by
  refine ⟨?_, ?_, ?_⟩
  · rw [cell_of_row w g 0 _ _ _ h]; rfl
  · rw [cell_of_row w g 1 _ _ _ h]; rfl
  · rw [cell_of_row w g 2 _ _ _ h]; rfl
theorem set3 {w : World} {g : Nat} {x y z : Value} {t : TypeId} (h : w.heap[g]? = some (.cells #[x, y, z] t (0, 0))) (v : Value) : (w.setCell ⟨g, 2, none⟩ v).heap[g]? = some (.cells #[x, y, v] t (0, 0)) := by
  simp [World.setCell, Array.getElem?_modify, h]
theorem gb_weak {w w' : World} {row : Option Nat} (h : w.grownBy w' none) : w.grownBy w' row := ⟨h.os, h.tape, h.output, h.size, fun k hk _ => h.block k hk (by simp)⟩
/-- Where a reader stands. -/
structure RAt (w : World) (B : Nat) (a : Option Addr) (L c : Nat) (zs : List Int) (p : Int) (bad : Bool) : Prop where
  box : w.heap[B]? = some (.cells #[.slice a L c, .int .i64 p, .bool bad] 83 (0, 0))
  rd : Rd w a zs
  len : zs.length = L
  cap : L ≤ c
  small : (L : Int) ≤ 140737488355000
  off : 0 < L → ∀ x, a = some x → x.block ≠ B
theorem RAt.lt {w : World} {B : Nat} {a : Option Addr} {L c : Nat} {zs : List Int} {p : Int} {bad : Bool} (h : RAt w B a L c zs p bad) : B < w.heap.size := (Array.getElem?_eq_some_iff.1 h.box).1
theorem RAt.grown {w w' : World} {B : Nat} {a : Option Addr} {L c : Nat} {zs : List Int} {p : Int} {bad : Bool} (h : RAt w B a L c zs p bad) (hg : w.grownBy w' none) : RAt w' B a L c zs p bad :=
  ⟨by rw [hg.block B h.lt (by simp)]; exact h.box, h.rd.grown hg (by simp), h.len, h.cap, h.small, h.off⟩
theorem RAt.rdset {w : World} {B j : Nat} {a : Option Addr} {L c : Nat} {zs : List Int} {p : Int} {b : Bool} (h : RAt w B a L c zs p b) (v : Value) : Rd (w.setCell ⟨B, j, none⟩ v) a zs := by
  by_cases h0 : 0 < L
  · exact h.rd.grown (gb_set rfl) (fun x hx e => h.off h0 x hx (Option.some.inj e))
  · have : zs = [] := List.eq_nil_of_length_eq_zero (by have := h.len; omega)
    subst this
    exact ⟨.inl rfl, by simp⟩
theorem RAt.bad {w : World} {B : Nat} {a : Option Addr} {L c : Nat} {zs : List Int} {p : Int} {b : Bool} (h : RAt w B a L c zs p b) : RAt (w.setCell ⟨B, 2, none⟩ (.bool true)) B a L c zs p true ∧ w.grownBy (w.setCell ⟨B, 2, none⟩ (.bool true)) (some B) :=
  ⟨⟨set3 h.box _, h.rdset _, h.len, h.cap, h.small, h.off⟩, gb_set rfl⟩
theorem RAt.to {w : World} {B : Nat} {a : Option Addr} {L c : Nat} {zs : List Int} {p q : Int} {b : Bool} (h : RAt w B a L c zs p b) : RAt (w.setCell ⟨B, 1, none⟩ (.int .i64 q)) B a L c zs q b ∧ w.grownBy (w.setCell ⟨B, 1, none⟩ (.int .i64 q)) (some B) :=
  ⟨⟨by simp [World.setCell, Array.getElem?_modify, h.box], h.rdset _, h.len, h.cap, h.small, h.off⟩, gb_set rfl⟩

/-- One piece: what it is, where the reader then stands. -/
def nxtT (zs : List Int) (s : Int × Bool) : ByteArray × Int × Bool :=
  if s.2 then (⟨#[]⟩, s.1, true) else if (textR zs s.1).2.2 = 0 then ((textR zs s.1).1, (textR zs s.1).2.1, false) else (⟨#[]⟩, s.1, true)
/-- What reading one leaves. -/
def NxOutT (w : World) (B : Nat) (a : Option Addr) (L c : Nat) (zs : List Int) (r : ByteArray × Int × Bool) (e : Ending) (w' : World) : Prop :=
  e = .returned (.string r.1) ∧ RAt w' B a L c zs r.2.1 r.2.2 ∧ w.grownBy w' (some B)
set_option maxHeartbeats 4000000 in
theorem g_nextT (w : World) (B : Nat) (a : Option Addr) (L c : Nat) (zs : List Int) (p : Int) (bad : Bool) (h : RAt w B a L c zs p bad) :
    Calls Tryd.prog 54 #[.pointer (some ⟨B, 0, none⟩), .func (.func 55) #[] #[]] w fun e w' => NxOutT w B a L c zs (nxtT zs (p, bad)) e w' := by
  obtain ⟨c0, c1, c2⟩ := cell3 h.box
  have HR : Hid (RAt w B a L c zs p bad) := h
  cases bad with
  | true =>
    have HN : Hid (nxtT zs (p, true) = (⟨#[]⟩, p, true)) := by show _ = _; simp [nxtT]
    clear h
    go_enter Tryd.func54, Tryd.ntmps54
    go_wp2
    go_ret
    rw [HN.out]
    exact ⟨rfl, HR.out, World.grownBy.refl _ _⟩
  | false =>
    obtain ⟨r1, r2, r3, hu⟩ : ∃ r1 r2 r3, textR zs p = (r1, r2, r3) := ⟨_, _, _, rfl⟩
    have HC : Hid (∀ p9 : Gb w, Calls Tryd.prog 55 #[.slice a L c, .int .i64 p] p9.w' fun e w' => e = .returned (.tuple #[.string r1, .int .i64 r2, .int .i64 r3]) ∧ p9.w'.grownBy w' none) := fun p9 => f_text a zs L c p r1 r2 r3 p9.w' (h.rd.grown p9.h (by simp)) h.len h.cap h.small hu
    have HN : Hid (nxtT zs (p, false) = if r3 = 0 then (r1, r2, false) else (⟨#[]⟩, p, true)) := by show _ = _; simp [nxtT, hu]
    have e0 : ∀ p9 : Gb w, p9.w'.cell? ⟨B, 0, none⟩ = some (.slice a L c) := Gb.cell c0
    have e1 : ∀ p9 : Gb w, p9.w'.cell? ⟨B, 1, none⟩ = some (.int .i64 p) := Gb.cell c1
    clear h hu
    go_enter Tryd.func54, Tryd.ntmps54
    go_wp2_with fail
    clear c0 c1 c2
    refine wp_region_gb (by kernel_rfl) (by kernel_rfl) ?_
    repeat ((with_reducible refine wpQuiet_step (fun K hK => ?_)); go_simp; first | (refine hK _ ?_; clear hK K) | (apply Exists.intro; refine ⟨fun _ => ?_, hK _ ?_⟩; (go_at_call 55; exact gb_call (HC.out _)); clear hK K))
    with_reducible refine wpQuiet_nil ?_
    rintro wq ⟨p9, hp9⟩
    have hq : w.grownBy wq none := hp9 ▸ p9.h
    clear hp9
    clear p9
    clear e0 e1
    have HQ : Hid (RAt wq B a L c zs p false) := HR.out.grown hq
    have HGQ : Hid (w.grownBy wq none) := hq
    clear hq
    obtain ⟨d0, d1, d2⟩ := cell3 HQ.out.box
    have f1 := free_row HQ.out.box 1
    have f2 := free_row HQ.out.box 2
    by_cases h3 : r3 = 0
    · have hb : (r3 != 0) = false := by simp [h3]
      have HN2 : Hid (nxtT zs (p, false) = (r1, r2, false)) := by show _ = _; rw [HN.out, if_pos h3]
      clear h3
      go_wp2
      go_ret
      rw [HN2.out]
      exact ⟨rfl, (HQ.out.to (q := r2)).1, gb_trans (gb_weak HGQ.out) (HQ.out.to (q := r2)).2 (fun k hk => .inr hk)⟩
    · have hb : (r3 != 0) = true := by simpa using h3
      have HN2 : Hid (nxtT zs (p, false) = (⟨#[]⟩, p, true)) := by show _ = _; rw [HN.out, if_neg h3]
      clear h3
      go_wp2
      go_ret
      rw [HN2.out]
      exact ⟨rfl, HQ.out.bad.1, gb_trans (gb_weak HGQ.out) HQ.out.bad.2 (fun k hk => .inr hk)⟩
theorem nx_callT {w : World} {B : Nat} {a : Option Addr} {L c : Nat} {zs : List Int} {r : ByteArray × Int × Bool} {e : Ending} {w' : World} (h : NxOutT w B a L c zs r e w') : e = .returned (.string r.1) ∧ Hid (RAt w' B a L c zs r.2.1 r.2.2 ∧ w.grownBy w' (some B)) := ⟨h.1, h.2⟩
set_option maxHeartbeats 2000000 in
theorem rd_T (w : World) (B : Nat) (a : Option Addr) (L c : Nat) (zs : List Int) (p : Int) (bad : Bool) (h : RAt w B a L c zs p bad) :
    Calls Tryd.prog 39 #[.pointer (some ⟨B, 0, none⟩)] w fun e w' => NxOutT w B a L c zs (nxtT zs (p, bad)) e w' := by
  have HC := g_nextT w B a L c zs p bad h
  clear h
  generalize nxtT zs (p, bad) = r at HC ⊢
  go_enter Tryd.func39, Tryd.ntmps39
  go_wp2_with fail
  refine HC.mono ?_
  intro e w1 hx
  obtain ⟨rfl, H1⟩ := nx_callT hx
  clear hx
  go_wp2
  go_ret
  exact ⟨rfl, H1.out.1, H1.out.2⟩

/-- One piece: what it is, where the reader then stands. -/
def nxtI (zs : List Int) (s : Int × Bool) : Int × Int × Bool :=
  if s.2 then (0, s.1, true) else if (intR zs s.1).2.2 = 0 then ((intR zs s.1).1, (intR zs s.1).2.1, false) else (0, s.1, true)
/-- What reading one leaves. -/
def NxOutI (w : World) (B : Nat) (a : Option Addr) (L c : Nat) (zs : List Int) (r : Int × Int × Bool) (e : Ending) (w' : World) : Prop :=
  e = .returned (.int .i64 r.1) ∧ RAt w' B a L c zs r.2.1 r.2.2 ∧ w.grownBy w' (some B)
set_option maxHeartbeats 4000000 in
theorem g_nextI (w : World) (B : Nat) (a : Option Addr) (L c : Nat) (zs : List Int) (p : Int) (bad : Bool) (h : RAt w B a L c zs p bad) :
    Calls Tryd.prog 56 #[.pointer (some ⟨B, 0, none⟩), .func (.func 57) #[] #[]] w fun e w' => NxOutI w B a L c zs (nxtI zs (p, bad)) e w' := by
  obtain ⟨c0, c1, c2⟩ := cell3 h.box
  have HR : Hid (RAt w B a L c zs p bad) := h
  cases bad with
  | true =>
    have HN : Hid (nxtI zs (p, true) = (0, p, true)) := by show _ = _; simp [nxtI]
    clear h
    go_enter Tryd.func56, Tryd.ntmps56
    go_wp2
    go_ret
    rw [HN.out]
    exact ⟨rfl, HR.out, World.grownBy.refl _ _⟩
  | false =>
    obtain ⟨r1, r2, r3, hu⟩ : ∃ r1 r2 r3, intR zs p = (r1, r2, r3) := ⟨_, _, _, rfl⟩
    have HC : Hid (∀ p9 : Gb w, Calls Tryd.prog 57 #[.slice a L c, .int .i64 p] p9.w' fun e w' => e = .returned (.tuple #[.int .i64 r1, .int .i64 r2, .int .i64 r3]) ∧ p9.w'.grownBy w' none) := fun p9 => f_int a zs L c p r1 r2 r3 p9.w' (h.rd.grown p9.h (by simp)) h.len h.cap h.small hu
    have HN : Hid (nxtI zs (p, false) = if r3 = 0 then (r1, r2, false) else (0, p, true)) := by show _ = _; simp [nxtI, hu]
    have e0 : ∀ p9 : Gb w, p9.w'.cell? ⟨B, 0, none⟩ = some (.slice a L c) := Gb.cell c0
    have e1 : ∀ p9 : Gb w, p9.w'.cell? ⟨B, 1, none⟩ = some (.int .i64 p) := Gb.cell c1
    clear h hu
    go_enter Tryd.func56, Tryd.ntmps56
    go_wp2_with fail
    clear c0 c1 c2
    refine wp_region_gb (by kernel_rfl) (by kernel_rfl) ?_
    repeat ((with_reducible refine wpQuiet_step (fun K hK => ?_)); go_simp; first | (refine hK _ ?_; clear hK K) | (apply Exists.intro; refine ⟨fun _ => ?_, hK _ ?_⟩; (go_at_call 57; exact gb_call (HC.out _)); clear hK K))
    with_reducible refine wpQuiet_nil ?_
    rintro wq ⟨p9, hp9⟩
    have hq : w.grownBy wq none := hp9 ▸ p9.h
    clear hp9
    clear p9
    clear e0 e1
    have HQ : Hid (RAt wq B a L c zs p false) := HR.out.grown hq
    have HGQ : Hid (w.grownBy wq none) := hq
    clear hq
    obtain ⟨d0, d1, d2⟩ := cell3 HQ.out.box
    have f1 := free_row HQ.out.box 1
    have f2 := free_row HQ.out.box 2
    by_cases h3 : r3 = 0
    · have hb : (r3 != 0) = false := by simp [h3]
      have HN2 : Hid (nxtI zs (p, false) = (r1, r2, false)) := by show _ = _; rw [HN.out, if_pos h3]
      clear h3
      go_wp2
      go_ret
      rw [HN2.out]
      exact ⟨rfl, (HQ.out.to (q := r2)).1, gb_trans (gb_weak HGQ.out) (HQ.out.to (q := r2)).2 (fun k hk => .inr hk)⟩
    · have hb : (r3 != 0) = true := by simpa using h3
      have HN2 : Hid (nxtI zs (p, false) = (0, p, true)) := by show _ = _; rw [HN.out, if_neg h3]
      clear h3
      go_wp2
      go_ret
      rw [HN2.out]
      exact ⟨rfl, HQ.out.bad.1, gb_trans (gb_weak HGQ.out) HQ.out.bad.2 (fun k hk => .inr hk)⟩
theorem nx_callI {w : World} {B : Nat} {a : Option Addr} {L c : Nat} {zs : List Int} {r : Int × Int × Bool} {e : Ending} {w' : World} (h : NxOutI w B a L c zs r e w') : e = .returned (.int .i64 r.1) ∧ Hid (RAt w' B a L c zs r.2.1 r.2.2 ∧ w.grownBy w' (some B)) := ⟨h.1, h.2⟩
set_option maxHeartbeats 2000000 in
theorem rd_I (w : World) (B : Nat) (a : Option Addr) (L c : Nat) (zs : List Int) (p : Int) (bad : Bool) (h : RAt w B a L c zs p bad) :
    Calls Tryd.prog 40 #[.pointer (some ⟨B, 0, none⟩)] w fun e w' => NxOutI w B a L c zs (nxtI zs (p, bad)) e w' := by
  have HC := g_nextI w B a L c zs p bad h
  clear h
  generalize nxtI zs (p, bad) = r at HC ⊢
  go_enter Tryd.func40, Tryd.ntmps40
  go_wp2_with fail
  refine HC.mono ?_
  intro e w1 hx
  obtain ⟨rfl, H1⟩ := nx_callI hx
  clear hx
  go_wp2
  go_ret
  exact ⟨rfl, H1.out.1, H1.out.2⟩

set_option maxHeartbeats 1000000 in
theorem g_of (a : Option Addr) (zs : List Int) (L c : Nat) (w : World) (hr : Rd w a zs) (hL : zs.length = L) (hc : L ≤ c) (hs : (L : Int) ≤ 140737488355000) :
    Calls Tryd.prog 38 #[.slice a L c] w fun e w' => e = .returned (.pointer (some ⟨w.heap.size, 0, none⟩)) ∧ RAt w' w.heap.size a L c zs 0 false ∧ w.grownBy w' none := by
  have HA : Hid (RAt (w.alloc (.cells #[.slice a L c, .int .i64 0, .bool false] 83)) w.heap.size a L c zs 0 false) := by
    have ga := World.grownBy_alloc w (.cells #[.slice a L c, .int .i64 0, .bool false] 83) none
    exact ⟨heap_alloc_new w _, hr.grown ga (by simp), hL, hc, hs, fresh_ne hr hL⟩
  clear hr hL hc hs
  go_enter Tryd.func38, Tryd.ntmps38
  go_wp2
  go_ret
  exact ⟨rfl, HA.out, World.grownBy_alloc _ _ none⟩
set_option maxHeartbeats 1000000 in
theorem g_whole (w : World) (B : Nat) (a : Option Addr) (L c : Nat) (zs : List Int) (p : Int) (bad : Bool) (h : RAt w B a L c zs p bad) :
    Calls Tryd.prog 41 #[.pointer (some ⟨B, 0, none⟩)] w fun e w' => e = .returned (.bool (!bad && decide (p = (L : Int)))) ∧ ∃ n, w' = w.drewN n := by
  obtain ⟨c0, c1, c2⟩ := cell3 h.box
  clear h
  cases bad with
  | true =>
    go_enter Tryd.func41, Tryd.ntmps41
    go_wp2_with fail
    go_quiet (fail)
    go_wp2
    go_ret
    exact ⟨rfl, _, rfl⟩
  | false =>
    by_cases hp : p = (L : Int)
    · subst hp
      go_enter Tryd.func41, Tryd.ntmps41
      go_wp2_with fail
      go_quiet (fail)
      go_wp2
      go_ret
      exact ⟨by simp, _, rfl⟩
    · have hb : (p == (L : Int)) = false := by simpa using hp
      have HD : Hid (decide (p = (L : Int)) = false) := by show _ = _; simpa using hp
      clear hp
      go_enter Tryd.func41, Tryd.ntmps41
      go_wp2_with fail
      go_quiet (fail)
      go_wp2
      go_ret
      exact ⟨by rw [HD.out]; rfl, _, rfl⟩
end Go.Proofs.YtecnocdffhmkaaaDoor
