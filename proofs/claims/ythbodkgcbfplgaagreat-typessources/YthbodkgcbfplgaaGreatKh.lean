/- Package types: a node in the place of its parts. -/
import Derived.Test.YthbodkgcbfplgaaGreatKg
import Derived.Deep.CutRange
namespace Go.Proofs.YthbodkgcbfplgaaGreat
open Go.RowKit
set_option linter.unusedVariables false
set_option linter.unusedSimpArgs false
set_option maxRecDepth 20000

section
variable {α : Type} {E : Elem α}
theorem add_plain (b o n : Nat) : (⟨b, o, none⟩ : Addr).add n = ⟨b, o + n, none⟩ := by
  by_cases h : n = 0
  · subst h; rfl
  · simp [Addr.add, h]
theorem SRd.drop {w : World} {a : Option Addr} {l : List α} (h : SRd E w a l) (n : Nat) (hn : n ≤ l.length) : SRd E w (a.map (·.add (n * E.size))) (l.drop n) := by
  rcases h with rfl | ⟨b, off, rfl, hc⟩
  · left; simp
  · right
    refine ⟨b, off + n * E.size, by rw [Option.map_some, add_plain], fun j v hv => ?_⟩
    rw [Nat.add_assoc]
    refine hc _ v ?_
    have e : E.flat l = E.flat (l.take n) ++ E.flat (l.drop n) := by rw [← E.flat_app, List.take_append_drop]
    have hl : (E.flat (l.take n)).length = n * E.size := by rw [E.flat_len, List.length_take, Nat.min_eq_left hn]
    rw [e, List.getElem?_append_right (by omega), hl, show n * E.size + j - n * E.size = j by omega]
    exact hv
theorem sown_take {e : TypeId} {w : World} {base n : Nat} {a : Option Addr} {c : Nat} {l : List α} (h : SOwn E e w base (.slice a n c) n l) (i : Nat) (hi : i ≤ n) : SOwn E e w base (.slice a i c) i (l.take i) := by
  have hl := h.len
  have e1 : E.flat l = E.flat (l.take i) ++ E.flat (l.drop i) := by rw [← E.flat_app, List.take_append_drop]
  have e2 : (E.flat (l.take i)).length = i * E.size := by rw [E.flat_len, List.length_take]; congr 1; omega
  refine ⟨e2, ?_⟩
  rcases h.2 with ⟨h', h0⟩ | ⟨g, cap, cur, h', k1, k2, k3, k4, k5, k6⟩
  · injection h' with h1 h2 h3
    subst h1; subst h3
    exact .inl ⟨by rw [show i = 0 from by omega], by omega⟩
  · injection h' with h1 h2 h3
    subst h1; subst h3
    refine .inr ⟨g, c, cur, rfl, k1, k2, by omega, k4, k5, ?_⟩
    rw [E.flat_take, ← k6, List.take_take, Nat.min_eq_left (Nat.mul_le_mul_right _ hi)]
end
theorem info50 : (Tryz.prog.info? 50).map (fun i => (i.zero, i.size, i.bytes)) = some (some (.agg #[.int .i64 0]), 1, 8) := by kernel_rfl
theorem partT : ElemOf numE Tryz.prog 47 50 8 := by
  obtain ⟨i0, hi, hz0, hz1, hz2⟩ := info_parts info50
  exact ⟨Tryz.underlying47, i0, _, hi, hz0, hz1, hz2, rfl⟩
theorem under47 : Tryz.prog.underlying 47 = some (.slice (Tryz.prog.elem 47)) := by kernel_rfl
theorem size50 (w : World) : (sizeOf (Tryz.prog.elem 47)).run Tryz.prog w = .ok 1 w := by
  have e : Tryz.prog.elem 47 = 50 := by kernel_rfl
  have c : Tryz.prog.cellsOf 50 = 1 := by kernel_rfl
  obtain ⟨i0, hi, _⟩ := info_parts info50
  rw [e, Go.run_sizeOf w hi, c]
theorem parts_to (a : Option Addr) (L cap k : Nat) (hk : k ≤ L) (hc : L ≤ cap) (w : World) : (Instr.slice 47 (.slice a L cap) none (some (.int .i64 (k : Int))) none).run Tryz.prog w = .ok (.slice a k cap) w := by
  rw [run_slice_h w 47 a L cap under47 .i64 k (by omega) (by omega), size50]
  cases a <;> simp [Result.andThen, sliced, Addr.add]
theorem parts_from (a : Option Addr) (L cap k : Nat) (hk : k ≤ L) (hc : L ≤ cap) : ∃ b c, (∀ w, (Instr.slice 47 (.slice a L cap) (some (.int .i64 (k : Int))) none none).run Tryz.prog w = .ok (.slice b (L - k) c) w) ∧
    ∀ w (zs : List Int), SRd numE w a zs → zs.length = L → SRd numE w b (zs.drop k) := by
  by_cases hck : cap = k
  · refine ⟨a, cap - k, fun w => ?_, fun w zs h hl => ?_⟩
    · rw [run_slice_l w 47 a L cap under47 .i64 k (by omega) (by omega), size50]
      simp [Result.andThen, sliced, hck]
    · left; rw [List.drop_eq_nil_iff]; omega
  · refine ⟨a.map (·.add (k * 1)), cap - k, fun w => ?_, fun w zs h hl => ?_⟩
    · rw [run_slice_l w 47 a L cap under47 .i64 k (by omega) (by omega), size50]
      simp [Result.andThen, sliced, hck]
    · exact h.drop k (by omega)
/-- The types that are left, in a box. -/
structure StAt (w : World) (p : Nat) (a : Option Addr) (c : Nat) (st : List Int) : Prop where
  row : w.heap[p]? = some (.cells #[.slice a st.length c] 47 (0, 0))
  own : SOwn numE 50 w (p + 1) (.slice a st.length c) st.length st
theorem StAt.lt {w : World} {p : Nat} {a : Option Addr} {c : Nat} {st : List Int} (h : StAt w p a c st) : p < w.heap.size := (Array.getElem?_eq_some_iff.1 h.row).1
theorem StAt.grown {w w' : World} {p : Nat} {a : Option Addr} {c : Nat} {st : List Int} (h : StAt w p a c st) (hg : w.grownBy w' none) : StAt w' p a c st :=
  ⟨(hg.block p h.lt (by simp)).trans h.row, SOwn.kept h.own hg (Classical.em _)⟩
theorem StAt.cell {w : World} {p : Nat} {a : Option Addr} {c : Nat} {st : List Int} (h : StAt w p a c st) : w.cell? ⟨p, 0, none⟩ = some (.slice a st.length c) := by rw [cell_of_row _ _ _ _ _ _ h.row]; rfl
theorem StAt.le {w : World} {p : Nat} {a : Option Addr} {c : Nat} {st : List Int} (h : StAt w p a c st) : st.length ≤ c := by
  rcases h.own.2 with ⟨h', h0⟩ | ⟨g, cap, cur, h', k1, k2, k3, k4, k5, k6⟩
  · omega
  · cases h'; exact k3
theorem StAt.rd {w : World} {p : Nat} {a : Option Addr} {c : Nat} {st : List Int} (h : StAt w p a c st) : SRd numE w a st := SOwn.rd h.own
theorem want_ent (x : Nd) (caps : Array Value) (w : World) : (callFunc (wantFn x) caps).run Tryz.prog w = .ok (.enter (wantFn x) caps) w := by
  have h54 : (callFunc 54 caps).run Tryz.prog w = .ok (.enter 54 caps) w := by kernel_rfl
  have h55 : (callFunc 55 caps).run Tryz.prog w = .ok (.enter 55 caps) w := by kernel_rfl
  have h57 : (callFunc 57 caps).run Tryz.prog w = .ok (.enter 57 caps) w := by kernel_rfl
  have h74 : (callFunc 74 caps).run Tryz.prog w = .ok (.enter 74 caps) w := by kernel_rfl
  unfold wantFn bothFn
  split
  · split
    · exact h54
    · exact h55
  · split
    · exact h54
    · split
      · split
        · exact h54
        · split
          · exact h74
          · exact h57
      · exact h57
theorem nd_row {w : World} {g : Nat} {x : Nd} {m n : Sl} (h : w.heap[g]? = some (.cells (ndA x m n) 37 (0, 0))) :
    w.cell? ⟨g, 0, none⟩ = some (.int .i64 x.kind) ∧ w.cell? ⟨g, 1, none⟩ = some (.int .i64 x.op) ∧ w.cell? ⟨g, 2, none⟩ = some (.string x.text) ∧ w.cell? ⟨g, 3, none⟩ = some (slV m) ∧ w.cell? ⟨g, 4, none⟩ = some (.int .i64 x.width) ∧ w.cell? ⟨g, 5, none⟩ = some (.int .i64 x.back) ∧ w.cell? ⟨g, 6, none⟩ = some (.int .i64 x.group) ∧ w.cell? ⟨g, 7, none⟩ = some (slV n) ∧ w.cell? ⟨g, 8, none⟩ = some (.bool x.bool) ∧ w.cell? ⟨g, 9, none⟩ = some (.int .i64 x.parts) := by
  unfold ndA at h
  refine ⟨?_, ?_, ?_, ?_, ?_, ?_, ?_, ?_, ?_, ?_⟩ <;> (rw [cell_of_row _ _ _ _ _ _ h]; rfl)
/-- What take answers. -/
def TkQ (p : Nat) (st : List Int) (x : Nd) (w : World) (e : Ending) (w' : World) : Prop :=
  e = .returned (.int .i64 (codeT st x)) ∧ ∃ a' c', StAt w' p a' c' (if codeT st x = 0 then nextT st x else st) ∧ Fr (fun j => p ≤ j) w w'
set_option maxHeartbeats 4000000 in
theorem take_no (W0 : World) (p : Nat) (a : Option Addr) (c : Nat) (st : List Int) (x : Nd) (ma na : Option Addr) (mc nc : Nat) (h : StAt W0 p a c st) (hq : NdRd W0 (x, (ma, x.mat.length, mc), (na, x.names.length, nc)))
    (hf : formB x = false) :
    Calls Tryz.prog 20 #[.pointer (some ⟨p, 0, none⟩), .agg (ndA x (ma, x.mat.length, mc) (na, x.names.length, nc))] W0 (TkQ p st x W0) := by
  have g0 := World.grownBy_alloc W0 (.cells (ndA x (ma, x.mat.length, mc) (na, x.names.length, nc)) 37) none
  have G0 := hid g0
  have HB := hid (heap_alloc_new W0 (.cells (ndA x (ma, x.mat.length, mc) (na, x.names.length, nc)) 37))
  have hsz := size_alloc W0 (.cells (ndA x (ma, x.mat.length, mc) (na, x.names.length, nc)) 37)
  have HZ : Hid (W0.heap.size < (W0.alloc (.cells (ndA x (ma, x.mat.length, mc) (na, x.names.length, nc)) 37)).heap.size) := by show _ < _; omega
  have GD := hid (gb_drew (World.grownBy.refl (W0.alloc (.cells (ndA x (ma, x.mat.length, mc) (na, x.names.length, nc)) 37)) none))
  have HFM := hid (f_hasForm (x, (ma, x.mat.length, mc), (na, x.names.length, nc)) _ (hq.grown (g0.trans GD.out)))
  have HST : Hid (∀ W, (W0.alloc (.cells (ndA x (ma, x.mat.length, mc) (na, x.names.length, nc)) 37)).grownBy W none → StAt W p a c st) := fun W hg => h.grown (g0.trans hg)
  have HC : Hid (codeT st x = 190) := by show _ = _; unfold codeT; rw [if_pos (.inl hf)]
  simp only [hf] at HFM
  clear h hq g0 hsz hf
  unfold ndA slV at *
  try dsimp only at *
  go_enter Tryz.func20, Tryz.ntmps20
  go_upto_region 1 with fail
  refine wp_region_held_drew (S := fun V => (W0.alloc (.cells #[.int .i64 x.kind, .int .i64 x.op, .string x.text, .slice ma x.mat.length mc, .int .i64 x.width, .int .i64 x.back, .int .i64 x.group, .slice na x.names.length nc, .bool x.bool, .int .i64 x.parts] 37)).grownBy V none) (by kernel_rfl) GD.out (fun hHeld => ?_)
  refine wpAnyH_take (i := 0) (v := .agg #[.int .i64 x.kind, .int .i64 x.op, .string x.text, .slice ma x.mat.length mc, .int .i64 x.width, .int .i64 x.back, .int .i64 x.group, .slice na x.names.length nc, .bool x.bool, .int .i64 x.parts]) rfl (by kernel_rfl) (by kernel_rfl) (by kernel_rfl) (fun _ _ _ h => h) (Or.inl ⟨by kernel_rfl, fun w hSw => ?_⟩) (by assumption) ?_
  · obtain ⟨c0, c1, c2, c3, c4, c5, c6, c7, c8, c9⟩ := nx_cells ((hSw.block W0.heap.size HZ.out (by simp)).trans HB.out); go_simp
  (try simp (maxSteps := 10000000) only [Act.put, List.getElem_toArray, List.getElem_cons_succ, List.getElem_cons_zero]); (try simp (maxSteps := 10000000) only [List.setIfInBounds_toArray]); (try simp (maxSteps := 10000000) only [List.set_cons_succ]); (try simp (maxSteps := 10000000) only [List.set_cons_zero])
  refine wpAnyH_ready (rs := [1]) (by kernel_rfl) (by simp) (AllReadyH.cons (i := 1) rfl (fun K9 hK => ?_) AllReadyH.nil)
  go_simp
  refine (HFM.out).mono ?_
  rintro e w1 ⟨rfl, hg⟩
  have s1 := GD.out.trans hg
  clear hg
  refine hK.out _ _ s1 (fun hHeld => ?_)
  clear hK K9 hHeld
  (try simp (maxSteps := 10000000) only [Act.put, List.getElem_toArray, List.getElem_cons_succ, List.getElem_cons_zero]); (try simp (maxSteps := 10000000) only [List.setIfInBounds_toArray]); (try simp (maxSteps := 10000000) only [List.set_cons_succ]); (try simp (maxSteps := 10000000) only [List.set_cons_zero])
  refine wpAnyH_take (i := 2) (v := .bool true) rfl (by kernel_rfl) (by kernel_rfl) (by kernel_rfl) (fun _ _ _ h => h) (Or.inl ⟨by kernel_rfl, fun w hSw => ?_⟩) (by assumption) ?_
  · go_simp
  (try simp (maxSteps := 10000000) only [Act.put, List.getElem_toArray, List.getElem_cons_succ, List.getElem_cons_zero]); (try simp (maxSteps := 10000000) only [List.setIfInBounds_toArray]); (try simp (maxSteps := 10000000) only [List.set_cons_succ]); (try simp (maxSteps := 10000000) only [List.set_cons_zero])
  refine wpAnyH_take (i := 3) (v := .bool true) rfl (by kernel_rfl) (by kernel_rfl) (by kernel_rfl) (fun _ _ _ h => h) (Or.inl ⟨by kernel_rfl, fun w hSw => ?_⟩) (by assumption) ?_
  · go_simp
  (try simp (maxSteps := 10000000) only [Act.put, List.getElem_toArray, List.getElem_cons_succ, List.getElem_cons_zero]); (try simp (maxSteps := 10000000) only [List.setIfInBounds_toArray]); (try simp (maxSteps := 10000000) only [List.set_cons_succ]); (try simp (maxSteps := 10000000) only [List.set_cons_zero])
  refine wpAnyH_take (i := 4) (v := undef) rfl (by kernel_rfl) (by kernel_rfl) (by kernel_rfl) (fun _ _ _ h => h) (Or.inr ⟨by kernel_rfl, rfl⟩) (by assumption) ?_
  (try simp (maxSteps := 10000000) only [Act.put, List.getElem_toArray, List.getElem_cons_succ, List.getElem_cons_zero]); (try simp (maxSteps := 10000000) only [List.setIfInBounds_toArray]); (try simp (maxSteps := 10000000) only [List.set_cons_succ]); (try simp (maxSteps := 10000000) only [List.set_cons_zero])
  refine wpAnyH_take (i := 5) (v := undef) rfl (by kernel_rfl) (by kernel_rfl) (by kernel_rfl) (fun _ _ _ h => h) (Or.inr ⟨by kernel_rfl, rfl⟩) (by assumption) ?_
  (try simp (maxSteps := 10000000) only [Act.put, List.getElem_toArray, List.getElem_cons_succ, List.getElem_cons_zero]); (try simp (maxSteps := 10000000) only [List.setIfInBounds_toArray]); (try simp (maxSteps := 10000000) only [List.set_cons_succ]); (try simp (maxSteps := 10000000) only [List.set_cons_zero])
  refine wpAnyH_take (i := 6) (v := undef) rfl (by kernel_rfl) (by kernel_rfl) (by kernel_rfl) (fun _ _ _ h => h) (Or.inr ⟨by kernel_rfl, rfl⟩) (by assumption) ?_
  (try simp (maxSteps := 10000000) only [Act.put, List.getElem_toArray, List.getElem_cons_succ, List.getElem_cons_zero]); (try simp (maxSteps := 10000000) only [List.setIfInBounds_toArray]); (try simp (maxSteps := 10000000) only [List.set_cons_succ]); (try simp (maxSteps := 10000000) only [List.set_cons_zero])
  refine wpAnyH_take (i := 7) (v := undef) rfl (by kernel_rfl) (by kernel_rfl) (by kernel_rfl) (fun _ _ _ h => h) (Or.inr ⟨by kernel_rfl, rfl⟩) (by assumption) ?_
  (try simp (maxSteps := 10000000) only [Act.put, List.getElem_toArray, List.getElem_cons_succ, List.getElem_cons_zero]); (try simp (maxSteps := 10000000) only [List.setIfInBounds_toArray]); (try simp (maxSteps := 10000000) only [List.set_cons_succ]); (try simp (maxSteps := 10000000) only [List.set_cons_zero])
  refine wpAnyH_take (i := 8) (v := undef) rfl (by kernel_rfl) (by kernel_rfl) (by kernel_rfl) (fun _ _ _ h => h) (Or.inr ⟨by kernel_rfl, rfl⟩) (by assumption) ?_
  (try simp (maxSteps := 10000000) only [Act.put, List.getElem_toArray, List.getElem_cons_succ, List.getElem_cons_zero]); (try simp (maxSteps := 10000000) only [List.setIfInBounds_toArray]); (try simp (maxSteps := 10000000) only [List.set_cons_succ]); (try simp (maxSteps := 10000000) only [List.set_cons_zero])
  refine wpAnyH_take (i := 9) (v := undef) rfl (by kernel_rfl) (by kernel_rfl) (by kernel_rfl) (fun _ _ _ h => h) (Or.inr ⟨by kernel_rfl, rfl⟩) (by assumption) ?_
  (try simp (maxSteps := 10000000) only [Act.put, List.getElem_toArray, List.getElem_cons_succ, List.getElem_cons_zero]); (try simp (maxSteps := 10000000) only [List.setIfInBounds_toArray]); (try simp (maxSteps := 10000000) only [List.set_cons_succ]); (try simp (maxSteps := 10000000) only [List.set_cons_zero])
  refine wpAnyH_take (i := 10) (v := undef) rfl (by kernel_rfl) (by kernel_rfl) (by kernel_rfl) (fun _ _ _ h => h) (Or.inr ⟨by kernel_rfl, rfl⟩) (by assumption) ?_
  (try simp (maxSteps := 10000000) only [Act.put, List.getElem_toArray, List.getElem_cons_succ, List.getElem_cons_zero]); (try simp (maxSteps := 10000000) only [List.setIfInBounds_toArray]); (try simp (maxSteps := 10000000) only [List.set_cons_succ]); (try simp (maxSteps := 10000000) only [List.set_cons_zero])
  refine wpAnyH_take (i := 11) (v := .bool true) rfl (by kernel_rfl) (by kernel_rfl) (by kernel_rfl) (fun _ _ _ h => h) (Or.inl ⟨by kernel_rfl, fun w hSw => ?_⟩) (by assumption) ?_
  · go_simp
  (try simp (maxSteps := 10000000) only [Act.put, List.getElem_toArray, List.getElem_cons_succ, List.getElem_cons_zero]); (try simp (maxSteps := 10000000) only [List.setIfInBounds_toArray]); (try simp (maxSteps := 10000000) only [List.set_cons_succ]); (try simp (maxSteps := 10000000) only [List.set_cons_zero])
  refine wpAnyH_done (by kernel_rfl) ?_ _
  go_wp2
  go_ret
  exact ⟨ret_int (by rw [HC.out]), a, c, by rw [HC.out]; exact HST.out _ s1, Fr.of (G0.out.trans s1)⟩
set_option maxHeartbeats 4000000 in
theorem take_few (W0 : World) (p : Nat) (a : Option Addr) (c : Nat) (st : List Int) (x : Nd) (ma na : Option Addr) (mc nc : Nat) (h : StAt W0 p a c st) (hq : NdRd W0 (x, (ma, x.mat.length, mc), (na, x.names.length, nc)))
    (hf : formB x = true) (hp : (st.length : Int) < x.parts) :
    Calls Tryz.prog 20 #[.pointer (some ⟨p, 0, none⟩), .agg (ndA x (ma, x.mat.length, mc) (na, x.names.length, nc))] W0 (TkQ p st x W0) := by
  have g0 := World.grownBy_alloc W0 (.cells (ndA x (ma, x.mat.length, mc) (na, x.names.length, nc)) 37) none
  have G0 := hid g0
  have HB := hid (heap_alloc_new W0 (.cells (ndA x (ma, x.mat.length, mc) (na, x.names.length, nc)) 37))
  have hsz := size_alloc W0 (.cells (ndA x (ma, x.mat.length, mc) (na, x.names.length, nc)) 37)
  have HZ : Hid (W0.heap.size < (W0.alloc (.cells (ndA x (ma, x.mat.length, mc) (na, x.names.length, nc)) 37)).heap.size) := by show _ < _; omega
  have GD := hid (gb_drew (World.grownBy.refl (W0.alloc (.cells (ndA x (ma, x.mat.length, mc) (na, x.names.length, nc)) 37)) none))
  have HFM := hid (f_hasForm (x, (ma, x.mat.length, mc), (na, x.names.length, nc)) _ (hq.grown (g0.trans GD.out)))
  have HST : Hid (∀ W, (W0.alloc (.cells (ndA x (ma, x.mat.length, mc) (na, x.names.length, nc)) 37)).grownBy W none → StAt W p a c st) := fun W hg => h.grown (g0.trans hg)
  have HC : Hid (codeT st x = 190) := by show _ = _; unfold codeT; rw [if_pos (.inr hp)]
  have hd : decide ((st.length : Int) < x.parts) = true := by simpa using hp
  simp only [hf] at HFM
  clear h hq g0 hsz hf hp
  unfold ndA slV at *
  try dsimp only at *
  go_enter Tryz.func20, Tryz.ntmps20
  go_upto_region 1 with fail
  refine wp_region_held_drew (S := fun V => (W0.alloc (.cells #[.int .i64 x.kind, .int .i64 x.op, .string x.text, .slice ma x.mat.length mc, .int .i64 x.width, .int .i64 x.back, .int .i64 x.group, .slice na x.names.length nc, .bool x.bool, .int .i64 x.parts] 37)).grownBy V none) (by kernel_rfl) GD.out (fun hHeld => ?_)
  refine wpAnyH_take (i := 0) (v := .agg #[.int .i64 x.kind, .int .i64 x.op, .string x.text, .slice ma x.mat.length mc, .int .i64 x.width, .int .i64 x.back, .int .i64 x.group, .slice na x.names.length nc, .bool x.bool, .int .i64 x.parts]) rfl (by kernel_rfl) (by kernel_rfl) (by kernel_rfl) (fun _ _ _ h => h) (Or.inl ⟨by kernel_rfl, fun w hSw => ?_⟩) (by assumption) ?_
  · obtain ⟨c0, c1, c2, c3, c4, c5, c6, c7, c8, c9⟩ := nx_cells ((hSw.block W0.heap.size HZ.out (by simp)).trans HB.out); go_simp
  (try simp (maxSteps := 10000000) only [Act.put, List.getElem_toArray, List.getElem_cons_succ, List.getElem_cons_zero]); (try simp (maxSteps := 10000000) only [List.setIfInBounds_toArray]); (try simp (maxSteps := 10000000) only [List.set_cons_succ]); (try simp (maxSteps := 10000000) only [List.set_cons_zero])
  refine wpAnyH_ready (rs := [1]) (by kernel_rfl) (by simp) (AllReadyH.cons (i := 1) rfl (fun K9 hK => ?_) AllReadyH.nil)
  go_simp
  refine (HFM.out).mono ?_
  rintro e w1 ⟨rfl, hg⟩
  have s1 := GD.out.trans hg
  clear hg
  refine hK.out _ _ s1 (fun hHeld => ?_)
  clear hK K9 hHeld
  (try simp (maxSteps := 10000000) only [Act.put, List.getElem_toArray, List.getElem_cons_succ, List.getElem_cons_zero]); (try simp (maxSteps := 10000000) only [List.setIfInBounds_toArray]); (try simp (maxSteps := 10000000) only [List.set_cons_succ]); (try simp (maxSteps := 10000000) only [List.set_cons_zero])
  refine wpAnyH_take (i := 2) (v := .bool false) rfl (by kernel_rfl) (by kernel_rfl) (by kernel_rfl) (fun _ _ _ h => h) (Or.inl ⟨by kernel_rfl, fun w hSw => ?_⟩) (by assumption) ?_
  · go_simp
  (try simp (maxSteps := 10000000) only [Act.put, List.getElem_toArray, List.getElem_cons_succ, List.getElem_cons_zero]); (try simp (maxSteps := 10000000) only [List.setIfInBounds_toArray]); (try simp (maxSteps := 10000000) only [List.set_cons_succ]); (try simp (maxSteps := 10000000) only [List.set_cons_zero])
  refine wpAnyH_take (i := 3) (v := .bool false) rfl (by kernel_rfl) (by kernel_rfl) (by kernel_rfl) (fun _ _ _ h => h) (Or.inl ⟨by kernel_rfl, fun w hSw => ?_⟩) (by assumption) ?_
  · go_simp
  (try simp (maxSteps := 10000000) only [Act.put, List.getElem_toArray, List.getElem_cons_succ, List.getElem_cons_zero]); (try simp (maxSteps := 10000000) only [List.setIfInBounds_toArray]); (try simp (maxSteps := 10000000) only [List.set_cons_succ]); (try simp (maxSteps := 10000000) only [List.set_cons_zero])
  refine wpAnyH_take (i := 4) (v := .pointer (some ⟨W0.heap.size, 9, none⟩)) rfl (by kernel_rfl) (by kernel_rfl) (by kernel_rfl) (fun _ _ _ h => h) (Or.inl ⟨by kernel_rfl, fun w hSw => ?_⟩) (by assumption) ?_
  · go_simp
  (try simp (maxSteps := 10000000) only [Act.put, List.getElem_toArray, List.getElem_cons_succ, List.getElem_cons_zero]); (try simp (maxSteps := 10000000) only [List.setIfInBounds_toArray]); (try simp (maxSteps := 10000000) only [List.set_cons_succ]); (try simp (maxSteps := 10000000) only [List.set_cons_zero])
  refine wpAnyH_take (i := 5) (v := .int .i64 x.parts) rfl (by kernel_rfl) (by kernel_rfl) (by kernel_rfl) (fun _ _ _ h => h) (Or.inl ⟨by kernel_rfl, fun w hSw => ?_⟩) (by assumption) ?_
  · obtain ⟨c0, c1, c2, c3, c4, c5, c6, c7, c8, c9⟩ := nx_cells ((hSw.block W0.heap.size HZ.out (by simp)).trans HB.out); go_simp
  (try simp (maxSteps := 10000000) only [Act.put, List.getElem_toArray, List.getElem_cons_succ, List.getElem_cons_zero]); (try simp (maxSteps := 10000000) only [List.setIfInBounds_toArray]); (try simp (maxSteps := 10000000) only [List.set_cons_succ]); (try simp (maxSteps := 10000000) only [List.set_cons_zero])
  refine wpAnyH_take (i := 6) (v := .pointer (some ⟨p, 0, none⟩)) rfl (by kernel_rfl) (by kernel_rfl) (by kernel_rfl) (fun _ _ _ h => h) (Or.inl ⟨by kernel_rfl, fun w hSw => ?_⟩) (by assumption) ?_
  · go_simp
  (try simp (maxSteps := 10000000) only [Act.put, List.getElem_toArray, List.getElem_cons_succ, List.getElem_cons_zero]); (try simp (maxSteps := 10000000) only [List.setIfInBounds_toArray]); (try simp (maxSteps := 10000000) only [List.set_cons_succ]); (try simp (maxSteps := 10000000) only [List.set_cons_zero])
  refine wpAnyH_take (i := 7) (v := .pointer (some ⟨p, 0, none⟩)) rfl (by kernel_rfl) (by kernel_rfl) (by kernel_rfl) (fun _ _ _ h => h) (Or.inl ⟨by kernel_rfl, fun w hSw => ?_⟩) (by assumption) ?_
  · go_simp
  (try simp (maxSteps := 10000000) only [Act.put, List.getElem_toArray, List.getElem_cons_succ, List.getElem_cons_zero]); (try simp (maxSteps := 10000000) only [List.setIfInBounds_toArray]); (try simp (maxSteps := 10000000) only [List.set_cons_succ]); (try simp (maxSteps := 10000000) only [List.set_cons_zero])
  refine wpAnyH_take (i := 8) (v := .slice a st.length c) rfl (by kernel_rfl) (by kernel_rfl) (by kernel_rfl) (fun _ _ _ h => h) (Or.inl ⟨by kernel_rfl, fun w hSw => ?_⟩) (by assumption) ?_
  · have x9 := (HST.out _ hSw).cell; go_simp
  (try simp (maxSteps := 10000000) only [Act.put, List.getElem_toArray, List.getElem_cons_succ, List.getElem_cons_zero]); (try simp (maxSteps := 10000000) only [List.setIfInBounds_toArray]); (try simp (maxSteps := 10000000) only [List.set_cons_succ]); (try simp (maxSteps := 10000000) only [List.set_cons_zero])
  refine wpAnyH_take (i := 9) (v := .int .i64 (st.length : Int)) rfl (by kernel_rfl) (by kernel_rfl) (by kernel_rfl) (fun _ _ _ h => h) (Or.inl ⟨by kernel_rfl, fun w hSw => ?_⟩) (by assumption) ?_
  · go_simp
  (try simp (maxSteps := 10000000) only [Act.put, List.getElem_toArray, List.getElem_cons_succ, List.getElem_cons_zero]); (try simp (maxSteps := 10000000) only [List.setIfInBounds_toArray]); (try simp (maxSteps := 10000000) only [List.set_cons_succ]); (try simp (maxSteps := 10000000) only [List.set_cons_zero])
  refine wpAnyH_take (i := 10) (v := .bool true) rfl (by kernel_rfl) (by kernel_rfl) (by kernel_rfl) (fun _ _ _ h => h) (Or.inl ⟨by kernel_rfl, fun w hSw => ?_⟩) (by assumption) ?_
  · go_simp
  (try simp (maxSteps := 10000000) only [Act.put, List.getElem_toArray, List.getElem_cons_succ, List.getElem_cons_zero]); (try simp (maxSteps := 10000000) only [List.setIfInBounds_toArray]); (try simp (maxSteps := 10000000) only [List.set_cons_succ]); (try simp (maxSteps := 10000000) only [List.set_cons_zero])
  refine wpAnyH_take (i := 11) (v := .bool true) rfl (by kernel_rfl) (by kernel_rfl) (by kernel_rfl) (fun _ _ _ h => h) (Or.inl ⟨by kernel_rfl, fun w hSw => ?_⟩) (by assumption) ?_
  · go_simp
  (try simp (maxSteps := 10000000) only [Act.put, List.getElem_toArray, List.getElem_cons_succ, List.getElem_cons_zero]); (try simp (maxSteps := 10000000) only [List.setIfInBounds_toArray]); (try simp (maxSteps := 10000000) only [List.set_cons_succ]); (try simp (maxSteps := 10000000) only [List.set_cons_zero])
  refine wpAnyH_done (by kernel_rfl) ?_ _
  go_wp2
  go_ret
  exact ⟨ret_int (by rw [HC.out]), a, c, by rw [HC.out]; exact HST.out _ s1, Fr.of (G0.out.trans s1)⟩
end Go.Proofs.YthbodkgcbfplgaaGreat
