/- A pattern made ready: its alternatives, each cut at its stars. -/
import Derived.Test.YtpabbmiibehfjaaGreatDoorMtRseq
import Derived.Maps.AppendAt
import Derived.RangeFuncBox
namespace Go.Proofs.YtpabbmiibehfjaaGreatDoor.Mt
open Go.RowKit
set_option linter.unusedVariables false
attribute [local go_sem] Oper.semAt_some

theorem info147 : (Tryz.prog.info? 147).map (fun i => (i.zero, i.size, i.bytes)) = some (some (.slice none 0 0), 1, 24) := by kernel_rfl
/-- One alternative, as it lies: the pieces' slice. -/
def pieces (a : ByteArray) : List ByteArray := (sp 42 a.data.toList).map mkB

theorem pieces_eq (a : ByteArray) : Lib.splitB ⟨#[42]⟩ 0 (Lib.countB a ⟨#[42]⟩) a = pieces a := by
  have h := Lib.splitB_data ⟨#[42]⟩ 0 (Lib.countB a ⟨#[42]⟩) a
  have h2 : Lib.splitK [42] 0 (Lib.countB a ⟨#[42]⟩) a.data.toList = sp 42 a.data.toList := split_sp 42 _
  have h3 : (Lib.splitB ⟨#[42]⟩ 0 (Lib.countB a ⟨#[42]⟩) a).map (·.data.toList) = sp 42 a.data.toList := h.trans h2
  unfold pieces
  rw [← h3, List.map_map]
  conv => lhs; rw [← List.map_id (Lib.splitB ⟨#[42]⟩ 0 (Lib.countB a ⟨#[42]⟩) a)]
  refine List.map_congr_left fun x _ => ?_
  exact (mkB_data x).symm
theorem pieces_len (a : ByteArray) : Lib.countB a ⟨#[42]⟩ + 1 = (pieces a).length := by
  rw [← pieces_eq]
  exact (Lib.splitB_all ⟨#[42]⟩ (by decide) 0 _ a rfl).symm
/-- strings.Split at a star. -/
theorem split_star (a : ByteArray) (mx : Int) (w : World) (ha : a.size ≤ 2147483648) (hm : w.cell? ⟨0, 0, none⟩ = some (.int .i64 mx)) :
    Calls Tryz.prog 101 #[.string a, .string ⟨#[42]⟩] w fun e w' => e = .returned (.slice (some ⟨w.heap.size, 0, none⟩) (pieces a).length (pieces a).length) ∧ w.alloc (.cells ((pieces a).map Value.string).toArray 9) = w' := by
  refine (Tryz.strings_Split a ⟨#[42]⟩ mx w (by omega) hm (by decide)).mono ?_
  rintro e w' ⟨rfl, rfl⟩
  rw [pieces_eq, pieces_len]
  exact ⟨rfl, rfl⟩

theorem sp_len (c : UInt8) (l : List UInt8) : ∀ a ∈ sp c l, a.length ≤ l.length := by
  induction l with
  | nil => intro a ha; simp [sp] at ha; simp [ha]
  | cons b l ih =>
    rw [sp]
    split
    · intro a ha
      rcases List.mem_cons.1 ha with rfl | ha
      · simp
      · have := ih a ha; simp; omega
    · split
      · rename_i e; exact absurd e (sp_ne c l)
      · rename_i a r e
        rw [e] at ih
        intro x hx
        rcases List.mem_cons.1 hx with rfl | hx
        · have := ih a (by simp); simp; omega
        · have := ih x (by simp [hx]); simp; omega
theorem mkB_size (l : List UInt8) : (mkB l).size = l.length := by simp [mkB, ByteArray.size]
theorem pcs_size (p : ByteArray) : ∀ x ∈ pcs p, x.size ≤ p.size := by
  intro x hx
  obtain ⟨a, ha, rfl⟩ := List.mem_map.1 hx
  rw [mkB_size, Lib.size_eq]
  exact sp_len _ _ a ha
/-- append at one operation of a region, its run given. -/
theorem wpIn_append_eq {F : Fence} {n : Nat} {P : Program} (w : World) {o : Oper} {a : Act} {K : Act → World → Prop} {Q : Exit → Act → World → Prop} (s x : Operand) (t : TypeId)
    (hop : o.op = Op.call { callee := Callee.builtin Builtin.append, args := #[s, x], argTypes := #[t, t] }) (u v r : Value) {w' : World} (hs : a.eval s = u) (hx : a.eval x = v)
    (hrun : (Builtin.append_ #[t, t] o.type #[u, v]).run P w = .ok r w') (hK : K (a.put o.dst r) w') : Oper.wpIn F n P o a w K Q := by
  unfold Oper.wpIn
  refine ⟨?_, ?_⟩
  · simp [Oper.about, hop, resolve, Target.leads, Sem.run_pure]
  · rw [Oper.semAt_plain F _ _ (by rw [hop]; intro c hc'; cases hc')]
    simp [execOp, hop, resolve, invoke, builtin, hs, hx, hrun, Result.andThen]
    exact hK

/-- The alternatives' slices and their pieces, in blocks from B on. -/
def AltsIn (B : Nat) (W : World) : List Value → List ByteArray → Prop
  | [], [] => True
  | v :: vs, a :: az => (∃ b, B ≤ b ∧ v = .slice (some ⟨b, 0, none⟩) (pieces a).length (pieces a).length ∧ W.heap[b]? = some (.cells ((pieces a).map Value.string).toArray 9 (0, 0))) ∧ AltsIn B W vs az
  | [], _ :: _ => False
  | _ :: _, [] => False
theorem AltsIn.kept {B : Nat} {W W' : World} {row : Option Nat} (hg : W.grownBy W' row) (hr : ∀ k, row = some k → k < B ∨ ∃ o : Obj, W.heap[k]? = some o ∧ o.isCells = false) : ∀ {vs : List Value} {az : List ByteArray}, AltsIn B W vs az → AltsIn B W' vs az
  | [], [], _ => trivial
  | v :: vs, a :: az, ⟨⟨b, hb, hv, hc⟩, h⟩ => by
    refine ⟨⟨b, hb, hv, ?_⟩, AltsIn.kept hg hr h⟩
    refine (hg.block b (Array.getElem?_eq_some_iff.1 hc).1 (fun e => ?_)).trans hc
    rcases hr b e.symm with h1 | ⟨o, ho, hn⟩
    · omega
    · rw [hc] at ho; cases ho; cases hn
theorem AltsIn.snoc {B : Nat} {W : World} {v : Value} {a : ByteArray} (hn : ∃ b, B ≤ b ∧ v = .slice (some ⟨b, 0, none⟩) (pieces a).length (pieces a).length ∧ W.heap[b]? = some (.cells ((pieces a).map Value.string).toArray 9 (0, 0))) : ∀ {vs : List Value} {az : List ByteArray}, AltsIn B W vs az → AltsIn B W (vs ++ [v]) (az ++ [a])
  | [], [], _ => ⟨hn, trivial⟩
  | v :: vs, a :: az, ⟨h0, h⟩ => ⟨h0, AltsIn.snoc hn h⟩
theorem rowKept {W W' : World} {row : Option Nat} {base g n cap : Nat} {vs : List Value} (h : W.ownsRow base 147 1 (.slice (some ⟨g, 0, none⟩) n cap) n vs) (hg : W.grownBy W' row) (hne : some g ≠ row) : W'.ownsRow base 147 1 (.slice (some ⟨g, 0, none⟩) n cap) n vs := by
  obtain ⟨h1, h2 | ⟨g', cap', cur, e, hb, hc, rest⟩⟩ := h
  · cases h2.1
  · cases e
    exact ⟨h1, .inr ⟨_, _, cur, rfl, hb, (hg.block _ (Array.getElem?_eq_some_iff.1 hc).1 hne).trans hc, rest⟩⟩
theorem row_lt {W : World} {base g n cap : Nat} {vs : List Value} (h : W.ownsRow base 147 1 (.slice (some ⟨g, 0, none⟩) n cap) n vs) : g < W.heap.size := by
  obtain ⟨h1, h2 | ⟨g', cap', cur, e, hb, hc, rest⟩⟩ := h
  · cases h2.1
  · cases e; exact (Array.getElem?_eq_some_iff.1 hc).1
/-- What the loop has done so far. -/
def CI (w : World) (B0 C : Nat) (pre : List ByteArray) (W : World) : Prop :=
  (∃ vs, W.ownsRow w.heap.size 147 1 (.slice (some ⟨w.heap.size, 0, none⟩) pre.length (C + 1)) pre.length vs ∧ AltsIn (B0 + 4) W vs pre) ∧ Boxed W B0 115 (.slice (some ⟨w.heap.size, 0, none⟩) pre.length (C + 1)) ∧ Below w.heap.size w W
theorem CI.step {w : World} {B0 C : Nat} {pre : List ByteArray} {W W' : World} {row : Option Nat} (h : CI w B0 C pre W) (hB : w.heap.size < B0) (hg : W.grownBy W' row) (h1 : some w.heap.size ≠ row) (h2 : some B0 ≠ row) (h3 : ∀ k, row = some k → w.heap.size ≤ k)
    (h4 : ∀ k, row = some k → k < B0 + 4 ∨ ∃ o : Obj, W.heap[k]? = some o ∧ o.isCells = false) : CI w B0 C pre W' := by
  obtain ⟨⟨vs, hr, ha⟩, hb, hl⟩ := h
  exact ⟨⟨vs, rowKept hr hg h1, ha.kept hg h4⟩, hb.kept hg h2, hl.grown hg hl.size h3⟩

set_option maxRecDepth 100000 in
set_option maxHeartbeats 2000000 in
theorem r_compile (p : ByteArray) (mx : Int) (w : World) (hp : p.size ≤ 2147483648) (hm : w.cell? ⟨0, 0, none⟩ = some (.int .i64 mx)) (h00 : 0 < w.heap.size) :
    Calls Tryz.prog 85 #[.string p] w fun e w' => ∃ B0 vs C, w.heap.size < B0 ∧ e = .returned (.slice (some ⟨w.heap.size, 0, none⟩) (pcs p).length (C + 1)) ∧ w'.ownsRow w.heap.size 147 1 (.slice (some ⟨w.heap.size, 0, none⟩) (pcs p).length (C + 1)) (pcs p).length vs ∧ AltsIn (B0 + 4) w' vs (pcs p) ∧ w.grownBy w' none := by
  obtain ⟨i0, hi, hz0, hz1, hz2⟩ := info_parts info147
  have HCB : Hid (Lib.countByte p.data.toList 124 + 1 = (pcs p).length) := by show _ = _; unfold Lib.countByte pcs; rw [List.length_map]; exact count_sp 124 _
  have hcl : Lib.countByte p.data.toList 124 ≤ p.size := by rw [Lib.size_eq]; exact List.count_le_length
  have HC0 : Hid (∀ w, Calls Tryz.prog 99 #[.string p, .string ⟨#[124]⟩] w fun e w' => e = .returned (.int .i64 (Lib.countByte p.data.toList 124)) ∧ w = w') := fun w => (Tryz.strings_Count_one p 124 w).mono fun e w' ⟨he, hw⟩ => ⟨he, hw.symm⟩
  generalize Lib.countByte p.data.toList 124 = C at HCB hcl HC0
  have HSP : Hid (∀ a w, a.size ≤ 2147483648 → w.cell? ⟨0, 0, none⟩ = some (.int .i64 mx) → Calls Tryz.prog 101 #[.string a, .string ⟨#[42]⟩] w fun e w' => e = .returned (.slice (some ⟨w.heap.size, 0, none⟩) (pieces a).length (pieces a).length) ∧ w.alloc (.cells ((pieces a).map Value.string).toArray 9) = w') := fun a w ha hw => split_star a mx w ha hw
  have HM : Hid (w.cell? ⟨0, 0, none⟩ = some (.int .i64 mx)) := hm
  clear hm
  refine (callsIn_wide (n := 9)).1 (callsIn_of_wp_marks Tryz.func85 rfl trivial ?_ rfl)
  simp only [Tryz.ntmps85, List.size_toArray, List.length_cons, List.length_nil, Nat.reduceAdd, Nat.reduceSub, Array.replicate_succ, Array.replicate_zero, List.push_toArray, List.append_toArray, List.nil_append, List.cons_append]
  refine wpIn_wide.2 ?_
  go_wp2_with (first
    | (go_at_call 99; refine (HC0.out _).mono ?_; rintro e w' ⟨rfl, rfl⟩)
    | (at_make; refine wpList_make_own _ rfl (.const (.int .i64 0)) (.tmp 7) 115 rfl w.heap.size 147 i0 (.slice none 0 0) 1 Tryz.underlying115 hi hz0 hz1 .i64 .i64 _ (C + 1) rfl rfl (by go_num) (by rw [hz2]; omega) (by simp [maxLen]; omega) (Nat.le_refl _) ?_; intro w1 hown1 hgrow1)
    | (go_at_call 100; refine (splitSeq_in _ _).mono ?_; rintro e w' ⟨rfl, rfl⟩))
  have hlt1 := row_lt hown1
  obtain ⟨B0, hB0⟩ : ∃ B0, B0 = w1.heap.size := ⟨_, rfl⟩
  obtain ⟨WS, hWS⟩ : ∃ WS, ((((w1.alloc (Obj.cells #[Value.slice (some { block := w.heap.size, off := 0 }) 0 (C + 1)] 115)).alloc (Obj.cells #[Value.string p] 9)).alloc (Obj.cells #[Value.string { data := #[124] }] 9)).alloc (Obj.cells #[Value.int IntKind.i64 0] 3)) = WS := ⟨_, rfl⟩
  rw [hWS, ← hB0]
  have hsz : WS.heap.size = B0 + 4 := by rw [← hWS, hB0]; simp
  have q0 : Boxed WS B0 115 (.slice (some ⟨w.heap.size, 0, none⟩) 0 (C + 1)) := by rw [← hWS, hB0]; exact (((Boxed.new w1 _ _).alloc _).alloc _).alloc _
  have q1 : Boxed WS (B0 + 1) 9 (.string p) := by
    rw [← hWS, hB0]; have := Boxed.new (w1.alloc (Obj.cells #[Value.slice (some { block := w.heap.size, off := 0 }) 0 (C + 1)] 115)) 9 (.string p); rw [World.size_alloc] at this; exact (this.alloc _).alloc _
  have q2 : Boxed WS (B0 + 2) 9 (.string ⟨#[124]⟩) := by
    rw [← hWS, hB0]; have := Boxed.new ((w1.alloc (Obj.cells #[Value.slice (some { block := w.heap.size, off := 0 }) 0 (C + 1)] 115)).alloc (Obj.cells #[Value.string p] 9)) 9 (.string ⟨#[124]⟩); rw [World.size_alloc, World.size_alloc] at this; exact this.alloc _
  have q3 : Boxed WS (B0 + 3) 3 (.int .i64 0) := by
    rw [← hWS, hB0]; have := Boxed.new (((w1.alloc (Obj.cells #[Value.slice (some { block := w.heap.size, off := 0 }) 0 (C + 1)] 115)).alloc (Obj.cells #[Value.string p] 9)).alloc (Obj.cells #[Value.string { data := #[124] }] 9)) 3 (.int .i64 0); rw [World.size_alloc, World.size_alloc, World.size_alloc] at this; exact this
  have hgS : w1.grownBy WS none := by rw [← hWS]; exact (((World.grownBy_alloc w1 _ none).trans (World.grownBy_alloc _ _ none)).trans (World.grownBy_alloc _ _ none)).trans (World.grownBy_alloc _ _ none)
  have hgW : w.grownBy WS none := hgrow1.trans hgS
  have hbel : Below w.heap.size w WS := (Below.refl _ w).grown hgW (Nat.le_refl _) (by simp)
  have HQ : Hid (Boxed WS (B0 + 1) 9 (.string p) ∧ Boxed WS (B0 + 2) 9 (.string ⟨#[124]⟩) ∧ Boxed WS (B0 + 3) 3 (.int .i64 0)) := ⟨q1, q2, q3⟩
  have HI0 : Hid (CI w B0 C [] WS) := ⟨⟨[], rowKept hown1 hgS (by simp), trivial⟩, q0, hbel⟩
  have hwB : w.heap.size < B0 := by omega
  clear hown1 hgrow1 hWS q0 q1 q2 q3 hgS hgW hbel hlt1 hB0
  refine (wpIn_wide (n := 9)).1 ?_
  refine range_st (gf := 125) (lb := #[.pointer (some ⟨B0 + 2, 0, none⟩), .pointer (some ⟨B0 + 1, 0, none⟩), .pointer (some ⟨B0 + 3, 0, none⟩)]) rfl (enters_of Tryz.func125 (by kernel_rfl) rfl) (fun x : ByteArray => #[.string x]) (fun _ => rfl)
    (B0 + 1) (by omega) (fun k => k = w.heap.size ∨ k = B0) (pcs p) ?seq (CI w B0 C) ?own ?set HI0.out
    (fun x => { tmps := #[.string p, undef, .slice none 0 0, .pointer (some ⟨B0, 0, none⟩), .string x, .string p, .int .i64 C, .int .i64 (C + 1), .slice (some ⟨w.heap.size, 0, none⟩) 0 (C + 1), .string p, .func (.func 125) #[] #[.pointer (some ⟨B0 + 2, 0, none⟩), .pointer (some ⟨B0 + 1, 0, none⟩), .pointer (some ⟨B0 + 3, 0, none⟩)], .string x, undef, undef, undef, undef, undef, undef], defers := [] })
    ?assign ?body ?done
  case seq =>
    intro l J W hW hJs hY h0
    have hWc : Below w.heap.size w W := HI0.out.2.2.trans (hW.mono (by omega))
    exact seq_in 8 l (B0 + 1) WS.heap.size _ J p mx W (by omega) (by omega) (by omega) (by omega) (by omega) (by omega) hJs hY ((hW.block _ (by omega)).trans HQ.out.1) ((hW.block _ (by omega)).trans HQ.out.2.1) ((hW.block _ (by omega)).trans HQ.out.2.2) ((hWc.cell (p := ⟨0, 0, none⟩) h00).trans HM.out) hp h0
  case own =>
    intro pre A A' row hs hg hr
    exact hs.step hwB hg (fun e => by have := (hr _ e.symm).1; omega) (fun e => by have := (hr _ e.symm).1; omega) (fun k e => by have := (hr _ e).1; omega) (fun k e => .inr (hr k e).2)
  case set =>
    intro pre W v h
    exact h.step hwB (grownBy_setCell' W (B0 + 1) v) (fun e => by have := Option.some.inj e; omega) (fun e => by have := Option.some.inj e; omega) (fun k e => by have := Option.some.inj e; omega) (fun k e => by have := Option.some.inj e; left; omega)
  case assign =>
    intro l x W K hK
    gi_wp2
    exact hK
  case body =>
    intro l pre x W hsz2 hI hpre
    obtain ⟨⟨vs, hrow, halts⟩, hbox, hbw⟩ := hI
    have hc := hbox.cell
    have hf := hbox.frozen
    have hxs : x.size ≤ 2147483648 := by have := pcs_size p x (hpre.subset (by simp)); omega
    have HSx : Hid (∀ W', W'.cell? ⟨0, 0, none⟩ = some (.int .i64 mx) → CallsIn (Fence.wide.inRound l) 6 Tryz.prog 101 #[.string x, .string ⟨#[42]⟩] W' fun e w' => e = .returned (.slice (some ⟨W'.heap.size, 0, none⟩) (pieces x).length (pieces x).length) ∧ W'.alloc (.cells ((pieces x).map Value.string).toArray 9) = w') := fun W' hW' => CallsIn.inRound l (callsIn_wide.2 (HSP.out x W' hxs hW'))
    have hmW : W.cell? ⟨0, 0, none⟩ = some (.int .i64 mx) := (hbw.cell (p := ⟨0, 0, none⟩) h00).trans HM.out
    have HMW : Hid (W.cell? ⟨0, 0, none⟩ = some (.int .i64 mx)) := hmW
    have hlW := hbox.lt
    have hc1 : ∀ o, (W.alloc o).cell? ⟨B0, 0, none⟩ = some (.slice (some ⟨w.heap.size, 0, none⟩) pre.length (C + 1)) := fun o => (hbox.alloc o).cell
    have hc2 : ∀ o o', ((W.alloc o).alloc o').cell? ⟨B0, 0, none⟩ = some (.slice (some ⟨w.heap.size, 0, none⟩) pre.length (C + 1)) := fun o o' => ((hbox.alloc o).alloc o').cell
    have HR : Hid (W.ownsRow w.heap.size 147 1 (.slice (some ⟨w.heap.size, 0, none⟩) pre.length (C + 1)) pre.length vs) := hrow
    have HA : Hid (AltsIn (B0 + 4) W vs pre) := halts
    have HBx : Hid (Boxed W B0 115 (.slice (some ⟨w.heap.size, 0, none⟩) pre.length (C + 1))) := hbox
    have HBw : Hid (Below w.heap.size w W) := hbw
    have hpl : pre.length + 1 ≤ C + 1 := by rw [HCB.out]; have := hpre.length_le; simpa using this
    clear hrow halts hbox hbw hmW
    have mixed : Tryz.prog.follows Departure.mixedOrders = true := by kernel_rfl
    have hfw : Fence.wide.fn 37 := trivial
    obtain ⟨O1, hO1⟩ : ∃ O1, O1 = Obj.cells ((pieces x).map Value.string).toArray 9 := ⟨_, rfl⟩
    obtain ⟨O2, hO2⟩ : ∃ O2, O2 = Obj.cells #[Value.slice (some ⟨W.heap.size, 0, none⟩) (pieces x).length (pieces x).length] 147 := ⟨_, rfl⟩
    obtain ⟨w4, hrun4, hown4, hgrow4⟩ := run_append_fits (P := Tryz.prog) (((W.alloc O1).alloc O2).drew) w.heap.size 115 115 147 i0 1 Tryz.underlying115 hi hz1 w.heap.size pre.length (C + 1) vs ((HR.out.alloc _).alloc _).drew ⟨W.heap.size + 1, 0, none⟩ 1 1 [.slice (some ⟨W.heap.size, 0, none⟩) (pieces x).length (pieces x).length] rfl
      (by have := cell_one_new (W.alloc O1) (.slice (some ⟨W.heap.size, 0, none⟩) (pieces x).length (pieces x).length) 147; rw [← hO2, World.size_alloc] at this; exact this) (by simp [Value.oneCell']) hpl
    have hb4 : Boxed w4 B0 115 (.slice (some ⟨w.heap.size, 0, none⟩) pre.length (C + 1)) := Boxed.kept (W := ((W.alloc O1).alloc O2).drew) ((HBx.out.alloc O1).alloc O2) hgrow4 (fun e => by have := Option.some.inj e; omega)
    have HB4 : Hid (Boxed w4 B0 115 (.slice (some ⟨w.heap.size, 0, none⟩) pre.length (C + 1))) := hb4
    have HO4 : Hid (w4.ownsRow w.heap.size 147 1 (.slice (some ⟨w.heap.size, 0, none⟩) (pre.length + 1) (C + 1)) (pre.length + 1) (vs ++ [.slice (some ⟨W.heap.size, 0, none⟩) (pieces x).length (pieces x).length])) := hown4
    have HG4 : Hid ((((W.alloc O1).alloc O2).drew).grownBy w4 (some w.heap.size)) := hgrow4
    have hc4 := hb4.cell
    have hf4 := hb4.frozen
    have HE : Hid (O1 = Obj.cells ((pieces x).map Value.string).toArray 9) := hO1
    have hO1' := hO1
    have hO2' := hO2
    rw [hO1, hO2] at hrun4
    clear hown4 hgrow4 hb4 hO1 hO2
    clear hO1' hO2'
    have fin : KeepsFrom WS.heap.size W (w4.setCell ⟨B0, 0, none⟩ (.slice (some ⟨w.heap.size, 0, none⟩) (pre.length + 1) (C + 1))) ∧ KeptBut WS.heap.size (fun k => k = w.heap.size ∨ k = B0) W (w4.setCell ⟨B0, 0, none⟩ (.slice (some ⟨w.heap.size, 0, none⟩) (pre.length + 1) (C + 1))) ∧ CI w B0 C (pre ++ [x]) (w4.setCell ⟨B0, 0, none⟩ (.slice (some ⟨w.heap.size, 0, none⟩) (pre.length + 1) (C + 1))) := by
      have gA0 : W.grownBy ((W.alloc O1).alloc O2) none := (World.grownBy_alloc W O1 none).trans (World.grownBy_alloc _ O2 none)
      have gA : W.grownBy (((W.alloc O1).alloc O2).drew) none := ⟨gA0.os, gA0.tape, gA0.output, gA0.size, gA0.block⟩
      have gB := HG4.out
      have gC := grownBy_setCell' w4 B0 (.slice (some ⟨w.heap.size, 0, none⟩) (pre.length + 1) (C + 1))
      have z4 := gB.size
      have zA := gA.size
      have nA : ∀ k : Nat, (none : Option Nat) = some k → False := fun k e => by cases e
      have nB : ∀ k, some w.heap.size = some k → k = w.heap.size := fun k e => (Option.some.inj e).symm
      have nC : ∀ k, some B0 = some k → k = B0 := fun k e => (Option.some.inj e).symm
      refine ⟨((KeepsFrom.of_grownBy gA (fun j e => (nA j e).elim)).trans (KeepsFrom.of_grownBy gB (fun j e => by have := nB j e; omega))).trans (KeepsFrom.of_grownBy gC (fun j e => by have := nC j e; omega)), ?_, ?_⟩
      · exact (((KeptBut.refl _ _ W).grown gA hsz2 (fun k e => (nA k e).elim)).grown gB (by omega) (fun k e _ => .inl (nB k e))).grown gC (by omega) (fun k e _ => .inr (nC k e))
      · have hO : w4.heap[W.heap.size]? = some O1 := by
          refine (gB.block _ ?_ (fun e => by have := nB _ e.symm; omega)).trans ?_
          · have : W.heap.size < ((W.alloc O1).alloc O2).heap.size := by simp; omega
            exact this
          · exact (Below.heap_alloc (W.alloc O1) O2 _ (by simp)).trans (World.alloc_heap_new W O1)
        have hO5 := (gC.block W.heap.size (Array.getElem?_eq_some_iff.1 hO).1 (fun e => by have := nC _ e.symm; omega)).trans hO
        rw [HE.out] at hO5
        have hl : (pre ++ [x]).length = pre.length + 1 := by simp
        have ha5 := ((HA.out.kept gA (fun k e => (nA k e).elim)).kept gB (fun k e => by have := nB k e; left; omega)).kept gC (fun k e => by have := nC k e; left; omega)
        refine ⟨⟨_, by rw [hl]; exact rowKept HO4.out gC (fun e => by have := nC _ e.symm; omega), ha5.snoc ⟨W.heap.size, by omega, rfl, hO5⟩⟩, by rw [hl]; exact HB4.out.set _, ?_⟩
        have b1 := HBw.out.grown gA HBw.out.size (fun k e => (nA k e).elim)
        have b2 := b1.grown gB b1.size (fun k e => by have := nB k e; omega)
        exact b2.grown gC b2.size (fun k e => by have := nC k e; omega)
    gi_wp2_with fail
    refine wpIn_region_any mixed ?_
    change wpAnyIn _ _ _ _ _ _ _ _ _ (World.drew _)
    -- MARK A
    refine wpAnyIn_ready (rs := [0, 1]) (by kernel_rfl) (by simp) ?_
    refine AllReadyIn.cons rfl (fun K hK => ?_) (AllReadyIn.cons rfl (fun K hK => ?_) AllReadyIn.nil)
    · go_simp
      refine hK _ _ ?_
      clear hK K
      refine wpAnyIn_ready (rs := [1]) (by kernel_rfl) (by simp) ?_
      refine AllReadyIn.cons rfl (fun K hK => ?_) AllReadyIn.nil
      go_simp
      refine hK _ _ ?_
      clear hK K
      refine wpAnyIn_ready (rs := [2]) (by kernel_rfl) (by simp) ?_
      refine AllReadyIn.cons rfl (fun K hK => ?_) AllReadyIn.nil
      go_simp
      refine ⟨trivial, (HSx.out W.drew HMW.out).mono ?_⟩
      rintro e w' ⟨rfl, rfl⟩
      go_simp
      refine hK _ _ ?_
      clear hK K
      refine wpAnyIn_ready (rs := [3]) (by kernel_rfl) (by simp) ?_
      refine AllReadyIn.cons rfl (fun K hK => ?_) AllReadyIn.nil
      go_simp
      refine hK _ _ ?_
      clear hK K
      refine wpAnyIn_ready (rs := [4]) (by kernel_rfl) (by simp) ?_
      refine AllReadyIn.cons rfl (fun K hK => ?_) AllReadyIn.nil
      rw [if_pos (by kernel_rfl)]
      refine wpIn_append_eq _ (.tmp 12) (.tmp 15) 115 rfl _ _ _ rfl rfl hrun4 ?_
      refine hK _ _ ?_
      clear hK K
      refine wpAnyIn_ready (rs := [5]) (by kernel_rfl) (by simp) ?_
      refine AllReadyIn.cons rfl (fun K hK => ?_) AllReadyIn.nil
      go_simp
      refine hK _ _ ?_
      clear hK K
      refine wpAnyIn_done (by kernel_rfl) ?_ _
      exact fin
    · go_simp
      refine hK _ _ ?_
      clear hK K
      refine wpAnyIn_ready (rs := [0, 2]) (by kernel_rfl) (by simp) ?_
      refine AllReadyIn.cons rfl (fun K hK => ?_) (AllReadyIn.cons rfl (fun K hK => ?_) AllReadyIn.nil)
      · go_simp
        refine hK _ _ ?_
        clear hK K
        refine wpAnyIn_ready (rs := [2]) (by kernel_rfl) (by simp) ?_
        refine AllReadyIn.cons rfl (fun K hK => ?_) AllReadyIn.nil
        go_simp
        refine ⟨trivial, (HSx.out W.drew HMW.out).mono ?_⟩
        rintro e w' ⟨rfl, rfl⟩
        go_simp
        refine hK _ _ ?_
        clear hK K
        refine wpAnyIn_ready (rs := [3]) (by kernel_rfl) (by simp) ?_
        refine AllReadyIn.cons rfl (fun K hK => ?_) AllReadyIn.nil
        go_simp
        refine hK _ _ ?_
        clear hK K
        refine wpAnyIn_ready (rs := [4]) (by kernel_rfl) (by simp) ?_
        refine AllReadyIn.cons rfl (fun K hK => ?_) AllReadyIn.nil
        rw [if_pos (by kernel_rfl)]
        refine wpIn_append_eq _ (.tmp 12) (.tmp 15) 115 rfl _ _ _ rfl rfl hrun4 ?_
        refine hK _ _ ?_
        clear hK K
        refine wpAnyIn_ready (rs := [5]) (by kernel_rfl) (by simp) ?_
        refine AllReadyIn.cons rfl (fun K hK => ?_) AllReadyIn.nil
        go_simp
        refine hK _ _ ?_
        clear hK K
        refine wpAnyIn_done (by kernel_rfl) ?_ _
        exact fin
      · go_simp
        refine ⟨trivial, (HSx.out W.drew HMW.out).mono ?_⟩
        rintro e w' ⟨rfl, rfl⟩
        go_simp
        refine hK _ _ ?_
        clear hK K
        refine wpAnyIn_ready (rs := [0, 3]) (by kernel_rfl) (by simp) ?_
        refine AllReadyIn.cons rfl (fun K hK => ?_) (AllReadyIn.cons rfl (fun K hK => ?_) AllReadyIn.nil)
        · go_simp
          refine hK _ _ ?_
          clear hK K
          refine wpAnyIn_ready (rs := [3]) (by kernel_rfl) (by simp) ?_
          refine AllReadyIn.cons rfl (fun K hK => ?_) AllReadyIn.nil
          go_simp
          refine hK _ _ ?_
          clear hK K
          refine wpAnyIn_ready (rs := [4]) (by kernel_rfl) (by simp) ?_
          refine AllReadyIn.cons rfl (fun K hK => ?_) AllReadyIn.nil
          rw [if_pos (by kernel_rfl)]
          refine wpIn_append_eq _ (.tmp 12) (.tmp 15) 115 rfl _ _ _ rfl rfl hrun4 ?_
          refine hK _ _ ?_
          clear hK K
          refine wpAnyIn_ready (rs := [5]) (by kernel_rfl) (by simp) ?_
          refine AllReadyIn.cons rfl (fun K hK => ?_) AllReadyIn.nil
          go_simp
          refine hK _ _ ?_
          clear hK K
          refine wpAnyIn_done (by kernel_rfl) ?_ _
          exact fin
        · go_simp
          refine hK _ _ ?_
          clear hK K
          refine wpAnyIn_ready (rs := [0]) (by kernel_rfl) (by simp) ?_
          refine AllReadyIn.cons rfl (fun K hK => ?_) AllReadyIn.nil
          go_simp
          refine hK _ _ ?_
          clear hK K
          refine wpAnyIn_ready (rs := [4]) (by kernel_rfl) (by simp) ?_
          refine AllReadyIn.cons rfl (fun K hK => ?_) AllReadyIn.nil
          rw [if_pos (by kernel_rfl)]
          refine wpIn_append_eq _ (.tmp 12) (.tmp 15) 115 rfl _ _ _ rfl rfl hrun4 ?_
          refine hK _ _ ?_
          clear hK K
          refine wpAnyIn_ready (rs := [5]) (by kernel_rfl) (by simp) ?_
          refine AllReadyIn.cons rfl (fun K hK => ?_) AllReadyIn.nil
          go_simp
          refine hK _ _ ?_
          clear hK K
          refine wpAnyIn_done (by kernel_rfl) ?_ _
          exact fin
    -- MARK B
  case done =>
    intro D W hD hI hK
    obtain ⟨⟨vs, hrow, halts⟩, hbox, hbw⟩ := hI
    have hc := hbox.cell
    have HR : Hid (W.ownsRow w.heap.size 147 1 (.slice (some ⟨w.heap.size, 0, none⟩) (pcs p).length (C + 1)) (pcs p).length vs) := hrow
    have HA : Hid (AltsIn (B0 + 4) W vs (pcs p)) := halts
    have HBw : Hid (Below w.heap.size w W) := hbw
    clear hrow halts hbox hbw
    go_wp2
    have gP := grownBy_putObj' W D (.deferred none)
    have nP : ∀ k, some D = some k → k = D := fun k e => (Option.some.inj e).symm
    have bP := HBw.out.grown gP HBw.out.size (fun k e => by have := nP k e; omega)
    refine ⟨by simp, .inl ⟨_, _, rfl, run_takeDeferred hK, ?_⟩⟩
    exact ⟨_, results_tmp rfl _ _ _, B0, vs, C, hwB, rfl, rowKept HR.out gP (fun e => by have := nP _ e.symm; omega), HA.out.kept gP (fun k e => .inr ⟨.deferred (some []), by rw [nP k e]; exact hK, rfl⟩), ⟨bP.os, bP.tape, bP.output, bP.size, fun k hk _ => bP.block k hk⟩⟩
end Go.Proofs.YtpabbmiibehfjaaGreatDoor.Mt
