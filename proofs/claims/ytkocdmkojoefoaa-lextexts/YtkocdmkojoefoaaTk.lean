/- Lists of tokens, held against one another. -/
import Derived.Test.YtkocdmkojoefoaaBx
namespace Go.Proofs.Ytkocdmkojoefoaa
open Go.ChangeShapes Go.WideShapes Go.ChangeAt Go.RowKit
set_option linter.unusedVariables false
set_option maxRecDepth 20000

theorem neq32 (x0 : Int) (x1 : Int) (x2 : ByteArray) (x3 : Int) (y0 : Int) (y1 : Int) (y2 : ByteArray) (y3 : Int) (w : World) : (binOp .neq 32 (.agg #[.int .i64 x0, .int .i64 x1, .string x2, .int .i64 x3]) (.agg #[.int .i64 y0, .int .i64 y1, .string y2, .int .i64 y3])).run Try.prog w = .ok (.bool (!decide (((x0, x1, x2, x3) : Tok) = (y0, y1, y2, y3)))) w := by
  have h : (Op.equal 32 (.agg #[.int .i64 x0, .int .i64 x1, .string x2, .int .i64 x3]) (.agg #[.int .i64 y0, .int .i64 y1, .string y2, .int .i64 y3])).run Try.prog w = .ok (decide (((x0, x1, x2, x3) : Tok) = (y0, y1, y2, y3))) w := by
    have hf : (Try.prog.fieldsOf 32).toList.map (fun f => (f.type, f.offset)) = [(3, 0), (3, 1), (9, 2), (2, 3)] := by kernel_rfl
    have hn : (Try.prog.fieldsOf 32).toList.all (fun f => f.name != "_") = true := by kernel_rfl
    have hu : Try.prog.underlying 32 = some (.struct (Try.prog.fieldsOf 32)) := by kernel_rfl
    have hp : Try.prog.stoodInHeld 32 = false := by kernel_rfl
    simp only [Op.equal]
    rw [show Op.maxDepth = 9999 + 1 from rfl, run_equalIn_struct w 9999 32 _ _ hu hp]
    generalize (Try.prog.fieldsOf 32).toList = fs at hf hn
    have hl : fs.length = 4 := by simpa using congrArg List.length hf
    obtain ⟨f0, f1, f2, f3, rfl⟩ : ∃ f0 f1 f2 f3, fs = [f0, f1, f2, f3] := by
      match fs, hl with
      | [f0, f1, f2, f3], _ => exact ⟨f0, f1, f2, f3, rfl⟩
    simp only [List.map_cons, List.map_nil, List.cons.injEq, Prod.mk.injEq, and_true] at hf
    simp only [List.all_cons, List.all_nil, Bool.and_true, Bool.and_eq_true, bne_iff_ne] at hn
    obtain ⟨⟨a0, b0⟩, ⟨a1, b1⟩, ⟨a2, b2⟩, ⟨a3, b3⟩⟩ := hf
    have p0 : ∀ (z0 : Int) (z1 : Int) (z2 : ByteArray) (z3 : Int) (w : World), (part 3 #[.int .i64 z0, .int .i64 z1, .string z2, .int .i64 z3] 0).run Try.prog w = .ok (.int .i64 z0) w := fun z0 z1 z2 z3 w => by simp [part, go_sem]
    have p1 : ∀ (z0 : Int) (z1 : Int) (z2 : ByteArray) (z3 : Int) (w : World), (part 3 #[.int .i64 z0, .int .i64 z1, .string z2, .int .i64 z3] 1).run Try.prog w = .ok (.int .i64 z1) w := fun z0 z1 z2 z3 w => by simp [part, go_sem]
    have p2 : ∀ (z0 : Int) (z1 : Int) (z2 : ByteArray) (z3 : Int) (w : World), (part 9 #[.int .i64 z0, .int .i64 z1, .string z2, .int .i64 z3] 2).run Try.prog w = .ok (.string z2) w := fun z0 z1 z2 z3 w => by simp [part, go_sem]
    have p3 : ∀ (z0 : Int) (z1 : Int) (z2 : ByteArray) (z3 : Int) (w : World), (part 2 #[.int .i64 z0, .int .i64 z1, .string z2, .int .i64 z3] 3).run Try.prog w = .ok (.int .i64 z3) w := fun z0 z1 z2 z3 w => by simp [part, go_sem]
    have q0 : ∀ (x y : Int) (w : World), (Op.equalIn 9999 3 (.int .i64 x) (.int .i64 y)).run Try.prog w = .ok (decide (x = y)) w := fun x y w => by rw [run_equalIn_int w 9998 3 .i64 _ x y Try.underlying3]; congr 1
    have q2 : ∀ (x y : ByteArray) (w : World), (Op.equalIn 9999 9 (.string x) (.string y)).run Try.prog w = .ok (decide (x = y)) w := fun x y w => by rw [run_equalIn_string w 9998 9 x y Try.underlying9, str_eq]
    have q3 : ∀ (x y : Int) (w : World), (Op.equalIn 9999 2 (.int .i64 x) (.int .i64 y)).run Try.prog w = .ok (decide (x = y)) w := fun x y w => by rw [run_equalIn_int w 9998 2 .i64 _ x y Try.underlying2]; congr 1
    by_cases e0 : x0 = y0 <;> by_cases e1 : x1 = y1 <;> by_cases e2 : x2 = y2 <;> by_cases e3 : x3 = y3 <;> simp [Op.eqFields, hn.1, hn.2.1, hn.2.2.1, hn.2.2.2, a0, b0, a1, b1, a2, b2, a3, b3, p0, e0, p1, e1, p2, e2, p3, e3, q0, q2, q3]
  simp [binOp, h]
theorem eql32 (x0 : Int) (x1 : Int) (x2 : ByteArray) (x3 : Int) (y0 : Int) (y1 : Int) (y2 : ByteArray) (y3 : Int) (w : World) : (binOp .eql 32 (.agg #[.int .i64 x0, .int .i64 x1, .string x2, .int .i64 x3]) (.agg #[.int .i64 y0, .int .i64 y1, .string y2, .int .i64 y3])).run Try.prog w = .ok (.bool (decide (((x0, x1, x2, x3) : Tok) = (y0, y1, y2, y3)))) w := by
  have h : (Op.equal 32 (.agg #[.int .i64 x0, .int .i64 x1, .string x2, .int .i64 x3]) (.agg #[.int .i64 y0, .int .i64 y1, .string y2, .int .i64 y3])).run Try.prog w = .ok (decide (((x0, x1, x2, x3) : Tok) = (y0, y1, y2, y3))) w := by
    have hf : (Try.prog.fieldsOf 32).toList.map (fun f => (f.type, f.offset)) = [(3, 0), (3, 1), (9, 2), (2, 3)] := by kernel_rfl
    have hn : (Try.prog.fieldsOf 32).toList.all (fun f => f.name != "_") = true := by kernel_rfl
    have hu : Try.prog.underlying 32 = some (.struct (Try.prog.fieldsOf 32)) := by kernel_rfl
    have hp : Try.prog.stoodInHeld 32 = false := by kernel_rfl
    simp only [Op.equal]
    rw [show Op.maxDepth = 9999 + 1 from rfl, run_equalIn_struct w 9999 32 _ _ hu hp]
    generalize (Try.prog.fieldsOf 32).toList = fs at hf hn
    have hl : fs.length = 4 := by simpa using congrArg List.length hf
    obtain ⟨f0, f1, f2, f3, rfl⟩ : ∃ f0 f1 f2 f3, fs = [f0, f1, f2, f3] := by
      match fs, hl with
      | [f0, f1, f2, f3], _ => exact ⟨f0, f1, f2, f3, rfl⟩
    simp only [List.map_cons, List.map_nil, List.cons.injEq, Prod.mk.injEq, and_true] at hf
    simp only [List.all_cons, List.all_nil, Bool.and_true, Bool.and_eq_true, bne_iff_ne] at hn
    obtain ⟨⟨a0, b0⟩, ⟨a1, b1⟩, ⟨a2, b2⟩, ⟨a3, b3⟩⟩ := hf
    have p0 : ∀ (z0 : Int) (z1 : Int) (z2 : ByteArray) (z3 : Int) (w : World), (part 3 #[.int .i64 z0, .int .i64 z1, .string z2, .int .i64 z3] 0).run Try.prog w = .ok (.int .i64 z0) w := fun z0 z1 z2 z3 w => by simp [part, go_sem]
    have p1 : ∀ (z0 : Int) (z1 : Int) (z2 : ByteArray) (z3 : Int) (w : World), (part 3 #[.int .i64 z0, .int .i64 z1, .string z2, .int .i64 z3] 1).run Try.prog w = .ok (.int .i64 z1) w := fun z0 z1 z2 z3 w => by simp [part, go_sem]
    have p2 : ∀ (z0 : Int) (z1 : Int) (z2 : ByteArray) (z3 : Int) (w : World), (part 9 #[.int .i64 z0, .int .i64 z1, .string z2, .int .i64 z3] 2).run Try.prog w = .ok (.string z2) w := fun z0 z1 z2 z3 w => by simp [part, go_sem]
    have p3 : ∀ (z0 : Int) (z1 : Int) (z2 : ByteArray) (z3 : Int) (w : World), (part 2 #[.int .i64 z0, .int .i64 z1, .string z2, .int .i64 z3] 3).run Try.prog w = .ok (.int .i64 z3) w := fun z0 z1 z2 z3 w => by simp [part, go_sem]
    have q0 : ∀ (x y : Int) (w : World), (Op.equalIn 9999 3 (.int .i64 x) (.int .i64 y)).run Try.prog w = .ok (decide (x = y)) w := fun x y w => by rw [run_equalIn_int w 9998 3 .i64 _ x y Try.underlying3]; congr 1
    have q2 : ∀ (x y : ByteArray) (w : World), (Op.equalIn 9999 9 (.string x) (.string y)).run Try.prog w = .ok (decide (x = y)) w := fun x y w => by rw [run_equalIn_string w 9998 9 x y Try.underlying9, str_eq]
    have q3 : ∀ (x y : Int) (w : World), (Op.equalIn 9999 2 (.int .i64 x) (.int .i64 y)).run Try.prog w = .ok (decide (x = y)) w := fun x y w => by rw [run_equalIn_int w 9998 2 .i64 _ x y Try.underlying2]; congr 1
    by_cases e0 : x0 = y0 <;> by_cases e1 : x1 = y1 <;> by_cases e2 : x2 = y2 <;> by_cases e3 : x3 = y3 <;> simp [Op.eqFields, hn.1, hn.2.1, hn.2.2.1, hn.2.2.2, a0, b0, a1, b1, a2, b2, a3, b3, p0, e0, p1, e1, p2, e2, p3, e3, q0, q2, q3]
  simp [binOp, h]
theorem tsame_len (a b : Option Addr) (L M : Nat) (c d : Nat) (w : World) (hne : ¬ L = M) :
    Calls Try.prog 10 #[.slice a L c, .slice b M d] w fun e w' => e = .returned (.bool false) ∧ w = w' := by
  have h : ((L : Int) != (M : Int)) = true := by simp; omega
  go_enter Try.func10, Try.ntmps10
  go_wp2
  go_ret
  exact ⟨rfl, rfl⟩
set_option maxHeartbeats 1000000 in
theorem tsame_loop (a b : Option Addr) (xs ys : List Tok) (c d : Nat) (w : World) (hx : SRd tokE w a xs) (hy : SRd tokE w b ys) (hl : ys.length = xs.length) (hz : xs.length ≤ 3518437208883) :
    Calls Try.prog 10 #[.slice a xs.length c, .slice b xs.length d] w fun e w' => e = .returned (.bool (decide (xs = ys))) ∧ ∃ n, w' = w.drewN n := by
  have HX : Hid (SRd tokE w a xs) := hx
  have HY : Hid (SRd tokE w b ys) := hy
  have HE : Hid (∀ k, k < xs.length → xs[k]? ≠ ys[k]? → decide (xs = ys) = false) := by
    intro k hk hne
    simp only [decide_eq_false_iff_not]
    intro h
    rw [h] at hne
    exact hne rfl
  have HF : Hid ((∀ j, j < xs.length → xs[j]? = ys[j]?) → decide (xs = ys) = true) := fun h => by
    simp only [decide_eq_true_eq]
    apply List.ext_getElem?
    intro j
    by_cases hj : j < xs.length
    · exact h j hj
    · rw [List.getElem?_eq_none (by omega), List.getElem?_eq_none (by omega)]
  have HM : Hid (ys.length = xs.length) := hl
  obtain ⟨L, hL⟩ : ∃ L, L = xs.length := ⟨_, rfl⟩
  have H5 : Hid (L = xs.length) := hL
  obtain ⟨res, hres⟩ : ∃ r, r = decide (xs = ys) := ⟨_, rfl⟩
  have HRes : Hid (res = decide (xs = ys)) := hres
  rw [← hL] at hz ⊢
  rw [← hres]
  clear hx hy hl hL hres
  go_enter Try.func10, Try.ntmps10
  go_wp2
  go_loopw [5] (fun i wr => ∃ k : Nat, k ≤ L ∧ i = .int .i64 k ∧ (∃ n, wr = w.drewN n) ∧ ∀ j, j < k → xs[j]? = ys[j]?) (fun i _ => L - (intOf i).toNat)
  case atStart => exact ⟨0, Nat.zero_le _, rfl, ⟨0, rfl⟩, fun j h => by omega⟩
  case round =>
    obtain ⟨k, hk, rfl, ⟨m, rfl⟩, hall⟩ := hrel
    have HA : Hid (∀ j, j < k → xs[j]? = ys[j]?) := hall
    clear hall
    by_cases hlt : k < L
    · have h5 := H5.out
      have h6 := HM.out
      obtain ⟨ba, offa, rfl, hca⟩ := HX.out.at (by omega)
      obtain ⟨bb, offb, rfl, hcb⟩ := HY.out.at (by omega)
      obtain ⟨⟨x0, x1, x2, x3⟩, ex⟩ : ∃ x, xs[k]? = some x := ⟨_, List.getElem?_eq_getElem (by omega)⟩
      obtain ⟨⟨y0, y1, y2, y3⟩, ey⟩ : ∃ y, ys[k]? = some y := ⟨_, List.getElem?_eq_getElem (by omega)⟩
      have a0 : w.cell? ⟨ba, offa + k * 4, none⟩ = some (.int .i64 x0) := by exact hca k _ 0 _ ex rfl
      have b0 : w.cell? ⟨bb, offb + k * 4, none⟩ = some (.int .i64 y0) := by exact hcb k _ 0 _ ey rfl
      have a1 : w.cell? ⟨ba, offa + k * 4 + 1, none⟩ = some (.int .i64 x1) := by rw [Nat.add_assoc]; exact hca k _ 1 _ ex rfl
      have b1 : w.cell? ⟨bb, offb + k * 4 + 1, none⟩ = some (.int .i64 y1) := by rw [Nat.add_assoc]; exact hcb k _ 1 _ ey rfl
      have a2 : w.cell? ⟨ba, offa + k * 4 + 2, none⟩ = some (.string x2) := by rw [Nat.add_assoc]; exact hca k _ 2 _ ex rfl
      have b2 : w.cell? ⟨bb, offb + k * 4 + 2, none⟩ = some (.string y2) := by rw [Nat.add_assoc]; exact hcb k _ 2 _ ey rfl
      have a3 : w.cell? ⟨ba, offa + k * 4 + 3, none⟩ = some (.int .i64 x3) := by rw [Nat.add_assoc]; exact hca k _ 3 _ ex rfl
      have b3 : w.cell? ⟨bb, offb + k * 4 + 3, none⟩ = some (.int .i64 y3) := by rw [Nat.add_assoc]; exact hcb k _ 3 _ ey rfl
      have EX : Hid (xs[k]? = some (x0, x1, x2, x3)) := ex
      have EY : Hid (ys[k]? = some (y0, y1, y2, y3)) := ey
      have hi : (k : Int) < (L : Int) := by omega
      have hq : ∀ w, _ := neq32 x0 x1 x2 x3 y0 y1 y2 y3
      clear hca hcb ex ey h5 h6
      by_cases hxy : ((x0, x1, x2, x3) : Tok) = (y0, y1, y2, y3)
      · have hb1 : (!decide (((x0, x1, x2, x3) : Tok) = (y0, y1, y2, y3))) = false := by simp [hxy]
        rw [hb1] at hq
        have HXY : Hid (((x0, x1, x2, x3) : Tok) = (y0, y1, y2, y3)) := hxy
        clear hxy hb1
        go_wp2_with fail
        go_quiet (fail)
        go_wp2
        go_roundw
        case rel =>
          refine ⟨k + 1, by omega, by go_num, ⟨_, rfl⟩, fun j hj => ?_⟩
          by_cases hjk : j < k
          · exact HA.out j hjk
          · have : j = k := by omega
            subst this
            rw [EX.out, EY.out, HXY.out]
        case measure => simp [intOf]; omega
      · have hb1 : (!decide (((x0, x1, x2, x3) : Tok) = (y0, y1, y2, y3))) = true := by
          rw [decide_eq_false hxy]
          rfl
        rw [hb1] at hq
        have HXY : Hid (¬ ((x0, x1, x2, x3) : Tok) = (y0, y1, y2, y3)) := hxy
        clear hxy hb1
        go_wp2_with fail
        go_quiet (fail)
        go_wp2
        go_ret
        refine ⟨ret_bool ?_, _, drewN_drewN _ _ _⟩
        rw [HRes.out]
        refine (HE.out k (by have := H5.out; omega) ?_).symm
        rw [EX.out, EY.out]
        intro e
        exact HXY.out (Option.some.inj e)
    · go_wp2
      go_ret
      refine ⟨ret_bool ?_, _, rfl⟩
      rw [HRes.out]
      exact (HF.out fun j hj => HA.out j (by have := H5.out; omega)).symm
theorem tsame (a b : Option Addr) (xs ys : List Tok) (L M c d : Nat) (w : World) (hx : SRd tokE w a xs) (hy : SRd tokE w b ys) (hL : xs.length = L) (hM : ys.length = M) (hz : L ≤ 3518437208883) :
    Calls Try.prog 10 #[.slice a L c, .slice b M d] w fun e w' => e = .returned (.bool (decide (xs = ys))) ∧ w.grownBy w' none := by
  subst hL
  subst hM
  by_cases hl : xs.length = ys.length
  · rw [← hl]
    refine (tsame_loop a b xs ys c d w hx hy hl.symm hz).mono ?_
    rintro e w' ⟨rfl, n, rfl⟩
    exact ⟨rfl, gb_drewN w n⟩
  · have e : decide (xs = ys) = false := by
      simp only [decide_eq_false_iff_not]
      intro h
      exact hl (by rw [h])
    rw [e]
    refine (tsame_len a b _ _ c d w hl).mono ?_
    rintro e w' ⟨rfl, rfl⟩
    exact ⟨rfl, World.grownBy.refl _ _⟩
end Go.Proofs.Ytkocdmkojoefoaa
