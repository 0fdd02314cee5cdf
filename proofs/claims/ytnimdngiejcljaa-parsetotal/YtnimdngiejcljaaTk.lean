/- Lists of tokens, held against one another. -/
import Derived.Test.YtnimdngiejcljaaBx
namespace Go.Proofs.Ytnimdngiejcljaa
open Go.ChangeShapes Go.WideShapes Go.ChangeAt Go.RowKit
set_option linter.unusedVariables false
set_option maxRecDepth 20000

theorem neq32 (x0 : Int) (x1 : Int) (x2 : ByteArray) (x3 : Int) (y0 : Int) (y1 : Int) (y2 : ByteArray) (y3 : Int) (w : World) : (binOp .neq 52 (.agg #[.int .i64 x0, .int .i64 x1, .string x2, .int .i64 x3]) (.agg #[.int .i64 y0, .int .i64 y1, .string y2, .int .i64 y3])).run Try.prog w = .ok (.bool (!decide (((x0, x1, x2, x3) : Tok) = (y0, y1, y2, y3)))) w := by
  have h : (Op.equal 52 (.agg #[.int .i64 x0, .int .i64 x1, .string x2, .int .i64 x3]) (.agg #[.int .i64 y0, .int .i64 y1, .string y2, .int .i64 y3])).run Try.prog w = .ok (decide (((x0, x1, x2, x3) : Tok) = (y0, y1, y2, y3))) w := by
    have hf : (Try.prog.fieldsOf 52).toList.map (fun f => (f.type, f.offset)) = [(3, 0), (3, 1), (9, 2), (2, 3)] := by kernel_rfl
    have hn : (Try.prog.fieldsOf 52).toList.all (fun f => f.name != "_") = true := by kernel_rfl
    have hu : Try.prog.underlying 52 = some (.struct (Try.prog.fieldsOf 52)) := by kernel_rfl
    have hp : Try.prog.stoodInHeld 52 = false := by kernel_rfl
    simp only [Op.equal]
    rw [show Op.maxDepth = 9999 + 1 from rfl, run_equalIn_struct w 9999 52 _ _ hu hp]
    generalize (Try.prog.fieldsOf 52).toList = fs at hf hn
    have hl : fs.length = 4 := by simpa using congrArg List.length hf
    obtain ⟨f0, f1, f2, f3, rfl⟩ : ∃ f0 f1 f2 f3, fs = [f0, f1, f2, f3] := by
      match fs, hl with
      | [f0, f1, f2, f3], _ => exact ⟨f0, f1, f2, f3, rfl⟩
    simp only [List.map_cons, List.map_nil, List.cons.injEq, Prod.mk.injEq, and_true] at hf
    simp only [List.all_cons, List.all_nil, Bool.and_true, Bool.and_eq_true, bne_iff_ne] at hn
    obtain ⟨⟨a0, b0⟩, ⟨a1, b1⟩, ⟨a2, b2⟩, ⟨a3, b3⟩⟩ := hf
    have p0 : ∀ (z0 : Int) (z1 : Int) (z2 : ByteArray) (z3 : Int) (w : World), (part 3 #[.int .i64 z0, .int .i64 z1, .string z2, .int .i64 z3] 0).run Try.prog w = .ok (.int .i64 z0) w := fun z0 z1 z2 z3 w => by simp [part, go_sem]
    have p1 : ∀ (z0 : Int) (z1 : Int) (z2 : ByteArray) (z3 : Int) (w : World), (part 3 #[.int .i64 z0, .int .i64 z1, .string z2, .int .i64 z3] 1).run Try.prog w = .ok (.int .i64 z1) w := fun z0 z1 z2 z3 w => by simp [part, go_sem]
    have p2 : ∀ (z0 : Int) (z1 : Int) (z2 : ByteArray) (z3 : Int) (w : World), (part 9 #[.int .i64 z0, .int .i64 z1, .string z2, .int .i64 z3] 2).run Try.prog w = .ok (.string z2) w := fun z0 z1 z2 z3 w => by simp [part, go_sem]
    have p3 : ∀ (z0 : Int) (z1 : Int) (z2 : ByteArray) (z3 : Int) (w : World), (part 2 #[.int .i64 z0, .int .i64 z1, .string z2, .int .i64 z3] 3).run Try.prog w = .ok (.int .i64 z3) w := fun z0 z1 z2 z3 w => by simp [part, go_sem]
    have q0 : ∀ (x y : Int) (w : World), (Op.equalIn 9999 3 (.int .i64 x) (.int .i64 y)).run Try.prog w = .ok (decide (x = y)) w := fun x y w => by rw [run_equalIn_int w 9998 3 .i64 _ x y Try.underlying3]; congr 1
    have q2 : ∀ (x y : ByteArray) (w : World), (Op.equalIn 9999 9 (.string x) (.string y)).run Try.prog w = .ok (decide (x = y)) w := fun x y w => by rw [run_equalIn_string w 9998 9 x y Try.underlying9, str_eq]
    have q3 : ∀ (x y : Int) (w : World), (Op.equalIn 9999 2 (.int .i64 x) (.int .i64 y)).run Try.prog w = .ok (decide (x = y)) w := fun x y w => by rw [run_equalIn_int w 9998 2 .i64 _ x y Try.underlying2]; congr 1
    by_cases e0 : x0 = y0 <;> by_cases e1 : x1 = y1 <;> by_cases e2 : x2 = y2 <;> by_cases e3 : x3 = y3 <;> simp [Op.eqFields, hn.1, hn.2.1, hn.2.2.1, hn.2.2.2, a0, b0, a1, b1, a2, b2, a3, b3, p0, e0, p1, e1, p2, e2, p3, e3, q0, q2, q3]
  simp [binOp, h]
theorem eql32 (x0 : Int) (x1 : Int) (x2 : ByteArray) (x3 : Int) (y0 : Int) (y1 : Int) (y2 : ByteArray) (y3 : Int) (w : World) : (binOp .eql 52 (.agg #[.int .i64 x0, .int .i64 x1, .string x2, .int .i64 x3]) (.agg #[.int .i64 y0, .int .i64 y1, .string y2, .int .i64 y3])).run Try.prog w = .ok (.bool (decide (((x0, x1, x2, x3) : Tok) = (y0, y1, y2, y3)))) w := by
  have h : (Op.equal 52 (.agg #[.int .i64 x0, .int .i64 x1, .string x2, .int .i64 x3]) (.agg #[.int .i64 y0, .int .i64 y1, .string y2, .int .i64 y3])).run Try.prog w = .ok (decide (((x0, x1, x2, x3) : Tok) = (y0, y1, y2, y3))) w := by
    have hf : (Try.prog.fieldsOf 52).toList.map (fun f => (f.type, f.offset)) = [(3, 0), (3, 1), (9, 2), (2, 3)] := by kernel_rfl
    have hn : (Try.prog.fieldsOf 52).toList.all (fun f => f.name != "_") = true := by kernel_rfl
    have hu : Try.prog.underlying 52 = some (.struct (Try.prog.fieldsOf 52)) := by kernel_rfl
    have hp : Try.prog.stoodInHeld 52 = false := by kernel_rfl
    simp only [Op.equal]
    rw [show Op.maxDepth = 9999 + 1 from rfl, run_equalIn_struct w 9999 52 _ _ hu hp]
    generalize (Try.prog.fieldsOf 52).toList = fs at hf hn
    have hl : fs.length = 4 := by simpa using congrArg List.length hf
    obtain ⟨f0, f1, f2, f3, rfl⟩ : ∃ f0 f1 f2 f3, fs = [f0, f1, f2, f3] := by
      match fs, hl with
      | [f0, f1, f2, f3], _ => exact ⟨f0, f1, f2, f3, rfl⟩
    simp only [List.map_cons, List.map_nil, List.cons.injEq, Prod.mk.injEq, and_true] at hf
    simp only [List.all_cons, List.all_nil, Bool.and_true, Bool.and_eq_true, bne_iff_ne] at hn
    obtain ⟨⟨a0, b0⟩, ⟨a1, b1⟩, ⟨a2, b2⟩, ⟨a3, b3⟩⟩ := hf
    have p0 : ∀ (z0 : Int) (z1 : Int) (z2 : ByteArray) (z3 : Int) (w : World), (part 3 #[.int .i64 z0, .int .i64 z1, .string z2, .int .i64 z3] 0).run Try.prog w = .ok (.int .i64 z0) w := fun z0 z1 z2 z3 w => by simp [part, go_sem]
    have p1 : ∀ (z0 : Int) (z1 : Int) (z2 : ByteArray) (z3 : Int) (w : World), (part 3 #[.int .i64 z0, .int .i64 z1, .string z2, .int .i64 z3] 1).run Try.prog w = .ok (.int .i64 z1) w := fun z0 z1 z2 z3 w => by simp [part, go_sem]
    have p2 : ∀ (z0 : Int) (z1 : Int) (z2 : ByteArray) (z3 : Int) (w : World), (part 9 #[.int .i64 z0, .int .i64 z1, .string z2, .int .i64 z3] 2).run Try.prog w = .ok (.string z2) w := fun z0 z1 z2 z3 w => by simp [part, go_sem]
    have p3 : ∀ (z0 : Int) (z1 : Int) (z2 : ByteArray) (z3 : Int) (w : World), (part 2 #[.int .i64 z0, .int .i64 z1, .string z2, .int .i64 z3] 3).run Try.prog w = .ok (.int .i64 z3) w := fun z0 z1 z2 z3 w => by simp [part, go_sem]
    have q0 : ∀ (x y : Int) (w : World), (Op.equalIn 9999 3 (.int .i64 x) (.int .i64 y)).run Try.prog w = .ok (decide (x = y)) w := fun x y w => by rw [run_equalIn_int w 9998 3 .i64 _ x y Try.underlying3]; congr 1
    have q2 : ∀ (x y : ByteArray) (w : World), (Op.equalIn 9999 9 (.string x) (.string y)).run Try.prog w = .ok (decide (x = y)) w := fun x y w => by rw [run_equalIn_string w 9998 9 x y Try.underlying9, str_eq]
    have q3 : ∀ (x y : Int) (w : World), (Op.equalIn 9999 2 (.int .i64 x) (.int .i64 y)).run Try.prog w = .ok (decide (x = y)) w := fun x y w => by rw [run_equalIn_int w 9998 2 .i64 _ x y Try.underlying2]; congr 1
    by_cases e0 : x0 = y0 <;> by_cases e1 : x1 = y1 <;> by_cases e2 : x2 = y2 <;> by_cases e3 : x3 = y3 <;> simp [Op.eqFields, hn.1, hn.2.1, hn.2.2.1, hn.2.2.2, a0, b0, a1, b1, a2, b2, a3, b3, p0, e0, p1, e1, p2, e2, p3, e3, q0, q2, q3]
  simp [binOp, h]
end Go.Proofs.Ytnimdngiejcljaa
