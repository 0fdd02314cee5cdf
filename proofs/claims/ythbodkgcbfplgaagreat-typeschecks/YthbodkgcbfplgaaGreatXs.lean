/- Lists that are the same: matchers, texts, nodes. -/
import Derived.Test.YthbodkgcbfplgaaGreatXf
namespace Go.Proofs.YthbodkgcbfplgaaGreat
open Go.ChangeShapes Go.WideShapes Go.ChangeAt Go.RowKit
set_option linter.unusedVariables false
set_option linter.unusedSimpArgs false
set_option maxRecDepth 20000

theorem neq54 (x0 : Int) (x1 : ByteArray) (x2 : ByteArray) (y0 : Int) (y1 : ByteArray) (y2 : ByteArray) (w : World) : (binOp .neq 54 (.agg #[.int .i64 x0, .string x1, .string x2]) (.agg #[.int .i64 y0, .string y1, .string y2])).run Tryz.prog w = .ok (.bool (!decide (((x0, x1, x2) : Mt) = (y0, y1, y2)))) w := by
  have h : (Op.equal 54 (.agg #[.int .i64 x0, .string x1, .string x2]) (.agg #[.int .i64 y0, .string y1, .string y2])).run Tryz.prog w = .ok (decide (((x0, x1, x2) : Mt) = (y0, y1, y2))) w := by
    have hf : (Tryz.prog.fieldsOf 54).toList.map (fun f => (f.type, f.offset)) = [(3, 0), (9, 1), (9, 2)] := by kernel_rfl
    have hn : (Tryz.prog.fieldsOf 54).toList.all (fun f => f.name != "_") = true := by kernel_rfl
    have hu : Tryz.prog.underlying 54 = some (.struct (Tryz.prog.fieldsOf 54)) := by kernel_rfl
    have hp : Tryz.prog.stoodInHeld 54 = false := by kernel_rfl
    simp only [Op.equal]
    rw [show Op.maxDepth = 9999 + 1 from rfl, run_equalIn_struct w 9999 54 _ _ hu hp]
    generalize (Tryz.prog.fieldsOf 54).toList = fs at hf hn
    have hl : fs.length = 3 := by simpa using congrArg List.length hf
    obtain ⟨f0, f1, f2, rfl⟩ : ∃ f0 f1 f2, fs = [f0, f1, f2] := by
      match fs, hl with
      | [f0, f1, f2], _ => exact ⟨f0, f1, f2, rfl⟩
    simp only [List.map_cons, List.map_nil, List.cons.injEq, Prod.mk.injEq, and_true] at hf
    simp only [List.all_cons, List.all_nil, Bool.and_true, Bool.and_eq_true, bne_iff_ne] at hn
    obtain ⟨⟨a0, b0⟩, ⟨a1, b1⟩, ⟨a2, b2⟩⟩ := hf
    have p0 : ∀ (z0 : Int) (z1 : ByteArray) (z2 : ByteArray) (w : World), (part 3 #[.int .i64 z0, .string z1, .string z2] 0).run Tryz.prog w = .ok (.int .i64 z0) w := fun z0 z1 z2 w => by simp [part, go_sem]
    have p1 : ∀ (z0 : Int) (z1 : ByteArray) (z2 : ByteArray) (w : World), (part 9 #[.int .i64 z0, .string z1, .string z2] 1).run Tryz.prog w = .ok (.string z1) w := fun z0 z1 z2 w => by simp [part, go_sem]
    have p2 : ∀ (z0 : Int) (z1 : ByteArray) (z2 : ByteArray) (w : World), (part 9 #[.int .i64 z0, .string z1, .string z2] 2).run Tryz.prog w = .ok (.string z2) w := fun z0 z1 z2 w => by simp [part, go_sem]
    have q0 : ∀ (x y : Int) (w : World), (Op.equalIn 9999 3 (.int .i64 x) (.int .i64 y)).run Tryz.prog w = .ok (decide (x = y)) w := fun x y w => by rw [run_equalIn_int w 9998 3 .i64 _ x y Tryz.underlying3]; congr 1
    have q1 : ∀ (x y : ByteArray) (w : World), (Op.equalIn 9999 9 (.string x) (.string y)).run Tryz.prog w = .ok (decide (x = y)) w := fun x y w => by rw [run_equalIn_string w 9998 9 x y Tryz.underlying9, str_eq]
    by_cases e0 : x0 = y0 <;> by_cases e1 : x1 = y1 <;> by_cases e2 : x2 = y2 <;> simp [Op.eqFields, hn.1, hn.2.1, hn.2.2, a0, b0, a1, b1, a2, b2, p0, e0, p1, e1, p2, e2, q0, q1]
  simp [binOp, h]
set_option maxHeartbeats 1000000 in
theorem f_sameT (a b : Option Addr) (xs : List ByteArray) (c d : Nat) (w : World) (hx : SRd strE w a xs) (hy : SRd strE w b xs) (hz : xs.length ≤ 9223372036854775807) :
    Calls Tryz.prog 22 #[.slice a xs.length c, .slice b xs.length d] w fun e w' => e = .returned (.bool true) ∧ w.grownBy w' none := by
  have HX := hid hx
  have HY := hid hy
  obtain ⟨L, hL⟩ : ∃ L, L = xs.length := ⟨_, rfl⟩
  have H5 : Hid (L = xs.length) := hL
  rw [← hL] at hz ⊢
  clear hx hy hL
  go_enter Tryz.func22, Tryz.ntmps22
  go_wp2
  go_loopw [5] (fun i wr => ∃ k : Nat, k ≤ L ∧ i = .int .i64 k ∧ (∃ n, wr = w.drewN n)) (fun i _ => L - (intOf i).toNat)
  case atStart => exact ⟨0, Nat.zero_le _, rfl, ⟨0, rfl⟩⟩
  case round =>
    obtain ⟨k, hk, rfl, ⟨m, rfl⟩⟩ := hrel
    by_cases hlt : k < L
    · have h5 := H5.out
      obtain ⟨ba, offa, rfl, hca⟩ := HX.out.at (by omega)
      obtain ⟨bb, offb, rfl, hcb⟩ := HY.out.at (by omega)
      obtain ⟨s, ex⟩ : ∃ x, xs[k]? = some x := ⟨_, List.getElem?_eq_getElem (by omega)⟩
      have a0 : w.cell? ⟨ba, offa + k, none⟩ = some (.string s) := by have := hca k _ 0 _ ex rfl; rwa [show k * strE.size + 0 = k from Nat.mul_one k] at this
      have b0 : w.cell? ⟨bb, offb + k, none⟩ = some (.string s) := by have := hcb k _ 0 _ ex rfl; rwa [show k * strE.size + 0 = k from Nat.mul_one k] at this
      have hi : (k : Int) < (L : Int) := by omega
      have hb1 : (s.toList == s.toList) = true := by rw [str_eq]; simp
      clear hca hcb ex h5
      go_wp2_with fail
      go_quiet (fail)
      go_wp2
      go_roundw
      case rel => exact ⟨k + 1, by omega, by go_num, ⟨_, rfl⟩⟩
      case measure => simp [intOf]; omega
    · have hi : ¬ (k : Int) < (L : Int) := by omega
      go_wp2
      go_ret
      exact ⟨rfl, gb_drewN _ _⟩
set_option maxHeartbeats 1000000 in
theorem f_sameM (a b : Option Addr) (xs : List Mt) (c d : Nat) (w : World) (hx : SRd matE w a xs) (hy : SRd matE w b xs) (hz : xs.length ≤ 9223372036854775807) :
    Calls Tryz.prog 21 #[.slice a xs.length c, .slice b xs.length d] w fun e w' => e = .returned (.bool true) ∧ w.grownBy w' none := by
  have HX := hid hx
  have HY := hid hy
  obtain ⟨L, hL⟩ : ∃ L, L = xs.length := ⟨_, rfl⟩
  have H5 : Hid (L = xs.length) := hL
  rw [← hL] at hz ⊢
  clear hx hy hL
  go_enter Tryz.func21, Tryz.ntmps21
  go_wp2
  go_loopw [5] (fun i wr => ∃ k : Nat, k ≤ L ∧ i = .int .i64 k ∧ (∃ n, wr = w.drewN n)) (fun i _ => L - (intOf i).toNat)
  case atStart => exact ⟨0, Nat.zero_le _, rfl, ⟨0, rfl⟩⟩
  case round =>
    obtain ⟨k, hk, rfl, ⟨m, rfl⟩⟩ := hrel
    by_cases hlt : k < L
    · have h5 := H5.out
      obtain ⟨ba, offa, rfl, hca⟩ := HX.out.at (by omega)
      obtain ⟨bb, offb, rfl, hcb⟩ := HY.out.at (by omega)
      obtain ⟨⟨x0, x1, x2⟩, ex⟩ : ∃ x, xs[k]? = some x := ⟨_, List.getElem?_eq_getElem (by omega)⟩
      have a0 : w.cell? ⟨ba, offa + k * 3, none⟩ = some (.int .i64 x0) := by exact hca k _ 0 _ ex rfl
      have b0 : w.cell? ⟨bb, offb + k * 3, none⟩ = some (.int .i64 x0) := by exact hcb k _ 0 _ ex rfl
      have a1 : w.cell? ⟨ba, offa + k * 3 + 1, none⟩ = some (.string x1) := by rw [Nat.add_assoc]; exact hca k _ 1 _ ex rfl
      have b1 : w.cell? ⟨bb, offb + k * 3 + 1, none⟩ = some (.string x1) := by rw [Nat.add_assoc]; exact hcb k _ 1 _ ex rfl
      have a2 : w.cell? ⟨ba, offa + k * 3 + 2, none⟩ = some (.string x2) := by rw [Nat.add_assoc]; exact hca k _ 2 _ ex rfl
      have b2 : w.cell? ⟨bb, offb + k * 3 + 2, none⟩ = some (.string x2) := by rw [Nat.add_assoc]; exact hcb k _ 2 _ ex rfl
      have hi : (k : Int) < (L : Int) := by omega
      have hq : ∀ w, _ := neq54 x0 x1 x2 x0 x1 x2
      have hb1 : (!decide (((x0, x1, x2) : Mt) = (x0, x1, x2))) = false := by simp
      rw [hb1] at hq
      clear hca hcb ex h5 hb1
      go_wp2_with fail
      go_quiet (fail)
      go_wp2
      go_roundw
      case rel => exact ⟨k + 1, by omega, by go_num, ⟨_, rfl⟩⟩
      case measure => simp [intOf]; omega
    · have hi : ¬ (k : Int) < (L : Int) := by omega
      go_wp2
      go_ret
      exact ⟨rfl, gb_drewN _ _⟩
section
variable {P : Program} {ops : Array Oper} {Q : Exit → Act → World → Prop} {md : Region.Mode} {S S' : World → Prop}
/-- A stronger condition serves. -/
theorem wpAnyH_mono (hs : ∀ w, S' w → S w) : ∀ (fuel : Nat) (listed : Array Bool) (a : Act) (w : World), wpAnyH P md ops Q S' fuel listed a w → wpAnyH P md ops Q S fuel listed a w
  | 0, _, _, _, h => h
  | fuel + 1, _, _, _, h => ⟨h.1, fun i hi => wpOp_mono (fun a' w' h' => ⟨hs _ h'.1, wpAnyH_mono hs fuel _ a' w' h'.2⟩) (h.2 i hi)⟩
end
end Go.Proofs.YthbodkgcbfplgaaGreat
