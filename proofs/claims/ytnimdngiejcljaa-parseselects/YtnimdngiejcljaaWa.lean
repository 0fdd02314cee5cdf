/- Lists that are the same: matchers, texts; what is read. -/
import Derived.Test.YtnimdngiejcljaaQj
import Derived.Deep.Slices
import Derived.Deep.Strs
import Derived.Lib.SmallJoins
namespace Go.Proofs.Ytnimdngiejcljaa
open Go.ChangeShapes Go.WideShapes Go.ChangeAt Go.RowKit
set_option linter.unusedVariables false
set_option linter.unusedSimpArgs false
set_option maxRecDepth 20000

structure NdRd (w : World) (q : Row) : Prop where
  mat : SRd matE w q.2.1.1 q.1.mat
  ml : q.2.1.2.1 = q.1.mat.length
  nam : SRd strE w q.2.2.1 q.1.names
  nl : q.2.2.2.1 = q.1.names.length
  mz : q.1.mat.length ≤ 9223372036854775807
  nz : q.1.names.length ≤ 9223372036854775807
theorem NdRd.grown {w w' : World} {q : Row} (h : NdRd w q) (hg : w.grownBy w' none) : NdRd w' q := ⟨h.mat.grown hg (by simp), h.ml, h.nam.grown hg (by simp), h.nl, h.mz, h.nz⟩
structure NsRd (w : World) (a : Option Addr) (Q : List Row) : Prop where
  rd : SRd ndE w a Q
  each : ∀ q ∈ Q, NdRd w q
theorem NsRd.grown {w w' : World} {a : Option Addr} {Q : List Row} (h : NsRd w a Q) (hg : w.grownBy w' none) : NsRd w' a Q := ⟨h.rd.grown hg (by simp), fun q hq => (h.each q hq).grown hg⟩
theorem own_sl {α : Type} {E : Elem α} {e : TypeId} {w : World} {b n : Nat} {s : Sl} {l : List α} (h : SOwn E e w b (slV s) n l) : s.2.1 = n ∧ SRd E w s.1 l ∧ n ≤ 9223372036854775807 := by
  obtain ⟨a, m, c⟩ := s
  unfold slV at h
  dsimp only at h
  have hm : m = n ∧ n ≤ 9223372036854775807 := by
    rcases h.2 with ⟨h', h0⟩ | ⟨g, cap, cur, h', k1, k2, k3, k4, k5, k6⟩
    · injection h' with _ h2 _
      exact ⟨h2.trans h0.symm, by omega⟩
    · injection h' with _ h2 _
      refine ⟨h2, ?_⟩
      unfold maxLen at k4
      omega
  obtain ⟨rfl, hn⟩ := hm
  exact ⟨rfl, SOwn.rd h, hn⟩
theorem NdAt.rds {w : World} {b : Nat} {a : Option Addr} {n c : Nat} {Q : List Row} (h : NdAt w b (.slice a n c) Q) : NsRd w a Q ∧ n = Q.length := by
  have h0 := own_sl (s := (a, n, c)) h.own
  refine ⟨⟨h0.2.1, fun q hq => ?_⟩, h0.1⟩
  have hm := own_sl (h.mat q hq)
  have hn := own_sl (h.nam q hq)
  exact ⟨hm.2.1, hm.1, hn.2.1, hn.1, hm.2.2, hn.2.2⟩
theorem nx_cells {w : World} {g : Nat} {kd op wi ba gr pa : Int} {tx : ByteArray} {ms ns : Value} {bo : Bool} (h : w.heap[g]? = some (.cells #[.int .i64 kd, .int .i64 op, .string tx, ms, .int .i64 wi, .int .i64 ba, .int .i64 gr, ns, .bool bo, .int .i64 pa] 34 (0, 0))) :
    w.cell? ⟨g, 0, none⟩ = some (.int .i64 kd) ∧ w.cell? ⟨g, 1, none⟩ = some (.int .i64 op) ∧ w.cell? ⟨g, 2, none⟩ = some (.string tx) ∧ w.cell? ⟨g, 3, none⟩ = some ms ∧ w.cell? ⟨g, 4, none⟩ = some (.int .i64 wi) ∧ w.cell? ⟨g, 5, none⟩ = some (.int .i64 ba) ∧ w.cell? ⟨g, 6, none⟩ = some (.int .i64 gr) ∧ w.cell? ⟨g, 7, none⟩ = some ns ∧ w.cell? ⟨g, 8, none⟩ = some (.bool bo) ∧ w.cell? ⟨g, 9, none⟩ = some (.int .i64 pa) := by
  refine ⟨?_, ?_, ?_, ?_, ?_, ?_, ?_, ?_, ?_, ?_⟩ <;> (rw [cell_of_row _ _ _ _ _ _ h]; rfl)
theorem neq44 (x0 : Int) (x1 : ByteArray) (x2 : ByteArray) (y0 : Int) (y1 : ByteArray) (y2 : ByteArray) (w : World) : (binOp .neq 44 (.agg #[.int .i64 x0, .string x1, .string x2]) (.agg #[.int .i64 y0, .string y1, .string y2])).run Try.prog w = .ok (.bool (!decide (((x0, x1, x2) : Mt) = (y0, y1, y2)))) w := by
  have h : (Op.equal 44 (.agg #[.int .i64 x0, .string x1, .string x2]) (.agg #[.int .i64 y0, .string y1, .string y2])).run Try.prog w = .ok (decide (((x0, x1, x2) : Mt) = (y0, y1, y2))) w := by
    have hf : (Try.prog.fieldsOf 44).toList.map (fun f => (f.type, f.offset)) = [(3, 0), (9, 1), (9, 2)] := by kernel_rfl
    have hn : (Try.prog.fieldsOf 44).toList.all (fun f => f.name != "_") = true := by kernel_rfl
    have hu : Try.prog.underlying 44 = some (.struct (Try.prog.fieldsOf 44)) := by kernel_rfl
    have hp : Try.prog.stoodInHeld 44 = false := by kernel_rfl
    simp only [Op.equal]
    rw [show Op.maxDepth = 9999 + 1 from rfl, run_equalIn_struct w 9999 44 _ _ hu hp]
    generalize (Try.prog.fieldsOf 44).toList = fs at hf hn
    have hl : fs.length = 3 := by simpa using congrArg List.length hf
    obtain ⟨f0, f1, f2, rfl⟩ : ∃ f0 f1 f2, fs = [f0, f1, f2] := by
      match fs, hl with
      | [f0, f1, f2], _ => exact ⟨f0, f1, f2, rfl⟩
    simp only [List.map_cons, List.map_nil, List.cons.injEq, Prod.mk.injEq, and_true] at hf
    simp only [List.all_cons, List.all_nil, Bool.and_true, Bool.and_eq_true, bne_iff_ne] at hn
    obtain ⟨⟨a0, b0⟩, ⟨a1, b1⟩, ⟨a2, b2⟩⟩ := hf
    have p0 : ∀ (z0 : Int) (z1 : ByteArray) (z2 : ByteArray) (w : World), (part 3 #[.int .i64 z0, .string z1, .string z2] 0).run Try.prog w = .ok (.int .i64 z0) w := fun z0 z1 z2 w => by simp [part, go_sem]
    have p1 : ∀ (z0 : Int) (z1 : ByteArray) (z2 : ByteArray) (w : World), (part 9 #[.int .i64 z0, .string z1, .string z2] 1).run Try.prog w = .ok (.string z1) w := fun z0 z1 z2 w => by simp [part, go_sem]
    have p2 : ∀ (z0 : Int) (z1 : ByteArray) (z2 : ByteArray) (w : World), (part 9 #[.int .i64 z0, .string z1, .string z2] 2).run Try.prog w = .ok (.string z2) w := fun z0 z1 z2 w => by simp [part, go_sem]
    have q0 : ∀ (x y : Int) (w : World), (Op.equalIn 9999 3 (.int .i64 x) (.int .i64 y)).run Try.prog w = .ok (decide (x = y)) w := fun x y w => by rw [run_equalIn_int w 9998 3 .i64 _ x y Try.underlying3]; congr 1
    have q1 : ∀ (x y : ByteArray) (w : World), (Op.equalIn 9999 9 (.string x) (.string y)).run Try.prog w = .ok (decide (x = y)) w := fun x y w => by rw [run_equalIn_string w 9998 9 x y Try.underlying9, str_eq]
    by_cases e0 : x0 = y0 <;> by_cases e1 : x1 = y1 <;> by_cases e2 : x2 = y2 <;> simp [Op.eqFields, hn.1, hn.2.1, hn.2.2, a0, b0, a1, b1, a2, b2, p0, e0, p1, e1, p2, e2, q0, q1]
  simp [binOp, h]
set_option maxHeartbeats 1000000 in
theorem f_sameT (a b : Option Addr) (xs : List ByteArray) (c d : Nat) (w : World) (hx : SRd strE w a xs) (hy : SRd strE w b xs) (hz : xs.length ≤ 9223372036854775807) :
    Calls Try.prog 29 #[.slice a xs.length c, .slice b xs.length d] w fun e w' => e = .returned (.bool true) ∧ w.grownBy w' none := by
  have HX := hid hx
  have HY := hid hy
  obtain ⟨L, hL⟩ : ∃ L, L = xs.length := ⟨_, rfl⟩
  have H5 : Hid (L = xs.length) := hL
  rw [← hL] at hz ⊢
  clear hx hy hL
  go_enter Try.func29, Try.ntmps29
  go_wp2
  go_loopw [5] (fun i wr => ∃ k : Nat, k ≤ L ∧ i = .int .i64 k ∧ (∃ n, wr = w.drewN n)) (fun i _ => L - (intOf i).toNat)
  case atStart => exact ⟨0, Nat.zero_le _, rfl, ⟨0, rfl⟩⟩
  case round =>
    obtain ⟨k, hk, rfl, ⟨m, rfl⟩⟩ := hrel
    by_cases hlt : k < L
    · have h5 := H5.out
      obtain ⟨ba, offa, rfl, hca⟩ := HX.out.at (by omega)
      obtain ⟨bb, offb, rfl, hcb⟩ := HY.out.at (by omega)
      obtain ⟨s, ex⟩ : ∃ x, xs[k]? = some x := ⟨_, List.getElem?_eq_getElem (by omega)⟩
      have a0 : w.cell? ⟨ba, offa + k, none⟩ = some (.string s) := by have := hca k _ 0 _ ex rfl; rwa [show k * strE.size + 0 = k from Nat.mul_one k] at this
      have b0 : w.cell? ⟨bb, offb + k, none⟩ = some (.string s) := by have := hcb k _ 0 _ ex rfl; rwa [show k * strE.size + 0 = k from Nat.mul_one k] at this
      have hi : (k : Int) < (L : Int) := by omega
      have hb1 : (s.toList == s.toList) = true := by rw [str_eq]; simp
      clear hca hcb ex h5
      go_wp2_with fail
      go_quiet (fail)
      go_wp2
      go_roundw
      case rel => exact ⟨k + 1, by omega, by go_num, ⟨_, rfl⟩⟩
      case measure => simp [intOf]; omega
    · have hi : ¬ (k : Int) < (L : Int) := by omega
      go_wp2
      go_ret
      exact ⟨rfl, gb_drewN _ _⟩
set_option maxHeartbeats 1000000 in
theorem f_sameM (a b : Option Addr) (xs : List Mt) (c d : Nat) (w : World) (hx : SRd matE w a xs) (hy : SRd matE w b xs) (hz : xs.length ≤ 9223372036854775807) :
    Calls Try.prog 28 #[.slice a xs.length c, .slice b xs.length d] w fun e w' => e = .returned (.bool true) ∧ w.grownBy w' none := by
  have HX := hid hx
  have HY := hid hy
  obtain ⟨L, hL⟩ : ∃ L, L = xs.length := ⟨_, rfl⟩
  have H5 : Hid (L = xs.length) := hL
  rw [← hL] at hz ⊢
  clear hx hy hL
  go_enter Try.func28, Try.ntmps28
  go_wp2
  go_loopw [5] (fun i wr => ∃ k : Nat, k ≤ L ∧ i = .int .i64 k ∧ (∃ n, wr = w.drewN n)) (fun i _ => L - (intOf i).toNat)
  case atStart => exact ⟨0, Nat.zero_le _, rfl, ⟨0, rfl⟩⟩
  case round =>
    obtain ⟨k, hk, rfl, ⟨m, rfl⟩⟩ := hrel
    by_cases hlt : k < L
    · have h5 := H5.out
      obtain ⟨ba, offa, rfl, hca⟩ := HX.out.at (by omega)
      obtain ⟨bb, offb, rfl, hcb⟩ := HY.out.at (by omega)
      obtain ⟨⟨x0, x1, x2⟩, ex⟩ : ∃ x, xs[k]? = some x := ⟨_, List.getElem?_eq_getElem (by omega)⟩
      have a0 : w.cell? ⟨ba, offa + k * 3, none⟩ = some (.int .i64 x0) := by exact hca k _ 0 _ ex rfl
      have b0 : w.cell? ⟨bb, offb + k * 3, none⟩ = some (.int .i64 x0) := by exact hcb k _ 0 _ ex rfl
      have a1 : w.cell? ⟨ba, offa + k * 3 + 1, none⟩ = some (.string x1) := by rw [Nat.add_assoc]; exact hca k _ 1 _ ex rfl
      have b1 : w.cell? ⟨bb, offb + k * 3 + 1, none⟩ = some (.string x1) := by rw [Nat.add_assoc]; exact hcb k _ 1 _ ex rfl
      have a2 : w.cell? ⟨ba, offa + k * 3 + 2, none⟩ = some (.string x2) := by rw [Nat.add_assoc]; exact hca k _ 2 _ ex rfl
      have b2 : w.cell? ⟨bb, offb + k * 3 + 2, none⟩ = some (.string x2) := by rw [Nat.add_assoc]; exact hcb k _ 2 _ ex rfl
      have hi : (k : Int) < (L : Int) := by omega
      have hq : ∀ w, _ := neq44 x0 x1 x2 x0 x1 x2
      have hb1 : (!decide (((x0, x1, x2) : Mt) = (x0, x1, x2))) = false := by simp
      rw [hb1] at hq
      clear hca hcb ex h5 hb1
      go_wp2_with fail
      go_quiet (fail)
      go_wp2
      go_roundw
      case rel => exact ⟨k + 1, by omega, by go_num, ⟨_, rfl⟩⟩
      case measure => simp [intOf]; omega
    · have hi : ¬ (k : Int) < (L : Int) := by omega
      go_wp2
      go_ret
      exact ⟨rfl, gb_drewN _ _⟩
section
variable {P : Program} {ops : Array Oper} {Q : Exit → Act → World → Prop} {md : Region.Mode} {S S' : World → Prop}
/-- A stronger condition serves. -/
theorem wpAnyH_mono (hs : ∀ w, S' w → S w) : ∀ (fuel : Nat) (listed : Array Bool) (a : Act) (w : World), wpAnyH P md ops Q S' fuel listed a w → wpAnyH P md ops Q S fuel listed a w
  | 0, _, _, _, h => h
  | fuel + 1, _, _, _, h => ⟨h.1, fun i hi => wpOp_mono (fun a' w' h' => ⟨hs _ h'.1, wpAnyH_mono hs fuel _ a' w' h'.2⟩) (h.2 i hi)⟩
end
end Go.Proofs.Ytnimdngiejcljaa
