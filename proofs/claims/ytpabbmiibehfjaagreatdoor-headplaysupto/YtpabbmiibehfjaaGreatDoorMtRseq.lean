/- strings.SplitSeq at one byte: its closure hands over the pieces one by one. -/
import Derived.Test.YtpabbmiibehfjaaGreatDoorGw
import Derived.Test.YtpabbmiibehfjaaGreatDoorMtFmath
import Derived.Test.YtpabbmiibehfjaaGreatDoorShelf
import Derived.Test.YtpabbmiibehfjaaGreatDoorGa
namespace Go.Proofs.YtpabbmiibehfjaaGreatDoor.Mt
open Go.RowKit
set_option linter.unusedVariables false
attribute [local go_sem] Oper.semAt_some

def mkB (l : List UInt8) : ByteArray := ⟨l.toArray⟩
theorem mkB_data (s : ByteArray) : mkB s.data.toList = s := by cases s; simp [mkB]
def pcs (p : ByteArray) : List ByteArray := (sp 124 p.data.toList).map mkB
def lenAt (b : Nat) (w : World) : Nat := match w.cell? ⟨b, 0, none⟩ with | some (.string s) => s.size | _ => 0
theorem lenAt_eq {b : Nat} {w : World} {s : ByteArray} (h : w.cell? ⟨b, 0, none⟩ = some (.string s)) : lenAt b w = s.size := by unfold lenAt; rw [h]

theorem nodepth (m : Nat) : Fence.wide.depth.isSome = true → 1 ≤ m := fun h => by simp [Fence.wide] at h
theorem rest_data (s : ByteArray) (i : Nat) : (s.extract i s.size).data.toList = s.data.toList.drop i := by
  rw [Lib.extract_data, List.take_of_length_le]
  rw [List.length_drop, ← Lib.size_eq]
  omega
theorem pcs_hit {cur : ByteArray} {i : Nat} (h2 : (124 : UInt8) ∉ cur.data.toList.take i) (h3 : cur.data.toList = cur.data.toList.take i ++ 124 :: cur.data.toList.drop (i + 1)) : pcs cur = cur.extract 0 i :: pcs (cur.extract (i + 1) cur.size) := by
  unfold pcs
  rw [rest_data]
  conv => lhs; rw [h3, sp_cut h2]
  rw [List.map_cons, Lib.extract_eq, List.drop_zero, Nat.sub_zero]
  rfl
theorem splitSeq_in (s : ByteArray) (w : World) :
    Calls Tryz.prog 100 #[.string s, .string ⟨#[124]⟩] w fun e w' => e = .returned (.func (.func 125) #[] #[.pointer (some ⟨w.heap.size + 1, 0, none⟩), .pointer (some ⟨w.heap.size, 0, none⟩), .pointer (some ⟨w.heap.size + 2, 0, none⟩)]) ∧ w' = ((w.alloc (.cells #[.string s] 9)).alloc (.cells #[.string ⟨#[124]⟩] 9)).alloc (.cells #[.int .i64 0] 3) := by
  go_enter Tryz.func100, Tryz.ntmps100
  go_wp2
  go_ret
  exact ⟨rfl, rfl⟩

set_option maxRecDepth 100000 in
set_option maxHeartbeats 1000000 in
theorem seq_in (m l Bs hi : Nat) (X : Nat → Prop) (J : List ByteArray → World → Prop) (p : ByteArray) (mx : Int) (W : World) (hX0 : ¬ X 0) (hX1 : ¬ X Bs) (hX2 : ¬ X (Bs + 1)) (hX3 : ¬ X (Bs + 2)) (hhi : Bs + 2 < hi) (h0B : 0 < Bs)
    (hJs : ∀ pre W v, J pre W → J pre (W.setCell ⟨Bs, 0, none⟩ v))
    (hY : ∀ pre x W1, J pre W1 → pre ++ [x] <+: pcs p → YieldAt Fence.wide (m - 1) Tryz.prog l #[.string x] W1 fun e W' => e = .returned (.bool true) ∧ J (pre ++ [x]) W' ∧ KeptBut hi X W1 W')
    (b1 : Boxed W Bs 9 (.string p)) (b2 : Boxed W (Bs + 1) 9 (.string ⟨#[124]⟩)) (b3 : Boxed W (Bs + 2) 3 (.int .i64 0)) (hm : W.cell? ⟨0, 0, none⟩ = some (.int .i64 mx)) (hp : p.size ≤ 2147483648) (h0 : J [] W) :
    CallsIn Fence.wide m Tryz.prog 125 #[.func (.yield l) #[] #[], .pointer (some ⟨Bs + 1, 0, none⟩), .pointer (some ⟨Bs, 0, none⟩), .pointer (some ⟨Bs + 2, 0, none⟩)] W fun e W' => (∃ v, e = .returned v) ∧ J (pcs p) W' := by
  refine callsIn_of_wp Tryz.func125 rfl trivial ?_ rfl
  simp only [Tryz.ntmps125, List.size_toArray, List.length_cons, List.length_nil, Nat.reduceAdd, Nat.reduceSub, Array.replicate_succ, Array.replicate_zero, List.push_toArray, List.append_toArray, List.nil_append, List.cons_append]
  have HB : Hid (Boxed W Bs 9 (.string p) ∧ Boxed W (Bs + 1) 9 (.string ⟨#[124]⟩) ∧ Boxed W (Bs + 2) 3 (.int .i64 0)) := ⟨b1, b2, b3⟩
  have HJ0 : Hid (J [] W) := h0
  have HM : Hid (W.cell? ⟨0, 0, none⟩ = some (.int .i64 mx)) := hm
  have c2 := b2.cell
  clear b1 b2 b3 h0 hm
  gi_wp2
  gi_loopw [7] (fun _ wr => ∃ (pre : List ByteArray) (cur : ByteArray), Boxed wr Bs 9 (.string cur) ∧ Boxed wr (Bs + 1) 9 (.string ⟨#[124]⟩) ∧ Boxed wr (Bs + 2) 3 (.int .i64 0) ∧ wr.cell? ⟨0, 0, none⟩ = some (.int .i64 mx) ∧ cur.size ≤ p.size ∧ pcs p = pre ++ pcs cur ∧ J pre wr) (fun _ wr => lenAt Bs wr)
  case atStart => exact ⟨[], p, HB.out.1, HB.out.2.1, HB.out.2.2, HM.out, Nat.le_refl _, rfl, HJ0.out⟩
  case round =>
    obtain ⟨pre, cur, d1, d2, d3, dm, hsz, hpc, hJ⟩ := hrel
    have DB : Hid (Boxed wr Bs 9 (.string cur) ∧ Boxed wr (Bs + 1) 9 (.string ⟨#[124]⟩) ∧ Boxed wr (Bs + 2) 3 (.int .i64 0)) := ⟨d1, d2, d3⟩
    have DM : Hid (wr.cell? ⟨0, 0, none⟩ = some (.int .i64 mx)) := dm
    have DJ : Hid (J pre wr) := hJ
    have e1 := d1.cell
    have e2 := d2.cell
    have e3 := d3.cell
    have HI : Hid (CallsIn Fence.wide (m - 1) Tryz.prog 113 #[.string cur, .string ⟨#[124]⟩] wr fun e w' => e = .returned (.int .i64 (Lib.index cur.data.toList [124])) ∧ w' = wr) := callsIn_wide.2 (Tryz.strings_Index cur ⟨#[124]⟩ mx wr (by omega) dm)
    clear HB HJ0 HM c2 d1 d2 d3 dm hJ
    rcases idx_byte 124 cur.data.toList with ⟨h1, h2⟩ | ⟨i, h1, hi', h2, h3⟩
    · rw [h1] at HI
      have hx : pcs cur = [cur] := by unfold pcs; rw [sp_plain h2]; simp [mkB_data]
      obtain ⟨fn, tmps, assign, body, hy, hR⟩ := hY pre cur wr DJ.out (by rw [hpc, hx]; exact List.prefix_rfl)
      gi_wp2_with fail
      refine ⟨trivial, nodepth _, HI.out.mono ?_⟩
      rintro e w' ⟨rfl, rfl⟩
      clear HI
      gi_wp2
      refine ⟨nodepth _, hR.mono ?_⟩
      rintro e W3 ⟨rfl, hJ3, hk3⟩
      gi_wp2
      go_end0
      exact ⟨⟨_, rfl⟩, by rw [hpc, hx]; exact hJ3⟩
    · rw [h1] at HI
      have hil : i < cur.size := by rw [Lib.size_eq]; exact hi'
      have hx : pcs cur = cur.extract 0 i :: pcs (cur.extract (i + 1) cur.size) := pcs_hit h2 h3
      obtain ⟨fn, tmps, assign, body, hy, hR⟩ := hY pre (cur.extract 0 i) wr DJ.out (by rw [hpc, hx]; exact ⟨pcs (cur.extract (i + 1) cur.size), by simp⟩)
      gi_wp2_with fail
      refine ⟨trivial, nodepth _, HI.out.mono ?_⟩
      rintro e w' ⟨rfl, rfl⟩
      clear HI
      gi_wp2
      refine ⟨nodepth _, hR.mono ?_⟩
      rintro e W3 ⟨rfl, hJ3, hk3⟩
      have g1 : Boxed W3 Bs 9 (.string cur) := (hk3.block _ (by omega) hX1).trans DB.out.1
      have g2 : Boxed W3 (Bs + 1) 9 (.string ⟨#[124]⟩) := (hk3.block _ (by omega) hX2).trans DB.out.2.1
      have g3 : Boxed W3 (Bs + 2) 3 (.int .i64 0) := (hk3.block _ (by omega) hX3).trans DB.out.2.2
      have gm : W3.cell? ⟨0, 0, none⟩ = some (.int .i64 mx) := (hk3.cell (p := ⟨0, 0, none⟩) (by show 0 < hi; omega) hX0).trans DM.out
      have GB : Hid (Boxed W3 Bs 9 (.string cur) ∧ Boxed W3 (Bs + 1) 9 (.string ⟨#[124]⟩) ∧ Boxed W3 (Bs + 2) 3 (.int .i64 0)) := ⟨g1, g2, g3⟩
      have GM : Hid (W3.cell? ⟨0, 0, none⟩ = some (.int .i64 mx)) := gm
      have GJ : Hid (J (pre ++ [cur.extract 0 i]) W3) := hJ3
      have k1 := g1.cell
      have k2 := g2.cell
      have kf := g1.frozen
      clear g1 g2 g3 gm hJ3 e1 e2 e3 hk3 hR hy
      gi_wp2
      go_roundw
      case rel =>
        have gs := grownBy_setCell' W3 Bs (.string (cur.extract (i + 1) cur.size))
        exact ⟨pre ++ [cur.extract 0 i], cur.extract (i + 1) cur.size, GB.out.1.set _, GB.out.2.1.kept gs (by simp), GB.out.2.2.kept gs (by simp), (World.cell?_of_block (gs.block 0 (by have := GB.out.1.lt; omega) (by simp; omega))).trans GM.out, by simp; omega, by rw [hpc, hx]; simp, hJs _ _ _ GJ.out⟩
      case measure =>
        rw [lenAt_eq ((GB.out.1.set (.string (cur.extract (i + 1) cur.size))).cell), lenAt_eq DB.out.1.cell]
        simp
        omega
end Go.Proofs.YtpabbmiibehfjaaGreatDoor.Mt
