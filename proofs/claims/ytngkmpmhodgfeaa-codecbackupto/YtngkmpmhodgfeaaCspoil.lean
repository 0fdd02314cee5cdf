/- What was handed out is written over, whatever room is behind it. -/
import Derived.Test.YtngkmpmhodgfeaaCface
namespace Go.Proofs.Ytngkmpmhodgfeaa
open Go.RowKit
set_option linter.unusedVariables false

set_option maxHeartbeats 400000 in
theorem spoil_fits (base g N c : Nat) (ys : List Int) (w : World) (ho : Own w base g N c ys) (hc : N + 1 ≤ c) (hN : N ≤ 140737488355300) :
    Calls Try.prog 22 #[.slice (some ⟨g, 0, none⟩) N c] w fun e w' => e = .returned (.tuple #[]) ∧ w.grownBy w' (some g) := by
  obtain ⟨i0, hi, hz0, hz1, hz2⟩ := info_parts info5
  have HO : Hid (Own w base g N c ys) := ho
  have HG0 : Hid (g < w.heap.size) := ho.ge.2
  clear ho
  go_enter Try.func22, Try.ntmps22
  go_wp2_with (at_builtin; refine wpList_append_fits _ rfl (.tmp 5) (.tmp 6) 22 rfl base 5 i0 1 Try.underlying22 hi hz1 g N c (bs ys) rfl (HO.out.1.alloc _) ⟨w.heap.size, 0, none⟩ 1 1 (bs [201]) rfl rfl (news_at (cs := bs [201])) (bs_one _) hc ?_; intro w1 hown hg1)
  have HG1 : Hid (w.grownBy w1 (some g)) := gb_trans (gb_any (World.grownBy_alloc w _ none) _) hg1 (fun j hj => .inr hj)
  have HO1 : Hid (∃ zk, Own w1 base g (N + 1) c zk) := by
    obtain ⟨g', c', e, h⟩ := own_more hown HO.out.2 (by omega)
    simp only [Value.slice.injEq, Option.some.injEq, Addr.mk.injEq, and_true, true_and] at e
    obtain ⟨rfl, rfl⟩ := e
    exact ⟨_, h⟩
  clear hown hg1
  go_loopw [3] (fun i wr => ∃ k : Nat, k ≤ N + 1 ∧ i = .int .i64 k ∧ w.grownBy wr (some g) ∧ ∃ zk, Own wr base g (N + 1) c zk) (fun i _ => N + 1 - (intOf i).toNat)
  case atStart => exact ⟨0, Nat.zero_le _, rfl, HG1.out, HO1.out⟩
  case round =>
    obtain ⟨k, hk, rfl, hgr, zk, hok⟩ := hrel
    have HGR : Hid (w.grownBy wr (some g)) := hgr
    have HOK : Hid (Own wr base g (N + 1) c zk) := hok
    clear hgr hok HG1 HO1
    by_cases hlt : k < N + 1
    · have hcell := HOK.out.cell k hlt
      have hfr := HOK.out.1.frozenAt k
      have hi : (k : Int) < (N : Int) + 1 := by omega
      go_wp2
      go_roundw
      case rel => exact ⟨k + 1, by omega, by go_num, gb_trans HGR.out (gb_set rfl) (fun j hj => .inr hj), _, HOK.out.set k 201 (by omega)⟩
      case measure => simp [intOf]; omega
    · go_wp2
      go_loopw [4] (fun i wq => ∃ k : Nat, k ≤ N ∧ i = .int .i64 k ∧ w.grownBy wq (some g) ∧ ∃ zk, Own wq base g (N + 1) c zk) (fun i _ => N - (intOf i).toNat)
      case atStart => exact ⟨0, Nat.zero_le _, rfl, HGR.out, _, HOK.out⟩
      case round =>
        obtain ⟨q, hq, rfl, hgq, zq, hoq⟩ := hrel
        have HGQ : Hid (w.grownBy wr (some g)) := hgq
        have HOQ : Hid (Own wr base g (N + 1) c zq) := hoq
        clear hgq hoq HOK HGR
        by_cases hlt : q < N
        · have hcell := HOQ.out.cell q (by omega)
          have hfr := HOQ.out.1.frozenAt q
          have hi : (q : Int) < (N : Int) := by omega
          go_wp2
          go_roundw
          case rel => exact ⟨q + 1, by omega, by go_num, gb_trans HGQ.out (gb_set rfl) (fun j hj => .inr hj), _, HOQ.out.set q 201 (by omega)⟩
          case measure => simp [intOf]; omega
        · go_wp2
          go_end0
          exact ⟨rfl, HGQ.out⟩
theorem spoil_any (base g N c : Nat) (ys : List Int) (w : World) (ho : Own w base g N c ys) (hN : N ≤ 140737488351300) :
    Calls Try.prog 22 #[.slice (some ⟨g, 0, none⟩) N c] w fun e w' => e = .returned (.tuple #[]) ∧ w.grownBy w' (some g) := by
  have hc := ho.cap.1
  by_cases h : N + 1 ≤ c
  · exact spoil_fits base g N c ys w ho h (by omega)
  · obtain rfl : c = N := by omega
    exact spoil_own base g c ys w ho hN
end Go.Proofs.Ytngkmpmhodgfeaa
