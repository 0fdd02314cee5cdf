/- What was handed out is written over. -/
import Derived.Test.YtmljokpghhfcjaaUse
import Derived.ArgAppend
namespace Go.Proofs.Ytmljokpghhfcjaa
open Go.RowKit

theorem hold_olds {w : World} {base g n cap : Nat} {ys : List Int} (h : Own w base g n cap ys) : ∀ b, some (⟨g, 0, none⟩ : Addr) = some b → ∀ j u, (bs ys)[j]? = some u → w.cell? (b.add j) = some u := by
  intro b hb
  obtain rfl := Option.some.inj hb
  exact h.rd.news

theorem own_more {w : World} {base n : Nat} {v : Value} {ys : List Int} (h : w.ownsRow base 5 1 v n (bs ys ++ bs [201])) (hz : ∀ z ∈ ys, 0 ≤ z ∧ z ≤ 255) (hn : 0 < n) : ∃ g cap, v = .slice (some ⟨g, 0, none⟩) n cap ∧ Own w base g n cap (ys ++ [201]) := by
  rw [← bs_app] at h
  refine Own.of h (fun e => ?_) fun z hm => ?_
  · obtain ⟨g, c, e', _⟩ := h.form hn
    rw [e] at e'; cases e'
  · rcases List.mem_append.1 hm with h1 | h1
    · exact hz z h1
    · simp at h1; omega

set_option maxHeartbeats 400000 in
theorem spoil_own (base g N : Nat) (ys : List Int) (w : World) (ho : Own w base g N N ys) (hN : N ≤ 140737488351300) :
    Calls Try.prog 16 #[.slice (some ⟨g, 0, none⟩) N N] w fun e w' => e = .returned (.tuple #[]) ∧ w.grownBy w' (some g) := by
  obtain ⟨i0, hi, hz0, hz1, hz2⟩ := info_parts info5
  have HO : Hid (Own w base g N N ys) := ho
  have HL : Hid ((bs ys).length = N * 1) := by show _ = _; rw [bs_len, ho.len]; omega
  have HOL : Hid (∀ b, some (⟨g, 0, none⟩ : Addr) = some b → ∀ j u, (bs ys)[j]? = some u → (w.alloc (.cells #[.int .u8 201] 5)).cell? (b.add j) = some u) := hold_olds (ho.kept (World.grownBy_alloc w _ none) (by simp))
  clear ho
  go_enter Try.func16, Try.ntmps16
  go_wp2_with (at_builtin; refine wpList_append_grows _ rfl (.tmp 5) (.tmp 6) 22 rfl 5 i0 (.int .u8 0) 1 1 Try.underlying22 hi hz0 hz1 hz2 rfl (by decide) (some ⟨g, 0, none⟩) N N (bs ys) rfl (by simp) HL.out HOL.out ⟨w.heap.size, 0, none⟩ 1 1 (bs [201]) rfl rfl (news_at (cs := bs [201])) (bs_one _) (by omega) (by unfold maxLen; omega) (by omega) ?_; intro v' w1 hown hg1; obtain ⟨g1, c1, rfl, ho1⟩ := own_more hown HO.out.2 (by omega))
  have HG1 : Hid (w.grownBy w1 none) := gb_trans (World.grownBy_alloc w _ none) hg1 (by simp)
  have HO1 : Hid (∃ b zk, w.heap.size ≤ b ∧ Own w1 b g1 (N + 1) c1 zk) := ⟨_, _, by simp, ho1⟩
  clear hown hg1 ho1
  go_loopw [3] (fun i wr => ∃ k : Nat, k ≤ N + 1 ∧ i = .int .i64 k ∧ w.grownBy wr none ∧ ∃ b zk, w.heap.size ≤ b ∧ Own wr b g1 (N + 1) c1 zk) (fun i _ => N + 1 - (intOf i).toNat)
  case atStart => exact ⟨0, Nat.zero_le _, rfl, HG1.out, HO1.out⟩
  case round =>
    obtain ⟨k, hk, rfl, hgr, b, zk, hb, hok⟩ := hrel
    have HGR : Hid (w.grownBy wr none) := hgr
    have HOK : Hid (Own wr b g1 (N + 1) c1 zk) := hok
    clear hgr hok HG1 HO1
    by_cases hlt : k < N + 1
    · have hcell := HOK.out.cell k hlt
      have hfr := HOK.out.1.frozenAt k
      have hi : (k : Int) < (N : Int) + 1 := by omega
      go_wp2
      go_roundw
      case rel => exact ⟨k + 1, by omega, by go_num, gb_trans HGR.out (gb_set rfl) (fun j hj => .inl (by simp at hj; have := HOK.out.ge; omega)), b, _, hb, HOK.out.set k 201 (by omega)⟩
      case measure => simp [intOf]; omega
    · have HOA : Hid (Own wr base g N N ys) := HO.out.kept HGR.out (by simp)
      clear HOK
      go_wp2
      go_loopw [4] (fun i wq => ∃ k : Nat, k ≤ N ∧ i = .int .i64 k ∧ w.grownBy wq (some g) ∧ ∃ zk, Own wq base g N N zk) (fun i _ => N - (intOf i).toNat)
      case atStart => exact ⟨0, Nat.zero_le _, rfl, gb_any HGR.out _, _, HOA.out⟩
      case round =>
        obtain ⟨q, hq, rfl, hgq, zq, hoq⟩ := hrel
        have HGQ : Hid (w.grownBy wr (some g)) := hgq
        have HOQ : Hid (Own wr base g N N zq) := hoq
        clear hgq hoq HOA HGR
        by_cases hlt : q < N
        · have hcell := HOQ.out.cell q hlt
          have hfr := HOQ.out.1.frozenAt q
          have hi : (q : Int) < (N : Int) := by omega
          go_wp2
          go_roundw
          case rel => exact ⟨q + 1, by omega, by go_num, gb_trans HGQ.out (gb_set rfl) (fun j hj => .inr hj), _, HOQ.out.set q 201 (by omega)⟩
          case measure => simp [intOf]; omega
        · go_wp2
          go_end0
          exact ⟨rfl, HGQ.out⟩

set_option maxHeartbeats 400000 in
theorem spoil_nil (w : World) :
    Calls Try.prog 16 #[.slice none 0 0] w fun e w' => e = .returned (.tuple #[]) ∧ w.grownBy w' none := by
  obtain ⟨i0, hi, hz0, hz1, hz2⟩ := info_parts info5
  go_enter Try.func16, Try.ntmps16
  go_wp2_with (at_builtin; refine wpList_append_grows _ rfl (.tmp 5) (.tmp 6) 22 rfl 5 i0 (.int .u8 0) 1 1 Try.underlying22 hi hz0 hz1 hz2 rfl (by decide) none 0 0 (bs []) rfl (by simp) rfl (by simp) ⟨w.heap.size, 0, none⟩ 1 1 (bs [201]) rfl rfl (news_at (cs := bs [201])) (bs_one _) (by omega) (by unfold maxLen; omega) (by omega) ?_; intro v' w1 hown hg1; obtain ⟨g1, c1, rfl, ho1⟩ := own_more (ys := []) hown (by simp) (by omega))
  have HG1 : Hid (w.grownBy w1 none) := gb_trans (World.grownBy_alloc w _ none) hg1 (by simp)
  have HO1 : Hid (∃ b zk, w.heap.size ≤ b ∧ Own w1 b g1 (1) c1 zk) := ⟨_, _, by simp, ho1⟩
  clear hown hg1 ho1
  go_loopw [3] (fun i wr => ∃ k : Nat, k ≤ 1 ∧ i = .int .i64 k ∧ w.grownBy wr none ∧ ∃ b zk, w.heap.size ≤ b ∧ Own wr b g1 (1) c1 zk) (fun i _ => 1 - (intOf i).toNat)
  case atStart => exact ⟨0, Nat.zero_le _, rfl, HG1.out, HO1.out⟩
  case round =>
    obtain ⟨k, hk, rfl, hgr, b, zk, hb, hok⟩ := hrel
    have HGR : Hid (w.grownBy wr none) := hgr
    have HOK : Hid (Own wr b g1 (1) c1 zk) := hok
    clear hgr hok HG1 HO1
    by_cases hlt : k < 1
    · have hcell := HOK.out.cell k hlt
      have hfr := HOK.out.1.frozenAt k
      have hi : (k : Int) < 1 := by omega
      go_wp2
      go_roundw
      case rel => exact ⟨k + 1, by omega, by go_num, gb_trans HGR.out (gb_set rfl) (fun j hj => .inl (by simp at hj; have := HOK.out.ge; omega)), b, _, hb, HOK.out.set k 201 (by omega)⟩
      case measure => simp [intOf]; omega
    · clear HOK
      go_wp2
      refine wp_loop_rounds 1 ?_
      rw [rounds_succ]
      go_wp2
      go_end0
      exact ⟨rfl, HGR.out⟩
end Go.Proofs.Ytmljokpghhfcjaa
