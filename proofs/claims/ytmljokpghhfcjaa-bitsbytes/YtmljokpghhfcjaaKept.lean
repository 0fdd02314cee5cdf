/- What was lent is as it was; then it is written over. -/
import Derived.Test.YtmljokpghhfcjaaSame
namespace Go.Proofs.Ytmljokpghhfcjaa
open Go.RowKit

theorem bs_set (zs : List Int) (j : Nat) (u : Int) : bs (zs.set j u) = (bs zs).set j (.int .u8 u) := by simp [bs, List.map_set]
theorem Own.set {w : World} {base g n cap : Nat} {zs : List Int} (h : Own w base g n cap zs) (j : Nat) (u : Int) (hu : 0 ≤ u ∧ u ≤ 255) : Own (w.setCell ⟨g, j, none⟩ (.int .u8 u)) base g n cap (zs.set j u) := by
  refine ⟨?_, fun z hz => ?_⟩
  · rw [bs_set]; exact (h.1.stored j _).1
  · rcases List.mem_or_eq_of_mem_set hz with h1 | h1
    · exact h.2 z h1
    · subst h1; exact hu

theorem Own.tail {w : World} {base g n cap : Nat} {xs ys : List Int} (h : Own w base g n cap (xs ++ ys)) (hn : xs.length + ys.length = n) : Rd w (some ⟨g, xs.length, none⟩) ys := by
  refine ⟨.inr ⟨g, xs.length, rfl, fun i hi => ?_⟩, fun z hz => h.2 z (by simp [hz])⟩
  rw [h.cell (xs.length + i) (by omega)]
  simp [List.getD_eq_getElem?_getD, List.getElem?_append_right]
theorem Own.headR {w : World} {base g n cap : Nat} {xs ys : List Int} (h : Own w base g n cap (xs ++ ys)) (hn : xs.length + ys.length = n) : Rd w (some ⟨g, 0, none⟩) xs := by
  refine ⟨.inr ⟨g, 0, rfl, fun i hi => ?_⟩, fun z hz => h.2 z (by simp [hz])⟩
  rw [Nat.zero_add, h.cell i (by omega)]
  simp [List.getD_eq_getElem?_getD, List.getElem?_append_left hi]

theorem rd_lit (w : World) (zs : List Int) (hz : ∀ z ∈ zs, 0 ≤ z ∧ z ≤ 255) : Rd (w.alloc (.cells (bs zs).toArray 5)) (some ⟨w.heap.size, 0, none⟩) zs := by
  refine ⟨.inr ⟨w.heap.size, 0, rfl, fun i hi => ?_⟩, hz⟩
  have := news_at (w := w) (cs := bs zs) (t := 5) i (.int .u8 (zs.getD i 0)) (by simp [bs, List.getElem?_eq_getElem hi, List.getD_eq_getElem?_getD])
  have e : (⟨w.heap.size, 0, none⟩ : Addr).add i = ⟨w.heap.size, 0 + i, none⟩ := by
    by_cases h0 : i = 0
    · subst h0; rfl
    · simp [Addr.add, h0]
  rwa [e] at this

set_option maxHeartbeats 1000000 in
theorem kept_any (a : Option Addr) (zs : List Int) (base g c cap : Nat) (w : World) (hr : Rd w a zs) (ho : Own w base g (zs.length + 2) c (zs ++ [201, 201])) (hz : zs.length ≤ 140737488351232) :
    Calls Try.prog 12 #[.slice (some ⟨g, 0, none⟩) zs.length c, .slice a zs.length cap] w fun e w' => e = .returned (.bool true) ∧ w.grownBy w' (some g) := by
  have HR : Hid (Rd w a zs) := hr
  have HO : Hid (Own w base g (zs.length + 2) c (zs ++ [201, 201])) := ho
  have hcap := ho.cap.1
  have h1 : Hid (Rd w (some ⟨g, 0, none⟩) zs) := ho.headR (by simp)
  have h2 : Hid (Rd w (some ⟨g, zs.length, none⟩) [201, 201]) := ho.tail (by simp)
  obtain ⟨L, hL⟩ : ∃ L, L = zs.length := ⟨_, rfl⟩
  have H5 : Hid (zs.length = L) := hL.symm
  rw [← hL] at hz hcap HO h2 ⊢
  clear hr hL ho
  go_enter Try.func12, Try.ntmps12
  go_wp2_with fail
  refine (same_any (some ⟨g, 0, none⟩) a zs zs L L c cap _ h1.out HR.out H5.out H5.out (by omega)).mono ?_
  rintro e w1 ⟨rfl, hg1⟩
  have htt : decide (zs = zs) = true := by simp
  rw [htt]
  clear htt
  go_wp2_with fail
  have ha : w.grownBy (w1.alloc (.cells #[Value.int .u8 201, Value.int .u8 201] 5)) none := gb_trans hg1 (World.grownBy_alloc w1 _ none) (by simp)
  refine (same_any (some ⟨g, L, none⟩) (some ⟨w1.heap.size, 0, none⟩) [201, 201] [201, 201] 2 2 (c - L) 2 _ (h2.out.grown ha (by simp)) (rd_lit w1 [201, 201] (by simp)) rfl rfl (by omega)).mono ?_
  rintro e w2 ⟨rfl, hg2⟩
  have htt : decide (([201, 201] : List Int) = [201, 201]) = true := by simp
  rw [htt]
  clear htt
  have hg3 : w.grownBy w2 none := gb_trans ha hg2 (by simp)
  have HG : Hid (w.grownBy w2 none) := hg3
  have HO2 : Hid (Own w2 base g (L + 2) c (zs ++ [201, 201])) := HO.out.kept hg3 (by simp)
  clear ha hg1 hg2 hg3
  go_wp2
  go_loopw [7] (fun i wr => ∃ k : Nat, k ≤ L + 2 ∧ i = .int .i64 k ∧ w2.grownBy wr (some g) ∧ ∃ zk, Own wr base g (L + 2) c zk) (fun i _ => L + 2 - (intOf i).toNat)
  case atStart => exact ⟨0, Nat.zero_le _, rfl, World.grownBy.refl _ _, _, HO2.out⟩
  case round =>
    obtain ⟨k, hk, rfl, hgr, zk, hok⟩ := hrel
    have HGR : Hid (w2.grownBy wr (some g)) := hgr
    have HOK : Hid (Own wr base g (L + 2) c zk) := hok
    clear hgr hok
    by_cases hlt : k < L + 2
    · have hcell := HOK.out.cell k hlt
      have hfr := HOK.out.1.frozenAt k
      have hi : (k : Int) < (L : Int) + 2 := by omega
      go_wp2
      go_roundw
      case rel => exact ⟨k + 1, by omega, by go_num, gb_trans HGR.out (gb_set rfl) (fun j hj => .inr hj), _, HOK.out.set k 201 (by omega)⟩
      case measure => simp [intOf]; omega
    · go_wp2
      go_ret
      exact ⟨rfl, gb_trans (gb_any HG.out _) HGR.out (fun j hj => .inr hj)⟩
end Go.Proofs.Ytmljokpghhfcjaa
