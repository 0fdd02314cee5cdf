/- The document's own Unframe. -/
import Derived.Test.YtngkmpmhodgfeaaCtext
import Derived.Lib.SlBytesRow
import Derived.Deep.RegionHeld3
namespace Go.Proofs.Ytngkmpmhodgfeaa
open Go.RowKit
set_option linter.unusedVariables false

set_option maxHeartbeats 400000 in
theorem runframe_early (a : Option Addr) (zs : List Int) (L cap : Nat) (p u1 u2 u3 r3 : Int) (w : World) (hr : Rd w a zs) (hL : zs.length = L) (hz : (L : Int) ≤ 140737488355000) (hU : uintR zs p = (u1, u2, u3))
    (hR : u3 ≠ 0 ∧ r3 = u3 ∨ u3 = 0 ∧ 65536 < u1 ∧ r3 = 23 ∨ u3 = 0 ∧ u1 ≤ 65536 ∧ (L : Int) - u2 < u1 + 4 ∧ r3 = 20) :
    Calls Try.prog 31 #[.slice a L cap, .int .i64 p] w fun e w' => e = .returned (.tuple #[.slice none 0 0, .int .i64 0, .int .i64 r3]) ∧ w = w' := by
  have HC := ruint a zs L cap p u1 u2 u3 w hr hL hz hU
  rcases hR with ⟨h3, rfl⟩ | ⟨rfl, h1, rfl⟩ | ⟨rfl, h1, h2, rfl⟩
  · have e3 : (r3 != 0) = true := by simpa using h3
    clear hr hL hU h3
    go_enter Try.func31, Try.ntmps31
    go_wp2_with fail
    refine HC.mono ?_
    rintro e w' ⟨rfl, rfl⟩
    go_wp2
    go_ret3
    exact ⟨rfl, rfl⟩
  · have hok := uintR_ok hr.byte hU
    have hub : 0 ≤ u1 ∧ u1 ≤ 18446744073709551615 := by omega
    have hd : decide (65536 < u1) = true := by simpa using h1
    clear hr hL hU hok h1
    go_enter Try.func31, Try.ntmps31
    go_wp2_with fail
    refine HC.mono ?_
    rintro e w' ⟨rfl, rfl⟩
    go_wp2
    go_ret3
    exact ⟨rfl, rfl⟩
  · have hok := uintR_ok hr.byte hU
    have hub : 0 ≤ u1 ∧ u1 ≤ 65536 := by omega
    have hub2 : 0 ≤ u2 ∧ u2 ≤ (L : Int) := by omega
    have hd : decide (65536 < u1) = false := by simp; omega
    have hd2 : decide ((L : Int) - u2 < u1 + 4) = true := by simpa using h2
    clear hr hL hU hok h1 h2
    go_enter Try.func31, Try.ntmps31
    go_wp2_with fail
    refine HC.mono ?_
    rintro e w' ⟨rfl, rfl⟩
    go_wp2
    go_ret3
    exact ⟨rfl, rfl⟩

theorem rsame_go (a b : Option Addr) (xs ys : List Int) (L M c d : Nat) (R : Bool) (w : World) (hx : Rd w a xs) (hy : Rd w b ys) (hL : xs.length = L) (hM : ys.length = M) (hR : decide (xs = ys) = R) :
    Calls Try.prog 50 #[.slice a L c, .slice b M d] w fun e w' => e = .returned (.bool R) ∧ w = w' := by
  subst hR
  exact rsame a b xs ys L M c d w hx hy hL hM

set_option maxHeartbeats 1000000 in
theorem runframe_late (a : Option Addr) (zs : List Int) (L cap : Nat) (p : Int) (n k : Nat) (rec : List Int) (ok : Bool) (w : World) (hr : Rd w a zs) (hL : zs.length = L) (hcap : L ≤ cap) (hz : (L : Int) ≤ 140737488355000) (hU : uintR zs p = ((n : Int), (k : Int), 0))
    (hn : n ≤ 65536) (hk : k + 4 + n ≤ L) (hrec : (zs.drop (k + 4)).take n = rec) (hok : decide (four (sumR rec) = (zs.drop k).take 4) = ok) :
    Calls Try.prog 31 #[.slice a L cap, .int .i64 p] w fun e w' => w.grownBy w' none ∧ (ok = false ∧ e = .returned (.tuple #[.slice none 0 0, .int .i64 0, .int .i64 22]) ∨ ok = true ∧ ∃ g c, e = .returned (.tuple #[.slice (some ⟨g, 0, none⟩) n c, .int .i64 ((k : Int) + 4 + n), .int .i64 0]) ∧ Own w' w.heap.size g n c rec) := by
  have HC := ruint a zs L cap p n k 0 w hr hL hz hU
  obtain ⟨b, off, rfl, hc⟩ := hr.at (by omega)
  have hw1 := rd_window hc hr.2 (k + 4) n (by omega)
  have hw2 := rd_window hc hr.2 k 4 (by omega)
  rw [hrec] at hw1
  obtain ⟨S, hS⟩ : ∃ S, sumR rec = S := ⟨_, rfl⟩
  have hSb := sumR_bd rec hw1.1.2
  rw [hS] at hSb hok
  have HS : Hid (sumR rec = S) := hS
  have HOK : Hid (decide (four S = (zs.drop k).take 4) = ok) := hok
  have HW1 : Hid (Rd w (some ⟨b, off + (k + 4), none⟩) rec ∧ rec.length = n) := hw1
  have HW2 : Hid (Rd w (some ⟨b, off + k, none⟩) ((zs.drop k).take 4) ∧ ((zs.drop k).take 4).length = 4) := hw2
  have hd : decide ((65536 : Int) < (n : Int)) = false := by simp; omega
  have hd2 : decide ((L : Int) - (k : Int) < (n : Int) + 4) = false := by simp; omega
  clear hr hU hc hw1 hw2 hS hok hL hrec
  by_cases hck : cap = k + 4
  · have hn0 : n = 0 := by omega
    subst hn0
    have hrec0 : rec = [] := List.eq_nil_of_length_eq_zero HW1.out.2
    subst hck
    have HO1 : Hid (Own (w.alloc (.cells #[] 5)) w.heap.size w.heap.size 0 0 rec) := by
      rw [hrec0]; exact own_empty w
    have HG1 : Hid (w.grownBy (w.alloc (.cells #[] 5)) none) := World.grownBy_alloc w _ none
    clear hrec0
    go_enter Try.func31, Try.ntmps31
    go_wp2_with fail
    refine HC.mono ?_
    rintro e w' ⟨rfl, rfl⟩
    go_wp2
    have hwrp : IntKind.i64.wrap ((k : Int) + 4) = (k : Int) + 4 := by
      simp [IntKind.wrap, IntKind.bits, IntKind.signed]
      split <;> omega
    have hsl : ∀ W : World, (Instr.slice 22 (.slice (some ⟨b, off, none⟩) L (k + 4)) (some (.int .i64 (k : Int))) (some (.int .i64 ((k : Int) + 4))) none).run Try.prog W = .ok (.slice (some ⟨b, off + k, none⟩) 4 ((k + 4) - k)) W := by
      intro W
      have h := Go.Lib.run_slice_window (P := Try.prog) W 22 5 Try.underlying22 (fun _ => by kernel_rfl) b off L ((k + 4)) k (k + 4) (by omega) (by omega)
      have e4 : k + 4 - k = 4 := by omega
      simp only [e4] at h ⊢
      exact h
    cases ok
    all_goals
      go_region_held3 (fun _ => True) (trivial) (first | (go_at_call 20; refine (rsum (some ⟨w.heap.size, 0, none⟩) rec 0 0 S _ ?_ HW1.out.2 (by omega) HS.out).mono ?_; exact HO1.out.drew.rd; rintro e w' ⟨rfl, rfl⟩) | (go_at_call 41; refine (rfour S _ hSb).mono ?_; rintro e w2 ⟨g2, rfl, ho2, hg2⟩) | (go_at_call 50; refine (rsame_go _ _ _ _ 4 4 _ _ _ _ ho2.rd (HW2.out.1.grown (gb_trans (gb_drew HG1.out) hg2 (by simp)) (by simp)) rfl HW2.out.2 HOK.out).mono ?_; rintro e w' ⟨rfl, rfl⟩))
      go_wp2
      go_ret3
      refine ⟨gb_trans (gb_drew HG1.out) hg2 (by simp), ?_⟩
      first | exact Or.inl ⟨rfl, rfl⟩ | exact rfl | exact Or.inr ⟨rfl, w.heap.size, 0, by simp, (HO1.out.drew.kept hg2 (by simp))⟩ | exact ⟨w.heap.size, 0, by simp, (HO1.out.drew.kept hg2 (by simp))⟩
  · have hck' : k + 4 < cap := by omega
    clear hck
    go_enter Try.func31, Try.ntmps31
    go_wp2_with fail
    refine HC.mono ?_
    rintro e w' ⟨rfl, rfl⟩
    go_wp2_with (at_builtin; refine wpList_append_rd rfl (.tmp 31) (.tmp 40) rfl w.heap.size w.heap.size 0 0 [] rfl (own_empty w) (some ⟨b, off + (k + 4), none⟩) rec (k + 4 + n - (k + 4)) (cap - (k + 4)) rfl (by have := HW1.out.2; omega) (HW1.out.1.grown (World.grownBy_alloc w _ none) (by simp)) (by simp) (by omega) ?_; intro g1 c1 w1 ho1 hg1)
    have HO1 : Hid (Own w1 w.heap.size g1 n c1 rec) := by
      have h := ho1
      rw [List.nil_append, show 0 + (k + 4 + n - (k + 4)) = n by omega] at h
      exact h
    have HG1 : Hid (w.grownBy w1 none) := gb_trans (World.grownBy_alloc w _ none) hg1 (fun i hi => .inl (by simp at hi; omega))
    clear ho1 hg1
    have hwrp : IntKind.i64.wrap ((k : Int) + 4) = (k : Int) + 4 := by
      simp [IntKind.wrap, IntKind.bits, IntKind.signed]
      split <;> omega
    have hsl : ∀ W : World, (Instr.slice 22 (.slice (some ⟨b, off, none⟩) L cap) (some (.int .i64 (k : Int))) (some (.int .i64 ((k : Int) + 4))) none).run Try.prog W = .ok (.slice (some ⟨b, off + k, none⟩) 4 (cap - k)) W := by
      intro W
      have h := Go.Lib.run_slice_window (P := Try.prog) W 22 5 Try.underlying22 (fun _ => by kernel_rfl) b off L (cap) k (k + 4) (by omega) (by omega)
      have e4 : k + 4 - k = 4 := by omega
      simp only [e4] at h ⊢
      exact h
    cases ok
    all_goals
      go_region_held3 (fun _ => True) (trivial) (first | (go_at_call 20; refine (rsum (some ⟨g1, 0, none⟩) rec n c1 S _ ?_ HW1.out.2 (by omega) HS.out).mono ?_; exact HO1.out.drew.rd; rintro e w' ⟨rfl, rfl⟩) | (go_at_call 41; refine (rfour S _ hSb).mono ?_; rintro e w2 ⟨g2, rfl, ho2, hg2⟩) | (go_at_call 50; refine (rsame_go _ _ _ _ 4 4 _ _ _ _ ho2.rd (HW2.out.1.grown (gb_trans (gb_drew HG1.out) hg2 (by simp)) (by simp)) rfl HW2.out.2 HOK.out).mono ?_; rintro e w' ⟨rfl, rfl⟩))
      go_wp2
      go_ret3
      refine ⟨gb_trans (gb_drew HG1.out) hg2 (by simp), ?_⟩
      first | exact Or.inl ⟨rfl, rfl⟩ | exact rfl | exact Or.inr ⟨rfl, g1, c1, rfl, (HO1.out.drew.kept hg2 (by simp))⟩ | exact ⟨g1, c1, rfl, (HO1.out.drew.kept hg2 (by simp))⟩
end Go.Proofs.Ytngkmpmhodgfeaa
