/- What every program answers that is one. -/
import Derived.Test.YtbncglhgllialaaDoorMface
namespace Go.Proofs.YtbncglhgllialaaDoor
open Go.RowKit
set_option linter.unusedVariables false

theorem like_of (p s : ByteArray) : likeS p s = likeL (p.data.toList.map fun b => (b.toNat : Int)) (s.data.toList.map fun b => (b.toNat : Int)) := rfl
theorem small_alts (p : ByteArray) (h : p.size ≤ 140737488356000) : ∀ a ∈ alts (sInts p), a.length ≤ 140737488356000 := fun a ha => by
  have := alts_len _ a ha
  rw [sInts_len] at this
  omega
theorem k_like1 : likeS ⟨#[97, 42, 99, 124, 100]⟩ ⟨#[97, 98, 99]⟩ = true := by
  rw [like_of]
  show likeL [97, 42, 99, 124, 100] [97, 98, 99] = true
  rw [show ([97, 42, 99, 124, 100] : List Int) = [97, 42, 99] ++ 124 :: [100] from rfl, like_or, like_plain (by decide), show ([97, 42, 99] : List Int) = [97] ++ ([42] ++ [99]) from rfl]
  have : glob ([97] ++ ([42] ++ [99])) [97, 98, 99] = true := (glob_app _ _ _).2 ⟨[97], [98, 99], rfl, (glob_single (by decide) _).2 rfl, (glob_app _ _ _).2 ⟨[98], [99], rfl, glob_all _, (glob_single (by decide) _).2 rfl⟩⟩
  rw [this]
  rfl
theorem k_like2 : likeS ⟨#[97]⟩ ⟨#[97, 98]⟩ = false := by
  rw [like_of]
  show likeL [97] [97, 98] = false
  rw [like_plain (by decide), glob_self (by decide)]
  decide
theorem k_mchk : mchk [(9, ⟨#[97]⟩, ⟨#[]⟩)] = 40 := by decide
theorem k_says1 : saysR [(2, ⟨#[97]⟩, ⟨#[120]⟩)] [] = true := by
  unfold saysR
  rw [List.all_cons, say2]
  decide
theorem k_says2 : saysR [(1, ⟨#[97]⟩, ⟨#[120]⟩)] [] = false := by
  unfold saysR
  rw [List.all_cons, say1]
  decide
set_option maxHeartbeats 1000000 in
theorem awake_mat (w : World) (hm : Mx w) : Calls Tryd.prog 15 #[] w fun e w' => e = .returned (.bool true) ∧ w.grownBy w' none := by
  have H1 : Hid (∀ w, Mx w → Calls Tryd.prog 16 #[.string ⟨#[97, 42, 99, 124, 100]⟩, .string ⟨#[97, 98, 99]⟩] w fun e w' => e = .returned (.bool true) ∧ w.grownBy w' none) := fun w hm => f_like _ _ _ w (by decide) (by decide) hm k_like1
  have H2 : Hid (∀ w, Mx w → Calls Tryd.prog 16 #[.string ⟨#[97]⟩, .string ⟨#[97, 98]⟩] w fun e w' => e = .returned (.bool false) ∧ w.grownBy w' none) := fun w hm => f_like _ _ _ w (by decide) (by decide) hm k_like2
  have H3 : Hid (∀ w : World, Calls Tryd.prog 9 #[.slice (some ⟨w.heap.size, 0, none⟩) 1 1] (w.alloc (.cells #[.int .i64 9, .string ⟨#[97]⟩, .string ⟨#[]⟩] 35)) fun e w' => e = .returned (.int .i64 40) ∧ w.grownBy w' none) := fun w => by
    refine (f_mcheck (some ⟨w.heap.size, 0, none⟩) [(9, ⟨#[97]⟩, ⟨#[]⟩)] 1 1 _ (w.alloc (.cells (matE.flat [(9, ⟨#[97]⟩, ⟨#[]⟩)]).toArray 35)) (mlit w _) rfl (by omega) k_mchk).mono ?_
    rintro e w' ⟨rfl, hg⟩
    exact ⟨rfl, (World.grownBy_alloc w _ none).trans hg⟩
  have H4 : Hid (∀ w : World, Mx w → Calls Tryd.prog 10 #[.slice (some ⟨w.heap.size, 0, none⟩) 1 1, .slice none 0 0] (w.alloc (.cells #[.int .i64 2, .string ⟨#[97]⟩, .string ⟨#[120]⟩] 35)) fun e w' => e = .returned (.bool true) ∧ w.grownBy w' none) := fun w hm => by
    refine (f_says (some ⟨w.heap.size, 0, none⟩) none [(2, ⟨#[97]⟩, ⟨#[120]⟩)] [] 1 0 1 0 _ (w.alloc (.cells (matE.flat [(2, ⟨#[97]⟩, ⟨#[120]⟩)]).toArray 35)) (mlit w _) (SRd.nil _ _) rfl rfl (by omega) (by omega) (by simp; decide) (by simp) (hm.grown (World.grownBy_alloc w _ none)) k_says1).mono ?_
    rintro e w' ⟨rfl, hg⟩
    exact ⟨rfl, (World.grownBy_alloc w _ none).trans hg⟩
  have H5 : Hid (∀ w : World, Mx w → Calls Tryd.prog 10 #[.slice (some ⟨w.heap.size, 0, none⟩) 1 1, .slice none 0 0] (w.alloc (.cells #[.int .i64 1, .string ⟨#[97]⟩, .string ⟨#[120]⟩] 35)) fun e w' => e = .returned (.bool false) ∧ w.grownBy w' none) := fun w hm => by
    refine (f_says (some ⟨w.heap.size, 0, none⟩) none [(1, ⟨#[97]⟩, ⟨#[120]⟩)] [] 1 0 1 0 _ (w.alloc (.cells (matE.flat [(1, ⟨#[97]⟩, ⟨#[120]⟩)]).toArray 35)) (mlit w _) (SRd.nil _ _) rfl rfl (by omega) (by omega) (by simp; decide) (by simp) (hm.grown (World.grownBy_alloc w _ none)) k_says2).mono ?_
    rintro e w' ⟨rfl, hg⟩
    exact ⟨rfl, (World.grownBy_alloc w _ none).trans hg⟩
  go_enter Tryd.func15, Tryd.ntmps15
  go_wp2_with fail
  refine (H1.out _ hm).mono ?_
  rintro e w1 ⟨rfl, hg1⟩
  have HG1 : Hid (w.grownBy w1 none) := hg1
  clear hg1
  go_wp2_with fail
  refine (H2.out _ (hm.grown HG1.out)).mono ?_
  rintro e w2 ⟨rfl, hg2⟩
  have HG2 : Hid (w.grownBy w2 none) := HG1.out.trans hg2
  clear hg2
  go_wp2_with fail
  refine (H3.out _).mono ?_
  rintro e w3 ⟨rfl, hg3⟩
  have HG3 : Hid (w.grownBy w3 none) := HG2.out.trans hg3
  clear hg3
  go_wp2_with fail
  refine (H4.out _ (hm.grown HG3.out)).mono ?_
  rintro e w4 ⟨rfl, hg4⟩
  have HG4 : Hid (w.grownBy w4 none) := HG3.out.trans hg4
  clear hg4
  go_wp2_with fail
  refine (H5.out _ (hm.grown HG4.out)).mono ?_
  rintro e w5 ⟨rfl, hg5⟩
  have HG5 : Hid (w.grownBy w5 none) := HG4.out.trans hg5
  clear hg5
  go_wp2
  go_ret
  exact ⟨rfl, HG5.out⟩
end Go.Proofs.YtbncglhgllialaaDoor
