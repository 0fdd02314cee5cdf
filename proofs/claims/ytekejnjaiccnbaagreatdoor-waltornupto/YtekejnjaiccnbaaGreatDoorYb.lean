/- Package wal: Open, by what mend answers. -/
import Derived.Test.YtekejnjaiccnbaaGreatDoorNa
namespace Go.Proofs.YtekejnjaiccnbaaGreatDoor
open Go.RowKit Go.Maps Go.Sort
set_option linter.unusedVariables false
set_option maxRecDepth 20000

/-- mend's world: the new log's row p, three cells behind it. -/
structure MendIn (w W : World) (p d : Nat) (dir : ByteArray) : Prop where
  grown : w.grownBy W none
  row : WRow W p d dir ⟨#[]⟩ (.slice none 0 0) 0
  new_ : w.heap.size ≤ p
  size : W.heap.size = p + 4
/-- The world behind Open: mend's, the records' cell and the error's written. -/
def openW (w : World) (p : Nat) (v : Sl) : World := ((w.setCell ⟨p + 2, 0, none⟩ (slV v)).setCell ⟨p + 3, 0, none⟩ (.int .i64 0)).drew
set_option maxHeartbeats 8000000 in
theorem w_openG (d : Nat) (dir : ByteArray) (w : World) (hdir : dirB dir = true) (P : World → Nat → Sl → World → Prop)
    (hm : ∀ W p, MendIn w W p d dir → Calls Tryz.prog 45 #[.pointer (some ⟨p, 0, none⟩)] W fun e w' => ∃ v : Sl, e = .returned (slV v) ∧ P W p v w' ∧ ∀ k, p < k → k < W.heap.size → w'.heap[k]? = W.heap[k]?) :
    Calls Tryz.prog 13 #[.pointer (some ⟨d, 0, none⟩), .string dir] w fun e w' => ∃ W p v w5, MendIn w W p d dir ∧ P W p v w5 ∧ e = .returned (.tuple #[.pointer (some ⟨p, 0, none⟩), slV v, .int .i64 0]) ∧ w' = openW w5 p v := by
  have hds : dir.size ≤ 32 := by simp only [dirB, Bool.and_eq_true, decide_eq_true_eq] at hdir; exact hdir.2
  have HIF : Hid (Calls Tryz.prog 42 #[.string dir] w fun e w' => e = .returned (.bool true) ∧ w.grownBy w' none) := by
    have := w_isFolder dir (by omega) w
    rw [hdir] at this
    exact this
  have HMM : Hid (∀ W p, MendIn w W p d dir → Calls Tryz.prog 45 #[.pointer (some ⟨p, 0, none⟩)] W fun e w' => ∃ v : Sl, e = .returned (slV v) ∧ P W p v w' ∧ ∀ k, p < k → k < W.heap.size → w'.heap[k]? = W.heap[k]?) := hm
  have hmf : ∀ (fn : Fn) (first cap : Array Value) (w : World), (Instr.makeFunc fn first cap).run Tryz.prog w = .ok (.func fn first cap) w := fun _ _ _ _ => rfl
  clear hm
  go_enter Tryz.func13, Tryz.ntmps13
  go_wp2_with fail
  refine HIF.out.mono ?_
  rintro e w1 ⟨rfl, hg1⟩
  have HG1 : Hid (w.grownBy w1 none) := hg1
  clear hg1 HIF
  go_wp2_with fail
  obtain ⟨W3, eW3⟩ : ∃ W3, W3 = ((w1.alloc (.cells #[.pointer (some ⟨d, 0, none⟩), .string dir, .string ⟨#[]⟩, .slice none 0 0, .int .i64 0] 77)).alloc (.cells #[.pointer (some ⟨w1.heap.size, 0, none⟩)] 36)).alloc (.cells #[.slice none 0 0] 28) := ⟨_, rfl⟩
  obtain ⟨W4, eW4⟩ : ∃ W4, W4 = W3.alloc (.cells #[.int .i64 0] 37) := ⟨_, rfl⟩
  have hs1 : ∀ (w : World) o, (w.alloc o).heap.size = w.heap.size + 1 := fun w o => Array.size_push _
  have hz3 : W3.heap.size = w1.heap.size + 3 := by rw [eW3, hs1, hs1, hs1]
  have hz4 : W4.heap.size = w1.heap.size + 4 := by rw [eW4, hs1, hz3]
  have hr0 : WRow (w1.alloc (.cells #[.pointer (some ⟨d, 0, none⟩), .string dir, .string ⟨#[]⟩, .slice none 0 0, .int .i64 0] 77)) w1.heap.size d dir ⟨#[]⟩ (.slice none 0 0) 0 := World.rowIs_alloc w1 #[.pointer (some ⟨d, 0, none⟩), .string dir, .string ⟨#[]⟩, .slice none 0 0, .int .i64 0] 77 _ (five rfl rfl rfl rfl rfl)
  have hg14 : w1.grownBy W4 none := by
    rw [eW4, eW3]
    exact (((World.grownBy_alloc w1 _ none).trans (World.grownBy_alloc _ _ none)).trans (World.grownBy_alloc _ _ none)).trans (World.grownBy_alloc _ _ none)
  have hW4 : WRow W4 w1.heap.size d dir ⟨#[]⟩ (.slice none 0 0) 0 := by
    rw [eW4, eW3]
    exact ((hr0.alloc _).alloc _).alloc _
  have hq4 : W4.rowIs (w1.heap.size + 1) 36 1 (fun _ => .pointer (some ⟨w1.heap.size, 0, none⟩)) := by
    have := row1 (w1.alloc (.cells #[.pointer (some ⟨d, 0, none⟩), .string dir, .string ⟨#[]⟩, .slice none 0 0, .int .i64 0] 77)) (.pointer (some ⟨w1.heap.size, 0, none⟩)) 36
    rw [hs1] at this
    rw [eW4, eW3]
    exact (this.alloc _).alloc _
  have hr4 : W4.rowIs (w1.heap.size + 2) 28 1 (fun _ => .slice none 0 0) := by
    have := row1 ((w1.alloc (.cells #[.pointer (some ⟨d, 0, none⟩), .string dir, .string ⟨#[]⟩, .slice none 0 0, .int .i64 0] 77)).alloc (.cells #[.pointer (some ⟨w1.heap.size, 0, none⟩)] 36)) (.slice none 0 0) 28
    rw [hs1, hs1] at this
    rw [eW4, eW3]
    exact this.alloc _
  have hs4 : W4.rowIs (w1.heap.size + 3) 37 1 (fun _ => .int .i64 0) := by
    have := row1 W3 (.int .i64 0) 37
    rw [hz3] at this
    rw [eW4]
    exact this
  have hgw4 : w.grownBy W4 none := HG1.out.trans hg14
  have hMI : MendIn w W4 w1.heap.size d dir := ⟨hgw4, hW4, HG1.out.size, hz4⟩
  have HM := HMM.out W4 w1.heap.size hMI
  have HMI : Hid (MendIn w W4 w1.heap.size d dir) := hMI
  have HC := w_caught44 #[.pointer (some ⟨w1.heap.size + 1, 0, none⟩), .pointer (some ⟨w1.heap.size + 2, 0, none⟩)] (fun w2 => ∃ (v : Sl) (w5 : World), (P W4 w1.heap.size v w5 ∧ ∀ k, w1.heap.size < k → k < W4.heap.size → w5.heap[k]? = W4.heap[k]?) ∧ w2 = w5.setCell ⟨w1.heap.size + 2, 0, none⟩ (slV v)) W3 (by
    rw [← eW4, hz3]
    refine (w_open1 (w1.heap.size + 1) (w1.heap.size + 2) w1.heap.size (.slice none 0 0) W4 (fun v w5 => P W4 w1.heap.size v w5 ∧ ∀ k, w1.heap.size < k → k < W4.heap.size → w5.heap[k]? = W4.heap[k]?) (hq4.cell (i := 0) (by omega)) (HM.mono ?_)).mono ?_
    · rintro e w5 ⟨v, rfl, hp5, hk5⟩
      have hr5 := hr4.of_block (hk5 _ (by omega) hr4.lt)
      exact ⟨v, rfl, ⟨hp5, hk5⟩, hr5.cell (i := 0) (by omega), hr5.frozen 0⟩
    · rintro e w2 ⟨rfl, v, w5, hout, rfl, _⟩
      refine ⟨rfl, ⟨v, w5, hout, rfl⟩, ?_⟩
      have hs5 := (hs4.of_block (hout.2 _ (by omega) hs4.lt)).setOther (a := ⟨w1.heap.size + 2, 0, none⟩) (by show w1.heap.size + 3 ≠ w1.heap.size + 2; omega) (slV v)
      exact ⟨hs5.cell (i := 0) (by omega), hs5.frozen 0⟩)
  rw [hz3] at HC
  have HC : Hid (Calls Tryz.prog 43 #[.func (.func 44) #[] #[.pointer (some ⟨w1.heap.size + 1, 0, none⟩), .pointer (some ⟨w1.heap.size + 2, 0, none⟩)]] W3 fun e w' => e = .returned (.int .i64 0) ∧ ∃ w2, (∃ (v : Sl) (w5 : World), (P W4 w1.heap.size v w5 ∧ ∀ k, w1.heap.size < k → k < W4.heap.size → w5.heap[k]? = W4.heap[k]?) ∧ w2 = w5.setCell ⟨w1.heap.size + 2, 0, none⟩ (slV v)) ∧ w' = w2.setCell ⟨w1.heap.size + 3, 0, none⟩ (.int .i64 0)) := HC
  rw [← eW3, show w1.heap.size + 1 + 1 = w1.heap.size + 2 from rfl]
  have HQ4 : Hid (W4.rowIs (w1.heap.size + 1) 36 1 (fun _ => .pointer (some ⟨w1.heap.size, 0, none⟩))) := hq4
  have HR4 : Hid (W4.rowIs (w1.heap.size + 2) 28 1 (fun _ => .slice none 0 0)) := hr4
  have HGW4 : Hid (w.grownBy W4 none) := hgw4
  have HZ4 : Hid (W4.heap.size = w1.heap.size + 4) := hz4
  clear HM hs1 hz3 hz4 hr0 hg14 hW4 hq4 hr4 hs4 hgw4 eW3 eW4 hMI
  refine HC.out.mono ?_
  rintro e w3 ⟨rfl, w2, ⟨v, w5, hout, rfl⟩, rfl⟩
  obtain ⟨hp5, hk5⟩ := hout
  have cq : ((w5.setCell ⟨w1.heap.size + 2, 0, none⟩ (slV v)).setCell ⟨w1.heap.size + 3, 0, none⟩ (.int .i64 0)).cell? ⟨w1.heap.size + 1, 0, none⟩ = some (.pointer (some ⟨w1.heap.size, 0, none⟩)) := by
    have := ((HQ4.out.of_block (hk5 _ (by omega) HQ4.out.lt)).setOther (a := ⟨w1.heap.size + 2, 0, none⟩) (by show w1.heap.size + 1 ≠ w1.heap.size + 2; omega) (slV v)).setOther (a := ⟨w1.heap.size + 3, 0, none⟩) (by show w1.heap.size + 1 ≠ w1.heap.size + 3; omega) (.int .i64 0)
    exact this.cell (i := 0) (by omega)
  have cr : ((w5.setCell ⟨w1.heap.size + 2, 0, none⟩ (slV v)).setCell ⟨w1.heap.size + 3, 0, none⟩ (.int .i64 0)).cell? ⟨w1.heap.size + 2, 0, none⟩ = some (slV v) := by
    have := ((HR4.out.of_block (hk5 _ (by omega) HR4.out.lt)).set 0 (slV v)).setOther (a := ⟨w1.heap.size + 3, 0, none⟩) (by show w1.heap.size + 2 ≠ w1.heap.size + 3; omega) (.int .i64 0)
    exact this.cell (i := 0) (by omega)
  have HP : Hid (∃ W p v' w5', MendIn w W p d dir ∧ P W p v' w5' ∧ Ending.returned (.tuple #[.pointer (some ⟨w1.heap.size, 0, none⟩), slV v, .int .i64 0]) = .returned (.tuple #[.pointer (some ⟨p, 0, none⟩), slV v', .int .i64 0]) ∧ ((w5.setCell ⟨w1.heap.size + 2, 0, none⟩ (slV v)).setCell ⟨w1.heap.size + 3, 0, none⟩ (.int .i64 0)).drew = openW w5' p v') := ⟨W4, w1.heap.size, v, w5, HMI.out, hp5, rfl, rfl⟩
  clear hp5 hk5 HC HQ4 HR4
  unfold slV at cq cr HP ⊢
  go_wp2
  go_region
  all_goals go_wp2
  all_goals go_ret3
  all_goals exact HP.out
end Go.Proofs.YtekejnjaiccnbaaGreatDoor
