/- Several texts in one: Lu, Lv. -/
import Derived.Test.YtgpgkpciajajcaaGreatDoorGbh
import Derived.Test.YtgpgkpciajajcaaGreatDoorGaq
import Derived.Deep.Slices
/- KvKeeps: the walk. -/
namespace Go.Proofs.YtgpgkpciajajcaaGreatDoor
open Go.RowKit Go.Maps Go.Sort
set_option linter.unusedVariables false
set_option maxRecDepth 20000

theorem wrapU_id (x : Int) (h : 0 ≤ x ∧ x ≤ 18446744073709551615) : IntKind.u64.wrap x = x := by
  unfold IntKind.wrap
  simp only [IntKind.bits, IntKind.signed]
  simp
  omega
set_option maxHeartbeats 40000000 in
theorem kv_keeps (ka : Option Addr) (N cap : Nat) (wn keep : Int) (w : World) (ht : Tab w) (hka : N = 0 ∨ ∃ kb ko, ka = some ⟨kb, ko, none⟩ ∧ ∀ i, i < N → ∃ z, w.cell? ⟨kb, ko + i, none⟩ = some (.int .i64 z)) (hN : N ≤ 1048573) (hkp : -9223372036854775808 ≤ keep ∧ keep ≤ 9223372036854775807) :
    Calls Tryz.prog 4 #[.slice ka N cap, .int .i64 wn, .int .i64 keep] w fun e w' => e = .returned (.bool true) ∧ w.grownBy w' none := by
  have HD : Hid (Calls Tryz.prog 7 #[] w fun e w' => ∃ d mb B, e = .returned (.pointer (some ⟨d, 0, none⟩)) ∧ De w w' d mb 0 x0 dirK none [] B ∧ w.grownBy w' none) := kv_disk w ht
  have HAW : Hid (∀ w1, w.grownBy w1 none → Calls Tryz.prog 16 #[] w1 fun e w' => e = .returned (.bool true) ∧ w.grownBy w' none) := fun w1 hg => by
    refine (kv_awake w1 (ht.grown hg)).mono ?_
    rintro e w' ⟨rfl, h⟩
    exact ⟨rfl, hg.trans h⟩
  have HKA : Hid (N = 0 ∨ ∃ kb ko, ka = some ⟨kb, ko, none⟩ ∧ ∀ i, i < N → ∃ z, w.cell? ⟨kb, ko + i, none⟩ = some (.int .i64 z)) := hka
  have HKP : Hid (-9223372036854775808 ≤ keep ∧ keep ≤ 9223372036854775807) := hkp
  have hNi : (N : Int) ≤ 1048573 := by omega
  have hN0 : (0 : Int) ≤ (N : Int) := by omega
  clear ht hka hkp
  go_enter Tryz.func4, Tryz.ntmps4
  go_wp2_with fail
  refine HD.out.mono ?_
  rintro e w1 ⟨d, mb, B, rfl, hde, hg1⟩
  have HO := ke_open0 hde
  clear HD hde hg1
  go_wp2_with fail
  refine HO.mono ?_
  rintro e w2 ⟨sb, rfl, hk0⟩
  have HK0 : Hid (K0 w w2 d mb sb) := hk0
  clear HO hk0
  go_wp2_with fail
  refine (Low_any wn w2).mono ?_
  rintro e w3 ⟨r, rfl, hr0, hr1, rfl⟩
  have hm0 : 0 ≤ r % (2 * (N : Int) + 1) := Int.emod_nonneg _ (by omega)
  have hm1 : r % (2 * (N : Int) + 1) < 2 * (N : Int) + 1 := Int.emod_lt_of_pos _ (by omega)
  have hz : ¬ (2 * (N : Int) + 1 = 0) := by omega
  have hz2 : ((2 * (N : Int) + 1) == 0) = false := by simp; omega
  have hz3 : ¬ (2 * N + 1 = 0) := by omega
  go_wp2_with fail
  obtain ⟨ah, hah⟩ : ∃ ah, ah = r % (2 * (N : Int) + 1) := ⟨_, rfl⟩
  rw [← hah] at hm0 hm1 ⊢
  refine (ke_arm HK0.out ah keep (by omega) HKP.out).mono ?_
  rintro e w3 ⟨rfl, hke⟩
  have HKE : Hid (KeAt w w3 d mb sb (fun _ => False) 0 (fun _ => 0)) := hke
  clear hke HK0 hm0 hm1 hz hz2 hz3 hah hr0 hr1
  go_upto_region 8 with fail
  have HRW : Hid (Rw2 ((w3.alloc (.cells #[.string ⟨#[97]⟩, .string ⟨#[98]⟩, .string ⟨#[99]⟩] 9)).alloc (.cells #[.int .u64 0, .int .u64 0, .int .u64 0] 48)) w3.heap.size (w3.heap.size + 1) (fun _ => 0)) := Rw2.new w3
  have hgn : w3.grownBy ((w3.alloc (.cells #[.string ⟨#[97]⟩, .string ⟨#[98]⟩, .string ⟨#[99]⟩] 9)).alloc (.cells #[.int .u64 0, .int .u64 0, .int .u64 0] 48)) none := (World.grownBy_alloc w3 _ none).trans (World.grownBy_alloc _ _ none)
  have hsn : ((w3.alloc (.cells #[.string ⟨#[97]⟩, .string ⟨#[98]⟩, .string ⟨#[99]⟩] 9)).alloc (.cells #[.int .u64 0, .int .u64 0, .int .u64 0] 48)).heap.size = w3.heap.size + 1 + 1 := (Array.size_push _).trans (congrArg (· + 1) (Array.size_push _))
  have HWL : Hid (∀ b, LR w3.heap.size (w3.heap.size + 1) b → w.heap.size ≤ b) := fun b hb => by
    have := HKE.out.from_.size
    rcases hb with rfl | rfl <;> omega
  have HKI : Hid (KeepI w ((w3.alloc (.cells #[.string ⟨#[97]⟩, .string ⟨#[98]⟩, .string ⟨#[99]⟩] 9)).alloc (.cells #[.int .u64 0, .int .u64 0, .int .u64 0] 48)) d mb sb w3.heap.size (w3.heap.size + 1) 0 (-1) (fun _ => 0)) := ⟨HRW.out, fun _ => Nat.le_refl _, .inl ⟨rfl, HKE.out.own hgn _ (fun b hb => by rcases hb with rfl | rfl <;> omega)⟩⟩
  obtain ⟨W4, eW4⟩ : ∃ W4, W4 = (w3.alloc (.cells #[.string ⟨#[97]⟩, .string ⟨#[98]⟩, .string ⟨#[99]⟩] 9)).alloc (.cells #[.int .u64 0, .int .u64 0, .int .u64 0] 48) := ⟨_, rfl⟩
  obtain ⟨nb, enb⟩ : ∃ nb, nb = w3.heap.size := ⟨_, rfl⟩
  obtain ⟨ob, eob⟩ : ∃ ob, ob = w3.heap.size + 1 := ⟨_, rfl⟩
  have HNO : Hid (nb ≠ ob) := by show nb ≠ ob; omega
  rw [← eW4, ← eob, ← enb] at HKI ⊢
  rw [← eob, ← enb] at HWL
  clear HRW hgn hsn HKE eW4 enb eob
  go_wp2_with fail
  go_loopw [12, 13] (fun t12 t13 wr => ∃ (i : Nat) (bad : Int) (c : Nat → Nat), i ≤ N ∧ t13 = .int .i64 i ∧ t12 = .int .i64 bad ∧ KeepI w wr d mb sb nb ob i bad c) (fun _ t13 _ => N - (intOf t13).toNat)
  case atStart => exact ⟨0, -1, fun _ => 0, Nat.zero_le _, rfl, rfl, HKI.out⟩
  case round =>
    obtain ⟨i, bad, c, hi, rfl, rfl, hI⟩ := hrel
    have HI : Hid (KeepI w wr d mb sb nb ob i bad c) := hI
    clear hI HKI
    by_cases hgo : i < N ∧ bad = -1
    · obtain ⟨hlt, rfl⟩ := hgo
      have hii : (i : Int) < (N : Int) := by omega
      have HKE : Hid (KeAt w wr d mb sb (LR nb ob) i c) := by
        obtain ⟨_, _, ⟨_, h⟩ | ⟨k, _, hb, _⟩⟩ := HI.out
        · exact h
        · omega
      have HRW : Hid (Rw2 wr nb ob c) := HI.out.1
      have HCI : Hid (∀ k, c k ≤ i) := HI.out.2.1
      obtain ⟨kb, ko, rfl, hkc⟩ := HKA.out.resolve_left (by omega)
      obtain ⟨z, hz⟩ := hkc i hlt
      have hcell := HKE.out.from_.cell hz (by simp)
      clear hz hkc
      go_wp2_with fail
      refine (Low_any z wr).mono ?_
      rintro e w5 ⟨r, rfl, hr0, hr1, rfl⟩
      obtain ⟨kk, hkk⟩ := Int.eq_ofNat_of_zero_le (show 0 ≤ r % 3 by omega)
      have HKK : Hid (r % 3 = (kk : Int)) := hkk
      have h3 : kk < 3 := by omega
      have h3i : (kk : Int) < 3 := by omega
      clear hkk
      go_upto_region 13 with fail
      rw [HKK.out]
      obtain ⟨v, ev⟩ : ∃ v, v = c kk := ⟨_, rfl⟩
      obtain ⟨nm, enm⟩ : ∃ nm, nm = nmK kk := ⟨_, rfl⟩
      obtain ⟨y, ey⟩ : ∃ y : Int, y = (v : Int) % 256 := ⟨_, rfl⟩
      have hvN : v ≤ 1048576 := by have := HCI.out kk; omega
      have hvi : (v : Int) ≤ 1048576 := by omega
      have c1 : wr.cell? ⟨nb, kk, none⟩ = some (.string nm) := by rw [enm]; exact HRW.out.name h3
      have c2 : wr.cell? ⟨ob, kk, none⟩ = some (.int .u64 (v : Int)) := by rw [ev]; exact HRW.out.cnt h3
      have r1 : IntKind.u8.wrap (kk : Int) = (kk : Int) := by simp [IntKind.wrap, IntKind.bits, IntKind.signed]; omega
      have r2 : IntKind.u8.wrap (v : Int) = y := by rw [ey]; simp [IntKind.wrap, IntKind.bits, IntKind.signed]
      have r3 : (kk : Int) % 256 = (kk : Int) := by omega
      have r4 : (v : Int) % 256 = y := ey.symm
      have HYB : Hid ((0 ≤ y ∧ y ≤ 255) ∧ 0 ≤ (kk : Int) ∧ (kk : Int) ≤ 255) := by show _ ∧ _; omega
      have HV : Hid (v = c kk) := ev
      have HSET : Hid (∀ W g, wr.grownBy W none → Rd W (some ⟨g, 0, none⟩) [(kk : Int), y] → Calls Tryz.prog 19 #[.pointer (some ⟨sb, 0, none⟩), .string nm, .slice (some ⟨g, 0, none⟩) 2 2, .int .u64 (v : Int)] W fun e w' => (e = .returned (.tuple #[.int .u64 ((v : Int) + 1), .int .i64 0]) ∧ KeAt w w' d mb sb (LR nb ob) (i + 1) (updC c kk) ∧ Rw2 w' nb ob c) ∨ (e = .returned (.tuple #[.int .u64 0, .int .i64 60]) ∧ LoAt w w' d mb (LR nb ob) (fun G => G = keepF c ∨ G = keepF (updC c kk)) true ∧ Rw2 w' nb ob c)) := fun W g hg hr => by
        rw [enm, ev]
        rw [ey, ev] at hr
        refine (ke_set (HKE.out.grown hg) (by omega) kk h3 (some ⟨g, 0, none⟩) 2 hr).mono ?_
        rintro e w' (⟨rfl, h1, h2⟩ | ⟨rfl, h1, h2⟩)
        · exact .inl ⟨rfl, h1, (HRW.out.grown hg).stays h2⟩
        · exact .inr ⟨rfl, h1, (HRW.out.grown hg).stays h2⟩
      have HCC : Hid (∀ W, Rw2 W nb ob c → W.cell? ⟨nb, kk, none⟩ = some (.string nm) ∧ W.cell? ⟨ob, kk, none⟩ = some (.int .u64 (v : Int))) := fun W h => ⟨by rw [enm]; exact h.name h3, by rw [ev]; exact h.cnt h3⟩
      clear ev enm ey
      refine wp_region_held_drew (S := fun W => W.cell? ⟨nb, kk, none⟩ = some (.string nm) ∧ W.cell? ⟨ob, kk, none⟩ = some (.int .u64 (v : Int))) (by kernel_rfl) (HCC.out _ (HRW.out.grown (gb_drew (World.grownBy.refl _ _)))) (fun hHeld => ?_)
      refine wpAnyH_take (i := 0) (v := .pointer (some ⟨sb, 0, none⟩)) rfl (by kernel_rfl) (by kernel_rfl) (by kernel_rfl) (fun _ _ _ h => h) (Or.inl ⟨by rfl, fun w hSw => ?_⟩) (by assumption) ?_
      · go_simp
      (try simp only [Act.put]); (try simp only [List.setIfInBounds_toArray]); (try simp only [List.set_cons_succ]); (try simp only [List.set_cons_zero])
      refine wpAnyH_take (i := 1) (v := .slice (some ⟨nb, 0, none⟩) 3 3) rfl (by kernel_rfl) (by kernel_rfl) (by kernel_rfl) (fun _ _ _ h => h) (Or.inl ⟨by rfl, fun w hSw => ?_⟩) (by assumption) ?_
      · go_simp
      (try simp only [Act.put]); (try simp only [List.setIfInBounds_toArray]); (try simp only [List.set_cons_succ]); (try simp only [List.set_cons_zero])
      refine wpAnyH_take (i := 2) (v := .int .i64 (kk : Int)) rfl (by kernel_rfl) (by kernel_rfl) (by kernel_rfl) (fun _ _ _ h => h) (Or.inl ⟨by rfl, fun w hSw => ?_⟩) (by assumption) ?_
      · go_simp
      (try simp only [Act.put]); (try simp only [List.setIfInBounds_toArray]); (try simp only [List.set_cons_succ]); (try simp only [List.set_cons_zero])
      refine wpAnyH_take (i := 3) (v := .pointer (some ⟨nb, kk, none⟩)) rfl (by kernel_rfl) (by kernel_rfl) (by kernel_rfl) (fun _ _ _ h => h) (Or.inl ⟨by rfl, fun w hSw => ?_⟩) (by assumption) ?_
      · go_simp
      (try simp only [Act.put]); (try simp only [List.setIfInBounds_toArray]); (try simp only [List.set_cons_succ]); (try simp only [List.set_cons_zero])
      refine wpAnyH_take (i := 4) (v := .string nm) rfl (by kernel_rfl) (by kernel_rfl) (by kernel_rfl) (fun _ _ _ h => h) (Or.inl ⟨by rfl, fun w hSw => ?_⟩) (by assumption) ?_
      · go_simp
      (try simp only [Act.put]); (try simp only [List.setIfInBounds_toArray]); (try simp only [List.set_cons_succ]); (try simp only [List.set_cons_zero])
      refine wpAnyH_take (i := 5) (v := .int .i64 (kk : Int)) rfl (by kernel_rfl) (by kernel_rfl) (by kernel_rfl) (fun _ _ _ h => h) (Or.inl ⟨by rfl, fun w hSw => ?_⟩) (by assumption) ?_
      · go_simp
      (try simp only [Act.put]); (try simp only [List.setIfInBounds_toArray]); (try simp only [List.set_cons_succ]); (try simp only [List.set_cons_zero])
      refine wpAnyH_take (i := 6) (v := .int .u8 (kk : Int)) rfl (by kernel_rfl) (by kernel_rfl) (by kernel_rfl) (fun _ _ _ h => h) (Or.inl ⟨by rfl, fun w hSw => ?_⟩) (by assumption) ?_
      · go_simp
      (try simp only [Act.put]); (try simp only [List.setIfInBounds_toArray]); (try simp only [List.set_cons_succ]); (try simp only [List.set_cons_zero])
      refine wpAnyH_take (i := 7) (v := .int .i64 (kk : Int)) rfl (by kernel_rfl) (by kernel_rfl) (by kernel_rfl) (fun _ _ _ h => h) (Or.inl ⟨by rfl, fun w hSw => ?_⟩) (by assumption) ?_
      · go_simp
      (try simp only [Act.put]); (try simp only [List.setIfInBounds_toArray]); (try simp only [List.set_cons_succ]); (try simp only [List.set_cons_zero])
      refine wpAnyH_take (i := 8) (v := .pointer (some ⟨ob, kk, none⟩)) rfl (by kernel_rfl) (by kernel_rfl) (by kernel_rfl) (fun _ _ _ h => h) (Or.inl ⟨by rfl, fun w hSw => ?_⟩) (by assumption) ?_
      · go_simp
      (try simp only [Act.put]); (try simp only [List.setIfInBounds_toArray]); (try simp only [List.set_cons_succ]); (try simp only [List.set_cons_zero])
      refine wpAnyH_take (i := 9) (v := .int .u64 (v : Int)) rfl (by kernel_rfl) (by kernel_rfl) (by kernel_rfl) (fun _ _ _ h => h) (Or.inl ⟨by rfl, fun w hSw => ?_⟩) (by assumption) ?_
      · go_simp
      (try simp only [Act.put]); (try simp only [List.setIfInBounds_toArray]); (try simp only [List.set_cons_succ]); (try simp only [List.set_cons_zero])
      refine wpAnyH_take (i := 10) (v := .int .u8 y) rfl (by kernel_rfl) (by kernel_rfl) (by kernel_rfl) (fun _ _ _ h => h) (Or.inl ⟨by rfl, fun w hSw => ?_⟩) (by assumption) ?_
      · go_simp
      (try simp only [Act.put]); (try simp only [List.setIfInBounds_toArray]); (try simp only [List.set_cons_succ]); (try simp only [List.set_cons_zero])
      refine wpAnyH_take (i := 12) (v := .int .i64 (kk : Int)) rfl (by kernel_rfl) (by kernel_rfl) (by kernel_rfl) (fun _ _ _ h => h) (Or.inl ⟨by rfl, fun w hSw => ?_⟩) (by assumption) ?_
      · go_simp
      (try simp only [Act.put]); (try simp only [List.setIfInBounds_toArray]); (try simp only [List.set_cons_succ]); (try simp only [List.set_cons_zero])
      refine wpAnyH_take (i := 13) (v := .pointer (some ⟨ob, kk, none⟩)) rfl (by kernel_rfl) (by kernel_rfl) (by kernel_rfl) (fun _ _ _ h => h) (Or.inl ⟨by rfl, fun w hSw => ?_⟩) (by assumption) ?_
      · go_simp
      (try simp only [Act.put]); (try simp only [List.setIfInBounds_toArray]); (try simp only [List.set_cons_succ]); (try simp only [List.set_cons_zero])
      refine wpAnyH_take (i := 14) (v := .int .u64 (v : Int)) rfl (by kernel_rfl) (by kernel_rfl) (by kernel_rfl) (fun _ _ _ h => h) (Or.inl ⟨by rfl, fun w hSw => ?_⟩) (by assumption) ?_
      · go_simp
      (try simp only [Act.put]); (try simp only [List.setIfInBounds_toArray]); (try simp only [List.set_cons_succ]); (try simp only [List.set_cons_zero])
      refine wpAnyH_ready (rs := [11]) (by kernel_rfl) (by simp) (AllReadyH.cons (i := 11) rfl (fun K hK => ?_) AllReadyH.nil)
      go_simp
      have HGA : Hid (wr.grownBy (wr.drew.alloc (.cells #[.int .u8 (kk : Int), .int .u8 y] 5)) none) := (gb_drew (World.grownBy.refl wr none)).trans (World.grownBy_alloc _ _ none)
      have HLT : Hid (Rd (wr.drew.alloc (.cells #[.int .u8 (kk : Int), .int .u8 y] 5)) (some ⟨wr.drew.heap.size, 0, none⟩) [(kk : Int), y]) := rd_lit wr.drew [(kk : Int), y] (by intro z hz; have := HYB.out; simp at hz; rcases hz with rfl | rfl <;> omega)
      refine hK.out _ _ (HCC.out _ (HRW.out.grown HGA.out)) (fun hHeld => ?_)
      clear hK K
      (try simp only [Act.put]); (try simp only [List.setIfInBounds_toArray]); (try simp only [List.set_cons_succ]); (try simp only [List.set_cons_zero])
      refine wpAnyH_ready (rs := [15]) (by kernel_rfl) (by simp) (AllReadyH.cons (i := 15) rfl (fun K hK => ?_) AllReadyH.nil)
      go_simp
      refine (HSET.out _ _ HGA.out HLT.out).mono ?_
      rintro e w6 (⟨rfl, hke6, hrw6⟩ | ⟨rfl, hlo6, hrw6⟩)
      · have HK6 : Hid (KeAt w w6 d mb sb (LR nb ob) (i + 1) (updC c kk)) := hke6
        have HR6 : Hid (Rw2 w6 nb ob c) := hrw6
        clear hke6 hrw6
        refine hK.out _ _ (HCC.out _ HR6.out) (fun hHeld => ?_)
        clear hK K
        (try simp only [Act.put]); (try simp only [List.setIfInBounds_toArray]); (try simp only [List.set_cons_succ]); (try simp only [List.set_cons_zero])
        refine wpAnyH_take (i := 16) (v := .tuple #[.int .u64 ((v : Int) + 1), .int .i64 0]) rfl (by kernel_rfl) (by kernel_rfl) (by kernel_rfl) (fun _ _ _ h => h) (Or.inl ⟨by rfl, fun w hSw => ?_⟩) (by assumption) ?_
        · go_simp
        (try simp only [Act.put]); (try simp only [List.setIfInBounds_toArray]); (try simp only [List.set_cons_succ]); (try simp only [List.set_cons_zero])
        refine wpAnyH_take (i := 17) (v := .int .u64 ((v : Int) + 1)) rfl (by kernel_rfl) (by kernel_rfl) (by kernel_rfl) (fun _ _ _ h => h) (Or.inl ⟨by rfl, fun w hSw => ?_⟩) (by assumption) ?_
        · go_simp
        (try simp only [Act.put]); (try simp only [List.setIfInBounds_toArray]); (try simp only [List.set_cons_succ]); (try simp only [List.set_cons_zero])
        refine wpAnyH_take (i := 18) (v := .int .i64 0) rfl (by kernel_rfl) (by kernel_rfl) (by kernel_rfl) (fun _ _ _ h => h) (Or.inl ⟨by rfl, fun w hSw => ?_⟩) (by assumption) ?_
        · go_simp
        (try simp only [Act.put]); (try simp only [List.setIfInBounds_toArray]); (try simp only [List.set_cons_succ]); (try simp only [List.set_cons_zero])
        refine wpAnyH_ready (rs := [19]) (by kernel_rfl) (by simp) (AllReadyH.cons (i := 19) rfl (fun K hK => ?_) AllReadyH.nil)
        go_simp
        refine hK.out _ _ (HCC.out _ HR6.out) (fun hHeld => ?_)
        clear hK K
        (try simp only [Act.put]); (try simp only [List.setIfInBounds_toArray]); (try simp only [List.set_cons_succ]); (try simp only [List.set_cons_zero])
        refine wpAnyH_ready (rs := [20]) (by kernel_rfl) (by simp) (AllReadyH.cons (i := 20) rfl (fun K hK => ?_) AllReadyH.nil)
        go_simp
        refine hK.out _ _ (HCC.out _ HR6.out) (fun hHeld => ?_)
        clear hK K
        (try simp only [Act.put]); (try simp only [List.setIfInBounds_toArray]); (try simp only [List.set_cons_succ]); (try simp only [List.set_cons_zero])
        refine wpAnyH_done (by kernel_rfl) ?_ _
        have c6 : w6.cell? ⟨ob, kk, none⟩ = some (.int .u64 (v : Int)) := (HCC.out _ HR6.out).2
        have z6 := HR6.out.now.frozen kk
        have s1 : IntKind.u64.wrap ((v : Int) + 1) = (v : Int) + 1 := wrapU_id _ (by omega)
        have s2 : (((v : Int) + 1) != ((v : Int) + 1)) = false := by simp
        have HFIN : Hid (KeepI w (w6.setCell ⟨ob, kk, none⟩ (.int .u64 ((v : Int) + 1))) d mb sb nb ob (i + 1) (-1) (updC c kk)) := by
          have hst := HR6.out.set HNO.out h3
          rw [← HV.out] at hst
          refine ⟨hst, fun j => ?_, .inl ⟨rfl, HK6.out.others kept_ob HWL.out⟩⟩
          unfold updC
          have h1 := HCI.out j
          have h2 := HCI.out kk
          split <;> omega
        clear HK6 HSET HCC HLT HGA HRW HKE HI HR6 hcell
        go_wp2
        go_roundw
        case rel => exact ⟨i + 1, -1, updC c kk, by omega, by go_num, rfl, HFIN.out⟩
        case measure => simp [intOf]; omega
      · have HL6 : Hid (LoAt w w6 d mb (LR nb ob) (fun G => G = keepF c ∨ G = keepF (updC c kk)) true) := hlo6
        have HR6 : Hid (Rw2 w6 nb ob c) := hrw6
        clear hlo6 hrw6
        refine hK.out _ _ (HCC.out _ HR6.out) (fun hHeld => ?_)
        clear hK K
        (try simp only [Act.put]); (try simp only [List.setIfInBounds_toArray]); (try simp only [List.set_cons_succ]); (try simp only [List.set_cons_zero])
        refine wpAnyH_take (i := 16) (v := .tuple #[.int .u64 0, .int .i64 60]) rfl (by kernel_rfl) (by kernel_rfl) (by kernel_rfl) (fun _ _ _ h => h) (Or.inl ⟨by rfl, fun w hSw => ?_⟩) (by assumption) ?_
        · go_simp
        (try simp only [Act.put]); (try simp only [List.setIfInBounds_toArray]); (try simp only [List.set_cons_succ]); (try simp only [List.set_cons_zero])
        refine wpAnyH_take (i := 17) (v := .int .u64 0) rfl (by kernel_rfl) (by kernel_rfl) (by kernel_rfl) (fun _ _ _ h => h) (Or.inl ⟨by rfl, fun w hSw => ?_⟩) (by assumption) ?_
        · go_simp
        (try simp only [Act.put]); (try simp only [List.setIfInBounds_toArray]); (try simp only [List.set_cons_succ]); (try simp only [List.set_cons_zero])
        refine wpAnyH_take (i := 18) (v := .int .i64 60) rfl (by kernel_rfl) (by kernel_rfl) (by kernel_rfl) (fun _ _ _ h => h) (Or.inl ⟨by rfl, fun w hSw => ?_⟩) (by assumption) ?_
        · go_simp
        (try simp only [Act.put]); (try simp only [List.setIfInBounds_toArray]); (try simp only [List.set_cons_succ]); (try simp only [List.set_cons_zero])
        refine wpAnyH_ready (rs := [19]) (by kernel_rfl) (by simp) (AllReadyH.cons (i := 19) rfl (fun K hK => ?_) AllReadyH.nil)
        go_simp
        refine hK.out _ _ (HCC.out _ HR6.out) (fun hHeld => ?_)
        clear hK K
        (try simp only [Act.put]); (try simp only [List.setIfInBounds_toArray]); (try simp only [List.set_cons_succ]); (try simp only [List.set_cons_zero])
        refine wpAnyH_ready (rs := [20]) (by kernel_rfl) (by simp) (AllReadyH.cons (i := 20) rfl (fun K hK => ?_) AllReadyH.nil)
        go_simp
        refine hK.out _ _ (HCC.out _ HR6.out) (fun hHeld => ?_)
        clear hK K
        (try simp only [Act.put]); (try simp only [List.setIfInBounds_toArray]); (try simp only [List.set_cons_succ]); (try simp only [List.set_cons_zero])
        refine wpAnyH_done (by kernel_rfl) ?_ _
        have HFIN : Hid (KeepI w w6 d mb sb nb ob (i + 1) (kk : Int) c) := ⟨HR6.out, fun j => Nat.le_succ_of_le (HCI.out j), .inr ⟨kk, h3, rfl, HL6.out⟩⟩
        clear HL6 HSET HCC HLT HGA HRW HKE HI HR6 hcell
        go_wp2
        go_roundw
        case rel => exact ⟨i + 1, (kk : Int), c, by omega, by go_num, rfl, HFIN.out⟩
        case measure => simp [intOf]; omega
    · have HOFF := keepI_off HI.out (by omega) keep HKP.out
      have hex : ¬ (i : Int) < (N : Int) ∨ ((i : Int) < (N : Int) ∧ ¬ bad < 0) := by
        by_cases h : i < N
        · right
          refine ⟨by omega, ?_⟩
          obtain ⟨_, _, ⟨hb, _⟩ | ⟨k, _, hb, _⟩⟩ := HI.out
          · exact absurd ⟨h, hb⟩ hgo
          · omega
        · left
          omega
      have HCI : Hid (∀ k, c k ≤ 1048576) := fun k => by have := HI.out.2.1 k; omega
      have HBD : Hid (∃ k : Nat, bad = -1 ∨ bad = (k : Int)) := by
        obtain ⟨_, _, ⟨hb, _⟩ | ⟨k, _, hb, _⟩⟩ := HI.out
        · exact ⟨0, .inl hb⟩
        · exact ⟨k, .inr hb⟩
      clear HI hgo
      rcases hex with hex | ⟨hex1, hex2⟩
      all_goals
        have HOFF2 := HOFF
        go_wp2_with fail
        refine HOFF2.mono ?_
        rintro e w7 ⟨rfl, hlo7, hrw7⟩
        have HON := lo_on hlo7
        have HR7 : Hid (Rw2 w7 nb ob c) := hrw7
        clear HOFF HOFF2 hlo7 hrw7
        go_wp2_with fail
        refine HON.mono ?_
        rintro e w8 ⟨rfl, hlo8, hs8⟩
        have HOP := lo_open hlo8
        have HR8 : Hid (Rw2 w8 nb ob c) := HR7.out.stays hs8
        clear HON hlo8 hs8 HR7
        go_wp2_with fail
        refine HOP.mono ?_
        rintro e w9 ⟨sb2, mr, m, G, rfl, hP, hR9, hg9, hs9⟩
        have HP : Hid (EndP c bad G) := hP
        have HKR : Hid (KvR w w9 d mb sb2 mr m G) := hR9
        have HR9 : Hid (Rw2 w9 nb ob c) := HR8.out.stays hs9
        have HG9 : Hid (w.grownBy w9 none) := hg9
        clear HOP hP hR9 hg9 hs9 HR8
        go_wp2_with fail
        go_loopw [19] (fun t19 wr2 => ∃ j : Nat, j ≤ 3 ∧ t19 = .int .i64 j ∧ KvR w wr2 d mb sb2 mr m G ∧ Rw2 wr2 nb ob c ∧ w.grownBy wr2 none) (fun t19 _ => 3 - (intOf t19).toNat)
        case atStart => exact ⟨0, by omega, rfl, HKR.out, HR9.out, HG9.out⟩
        case round =>
          obtain ⟨j, hj, rfl, hkr, hrw, hgr⟩ := hrel
          rename World => wr2
          have HK2 : Hid (KvR w wr2 d mb sb2 mr m G) := hkr
          have HR2 : Hid (Rw2 wr2 nb ob c) := hrw
          have HG2 : Hid (w.grownBy wr2 none) := hgr
          clear hkr hrw hgr HKR HR9 HG9
          by_cases hj3 : j < 3
          · have hji : (j : Int) < 3 := by omega
            obtain ⟨V, hGV, hV⟩ := endP_get HP.out hj3
            have HGT := end_get HK2.out hj3 hGV
            obtain ⟨nm, enm⟩ : ∃ nm, nm = nmK j := ⟨_, rfl⟩
            obtain ⟨u, eu⟩ : ∃ u, u = c j := ⟨_, rfl⟩
            have hu : u ≤ 1048576 := by rw [eu]; exact HCI.out j
            have hui : (u : Int) ≤ 1048576 := by omega
            have HC1 : Hid (∀ W, Rw2 W nb ob c → W.cell? ⟨nb, j, none⟩ = some (.string nm) ∧ W.cell? ⟨ob, j, none⟩ = some (.int .u64 (u : Int))) := fun W h => ⟨by rw [enm]; exact h.name hj3, by rw [eu]; exact h.cnt hj3⟩
            have c1 := (HC1.out _ HR2.out).1
            rw [← enm] at HGT
            rw [← eu] at hV
            clear enm eu hGV
            rcases Nat.eq_zero_or_pos V with hV0 | hV0
            · subst hV0
              have hu0 : u = 0 := by omega
              subst hu0
              rw [if_pos rfl] at HGT
              go_wp2_with fail
              refine HGT.mono ?_
              rintro e wA ⟨xa, xC, rfl, _, hgA⟩
              have hrA := HR2.out.grown hgA
              have c2 := (HC1.out _ hrA).2
              have HKA2 : Hid (KvR w wA d mb sb2 mr m G) := HK2.out.grown hgA
              have HRA2 : Hid (Rw2 wA nb ob c) := hrA
              have HGA2 : Hid (w.grownBy wA none) := HG2.out.trans hgA
              clear hgA hrA HGT HC1
              go_wp2
              go_roundw
              case rel => exact ⟨j + 1, by omega, by go_num, HKA2.out, HRA2.out, HGA2.out⟩
              case measure => simp [intOf]; omega
            · obtain ⟨V', eV⟩ : ∃ V', V = V' + 1 := ⟨V - 1, by omega⟩
              subst eV
              obtain ⟨y, ey⟩ : ∃ y : Int, y = (V' : Int) % 256 := ⟨_, rfl⟩
              rw [if_neg (by omega)] at HGT
              have hV1 : (V' : Int) ≤ 1048576 := by omega
              have r1 : IntKind.u8.wrap (j : Int) = (j : Int) := by simp [IntKind.wrap, IntKind.bits, IntKind.signed]; omega
              have r2 : IntKind.u8.wrap (V' : Int) = y := by rw [ey]; simp [IntKind.wrap, IntKind.bits, IntKind.signed]
              have r3 : (j : Int) % 256 = (j : Int) := by omega
              have r4 : (V' : Int) % 256 = y := ey.symm
              have r5 : IntKind.u64.wrap (V' : Int) = (V' : Int) := wrapU_id _ (by omega)
              have HYB : Hid ((0 ≤ y ∧ y ≤ 255) ∧ 0 ≤ (j : Int) ∧ (j : Int) ≤ 255) := by show _ ∧ _; omega
              have HGT2 : Hid (Calls Tryz.prog 20 #[.pointer (some ⟨sb2, 0, none⟩), .string nm] wr2 fun e w' => ∃ a C, e = .returned (.tuple #[.slice (some a) 2 C, .int .u64 ((V' : Int) + 1), .int .i64 0]) ∧ Rd w' (some a) [(j : Int), y] ∧ wr2.grownBy w' none) := by
                refine HGT.mono ?_
                rintro e w' ⟨a, C, rfl, h1, h2⟩
                refine ⟨a, C, by simp, ?_, h2⟩
                have := h1 (by omega)
                rw [Nat.add_sub_cancel, ← ey] at this
                exact this
              clear ey HGT
              rcases hV with hV | ⟨hb, hV⟩
              · have q1 : (((V' : Int) + 1) != (u : Int)) = false := by simp; omega
                have HG3 := HGT2.out
                go_wp2_with fail
                refine HG3.mono ?_
                rintro e wA ⟨xa, xC, rfl, hxr, hgA⟩
                have hrA := HR2.out.grown hgA
                have c2 := (HC1.out _ hrA).2
                have HXR : Hid (Rd wA (some xa) [(j : Int), y]) := hxr
                have HKA2 : Hid (KvR w wA d mb sb2 mr m G) := HK2.out.grown hgA
                have HRA2 : Hid (Rw2 wA nb ob c) := hrA
                have HGA2 : Hid (w.grownBy wA none) := HG2.out.trans hgA
                clear hgA hrA hxr HG3 HGT2 HC1
                go_wp2_with fail
                have HSM : Hid (Calls Tryz.prog 21 #[.slice (some xa) 2 xC, .slice (some ⟨wA.heap.size, 0, none⟩) 2 2] (wA.alloc (.cells #[.int .u8 (j : Int), .int .u8 y] 5)) fun e w' => e = .returned (.bool true) ∧ (wA.alloc (.cells #[.int .u8 (j : Int), .int .u8 y] 5)).grownBy w' none) := by
                  refine (same_any (some xa) (some ⟨wA.heap.size, 0, none⟩) [(j : Int), y] [(j : Int), y] 2 2 xC 2 _ (HXR.out.grown (World.grownBy_alloc wA _ none) (by simp)) (rd_lit wA [(j : Int), y] (by intro z hz; have := HYB.out; simp at hz; rcases hz with rfl | rfl <;> omega)) rfl rfl (by omega)).mono ?_
                  rintro e w' ⟨rfl, hg⟩
                  exact ⟨by simp, hg⟩
                refine HSM.out.mono ?_
                rintro e wB ⟨rfl, hgB⟩
                have hgAB := (World.grownBy_alloc wA (.cells #[.int .u8 (j : Int), .int .u8 y] 5) none).trans hgB
                have HKB2 : Hid (KvR w wB d mb sb2 mr m G) := HKA2.out.grown hgAB
                have HRB2 : Hid (Rw2 wB nb ob c) := HRA2.out.grown hgAB
                have HGB2 : Hid (w.grownBy wB none) := HGA2.out.trans hgAB
                clear hgB hgAB HSM HKA2 HRA2 HGA2 HXR
                go_wp2
                go_roundw
                case rel => exact ⟨j + 1, by omega, by go_num, HKB2.out, HRB2.out, HGB2.out⟩
                case measure => simp [intOf]; omega
              · have hVu : V' = u := by omega
                subst hVu
                subst hb
                have q1 : (((V' : Int) + 1) != (V' : Int)) = true := by simp; omega
                have q2 : (((V' : Int) + 1) == ((V' : Int) + 1)) = true := by simp
                have q3 : ((j : Int) == (j : Int)) = true := by simp
                have s1 : IntKind.u64.wrap ((V' : Int) + 1) = (V' : Int) + 1 := wrapU_id _ (by omega)
                have HG3 := HGT2.out
                go_wp2_with fail
                refine HG3.mono ?_
                rintro e wA ⟨xa, xC, rfl, hxr, hgA⟩
                have hrA := HR2.out.grown hgA
                have c2 := (HC1.out _ hrA).2
                have HXR : Hid (Rd wA (some xa) [(j : Int), y]) := hxr
                have HKA2 : Hid (KvR w wA d mb sb2 mr m G) := HK2.out.grown hgA
                have HRA2 : Hid (Rw2 wA nb ob c) := hrA
                have HGA2 : Hid (w.grownBy wA none) := HG2.out.trans hgA
                clear hgA hrA hxr HG3 HGT2 HC1
                go_wp2_with fail
                have HSM : Hid (Calls Tryz.prog 21 #[.slice (some xa) 2 xC, .slice (some ⟨wA.heap.size, 0, none⟩) 2 2] (wA.alloc (.cells #[.int .u8 (j : Int), .int .u8 y] 5)) fun e w' => e = .returned (.bool true) ∧ (wA.alloc (.cells #[.int .u8 (j : Int), .int .u8 y] 5)).grownBy w' none) := by
                  refine (same_any (some xa) (some ⟨wA.heap.size, 0, none⟩) [(j : Int), y] [(j : Int), y] 2 2 xC 2 _ (HXR.out.grown (World.grownBy_alloc wA _ none) (by simp)) (rd_lit wA [(j : Int), y] (by intro z hz; have := HYB.out; simp at hz; rcases hz with rfl | rfl <;> omega)) rfl rfl (by omega)).mono ?_
                  rintro e w' ⟨rfl, hg⟩
                  exact ⟨by simp, hg⟩
                refine HSM.out.mono ?_
                rintro e wB ⟨rfl, hgB⟩
                have hgAB := (World.grownBy_alloc wA (.cells #[.int .u8 (j : Int), .int .u8 y] 5) none).trans hgB
                have HKB2 : Hid (KvR w wB d mb sb2 mr m G) := HKA2.out.grown hgAB
                have HRB2 : Hid (Rw2 wB nb ob c) := HRA2.out.grown hgAB
                have HGB2 : Hid (w.grownBy wB none) := HGA2.out.trans hgAB
                clear hgB hgAB HSM HKA2 HRA2 HGA2 HXR
                go_wp2
                go_roundw
                case rel => exact ⟨j + 1, by omega, by go_num, HKB2.out, HRB2.out, HGB2.out⟩
                case measure => simp [intOf]; omega
          · have hj3' : j = 3 := by omega
            subst hj3'
            have HC := HAW.out _ HG2.out
            go_wp2_with fail
            refine HC.mono ?_
            rintro e wZ ⟨rfl, hgZ⟩
            have HGZ : Hid (w.grownBy wZ none) := hgZ
            clear hgZ HC
            go_wp2
            go_ret
            exact ⟨rfl, HGZ.out⟩
end Go.Proofs.YtgpgkpciajajcaaGreatDoor

/- What the bulk says of KvKeeps' arguments; the numbers that come in. -/
namespace Go.Proofs.YtgpgkpciajajcaaGreatDoor
open Go.ChangeShapes Go.WideShapes Go.ChangeAt Go.RowKit
set_option linter.unusedVariables false

theorem bulk_mem {H : Type} : ∀ {l : List (DataW H)} {d : DataW H}, d ∈ l → Rows.uptoBulk d ≤ Rows.uptoBulkAll l
  | x :: r, d, h => by
    rw [Rows.uptoBulkAll]
    rcases List.mem_cons.1 h with rfl | h
    · omega
    · have := bulk_mem h; omega
theorem bulk_pos {H : Type} (d : DataW H) : 0 < Rows.uptoBulk d := by
  cases d with
  | lit l => cases l <;> simp [Rows.uptoBulk]
  | _ => simp [Rows.uptoBulk]
theorem bulk_len {H : Type} : ∀ (l : List (DataW H)), l.length ≤ Rows.uptoBulkAll l
  | [] => Nat.zero_le _
  | x :: r => by
    rw [Rows.uptoBulkAll, List.length_cons]
    have := bulk_len r
    have := bulk_pos x
    omega
theorem cellsI : Tryz.prog.cellsOf 3 = 1 := by kernel_rfl
section
variable {H : Type} {enc : TypeId × Value → H} {W : World}
theorem bulk_recs {P : Program} {t e : TypeId} (ht : P.underlying t = some (.slice e)) {a0 : Option Addr} {len0 cap0 : Nat} {d0 : DataW H} {p0 : List MemPlace} (h0 : DataW.Trod enc P W 0 (fun _ => true) true t (.slice a0 len0 cap0) d0 p0) : len0 + 1 ≤ Rows.uptoBulk d0 := by
  obtain ⟨fuel, hf⟩ := h0
  rcases Go.Deep.open_slice ht hf with ⟨hcs, _⟩ | ⟨x, l, c, m, k, D, Pl, hcs, _, hl, hm, hmm, hx, hall⟩
  · simp [Value.cells] at hcs
    obtain ⟨rfl, rfl, rfl⟩ := hcs
    have := bulk_pos d0
    omega
  · simp [Value.cells] at hcs
    obtain ⟨rfl, rfl, rfl⟩ := hcs
    simp only [Prod.mk.injEq] at hx
    obtain ⟨rfl, rfl⟩ := hx
    have h1 := bulk_len ((List.range len0).map D)
    rw [Rows.uptoBulk]
    simp only [List.length_map, List.length_range] at h1
    omega
theorem open_keys {a0 : Option Addr} {len0 cap0 : Nat} {d0 d1 d2 : DataW H} {p0 : List MemPlace} (h0 : DataW.Trod enc Tryz.prog W 0 (fun _ => true) true 44 (.slice a0 len0 cap0) d0 p0) (hb : Rows.uptoBulkAll [d0, d1, d2] ≤ 1048576) : (len0 = 0 ∨ ∃ kb ko, a0 = some ⟨kb, ko, none⟩ ∧ ∀ i, i < len0 → ∃ z, W.cell? ⟨kb, ko + i, none⟩ = some (.int .i64 z)) ∧ len0 ≤ 1048573 := by
  refine ⟨?_, ?_⟩
  · obtain ⟨fuel, hf⟩ := h0
    rcases open_ints Tryz.underlying44 Tryz.underlying3 cellsI hf with ⟨hcs, _⟩ | ⟨a, len, cap, zs, hcs, _, hl, hm, hz, hx, hcell, hwz⟩
    · simp [Value.cells] at hcs
      obtain ⟨rfl, rfl, rfl⟩ := hcs
      exact .inl rfl
    · simp [Value.cells] at hcs
      obtain ⟨rfl, rfl, rfl⟩ := hcs
      simp only [if_true] at hz
      by_cases h0 : len0 = 0
      · exact .inl h0
      · right
        obtain ⟨b, off, spot⟩ := a
        have hspot : spot = none := by simpa [Addr.add] using World.cell?_spot (hcell 0 (by omega))
        subst hspot
        refine ⟨b, off, rfl, fun i hi => ?_⟩
        have := hcell i (by omega)
        rw [add_plain] at this
        exact ⟨_, this⟩
  · have h1 := bulk_recs Tryz.underlying44 h0
    have h2 := bulk_pos d1
    have h3 := bulk_pos d2
    simp only [Rows.uptoBulkAll] at hb
    omega
end
end Go.Proofs.YtgpgkpciajajcaaGreatDoor

