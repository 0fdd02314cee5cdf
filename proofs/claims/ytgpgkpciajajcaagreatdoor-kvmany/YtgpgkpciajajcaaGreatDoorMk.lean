/- Several texts in one: Ccrc, Dsum, Dtab, Cback, Cpre, Dput, Dtext. -/
import Derived.Test.YtgpgkpciajajcaaGreatDoorMi
import Derived.Test.YtgpgkpciajajcaaGreatDoorMj
import Derived.Lib.SlBytesRow
import Derived.Deep.RegionHeld3
import Derived.Lib.ConvBytes
/- The sum: bit by bit, by a table, and that no two bytes give one. -/
namespace Go.Proofs.YtgpgkpciajajcaaGreatDoor

def stepN (c : Nat) : Nat := if c % 2 = 1 then c / 2 ^^^ 3988292384 else c / 2
def stepsN : Nat → Nat → Nat
  | 0, c => c
  | k + 1, c => stepsN k (stepN c)
theorem half_xor (a b : Nat) : (a ^^^ b) / 2 = a / 2 ^^^ b / 2 := by
  have h := Nat.shiftRight_xor_distrib (a := a) (b := b) (i := 1)
  simpa [Nat.shiftRight_succ] using h
theorem odd_xor (a b : Nat) : (a ^^^ b) % 2 = (a % 2 + b % 2) % 2 := by
  have h := Nat.xor_mod_two_pow (a := a) (b := b) (n := 1)
  rw [Nat.pow_one] at h
  rw [h]
  rcases Nat.mod_two_eq_zero_or_one a with ha | ha <;> rcases Nat.mod_two_eq_zero_or_one b with hb | hb <;> rw [ha, hb] <;> rfl
theorem stepN_xor (a b : Nat) : stepN (a ^^^ b) = stepN a ^^^ stepN b := by
  unfold stepN
  rw [half_xor, odd_xor]
  rcases Nat.mod_two_eq_zero_or_one a with ha | ha <;> rcases Nat.mod_two_eq_zero_or_one b with hb | hb
  · simp [ha, hb]
  · simp [ha, hb, Nat.xor_assoc]
  · simp only [ha, hb]
    simp only [if_true, Nat.zero_ne_one, if_false]
    rw [Nat.xor_assoc, Nat.xor_assoc, Nat.xor_comm 3988292384]
  · simp only [ha, hb]
    simp only [Nat.reduceAdd, Nat.mod_self, Nat.zero_ne_one, if_false, if_true]
    rw [Nat.xor_assoc, Nat.xor_comm 3988292384, Nat.xor_assoc, Nat.xor_self, Nat.xor_zero]
theorem stepsN_xor (k a b : Nat) : stepsN k (a ^^^ b) = stepsN k a ^^^ stepsN k b := by
  induction k generalizing a b with
  | zero => rfl
  | succ k ih => simp only [stepsN]; rw [stepN_xor, ih]
theorem stepN_even (y : Nat) : stepN (2 * y) = y := by
  unfold stepN
  rw [if_neg (by omega)]; omega
theorem stepsN_pow (k y : Nat) : stepsN k (2 ^ k * y) = y := by
  induction k with
  | zero => simp [stepsN]
  | succ k ih =>
    simp only [stepsN]
    rw [Nat.pow_succ, show 2 ^ k * 2 * y = 2 * (2 ^ k * y) by rw [Nat.mul_comm (2 ^ k) 2, Nat.mul_assoc], stepN_even]
    exact ih
theorem split8 (x : Nat) : x = x % 256 ^^^ 2 ^ 8 * (x / 256) := by
  apply Nat.eq_of_testBit_eq
  intro i
  rw [Nat.testBit_xor, show 256 = 2 ^ 8 from rfl, Nat.testBit_mod_two_pow, Nat.testBit_two_pow_mul, Nat.testBit_div_two_pow]
  by_cases h : i < 8
  · have h8 : ¬ 8 ≤ i := by omega
    simp [h, h8]
  · have h8 : 8 ≤ i := by omega
    have : i - 8 + 8 = i := by omega
    simp [h, h8, this]
/-- By a table of 256: the low byte's sum, and the rest shifted. -/
theorem steps8 (x : Nat) : stepsN 8 x = stepsN 8 (x % 256) ^^^ x / 256 := by
  conv => lhs; rw [split8 x]
  rw [stepsN_xor, stepsN_pow]
theorem stepN_lt (c : Nat) (h : c < 2 ^ 32) : stepN c < 2 ^ 32 := by
  unfold stepN
  split
  · exact Nat.xor_lt_two_pow (by omega) (by omega)
  · omega
theorem stepN_zero (d : Nat) (h : d < 2 ^ 32) (hs : stepN d = 0) : d = 0 := by
  unfold stepN at hs
  split at hs
  · have h1 : d / 2 = 3988292384 := by
      have h2 := congrArg (fun t => t ^^^ 3988292384) hs
      simpa [Nat.xor_assoc] using h2
    omega
  · omega
theorem stepN_inj (a b : Nat) (ha : a < 2 ^ 32) (hb : b < 2 ^ 32) (h : stepN a = stepN b) : a = b := by
  have h1 : stepN (a ^^^ b) = 0 := by rw [stepN_xor, h, Nat.xor_self]
  have h2 := stepN_zero _ (Nat.xor_lt_two_pow ha hb) h1
  have h3 := congrArg (fun t => t ^^^ b) h2
  simpa [Nat.xor_assoc] using h3
theorem stepsN_inj (k : Nat) : ∀ (a b : Nat), a < 2 ^ 32 → b < 2 ^ 32 → stepsN k a = stepsN k b → a = b := by
  induction k with
  | zero => intro a b _ _ h; exact h
  | succ k ih =>
    intro a b ha hb h
    exact stepN_inj a b ha hb (ih _ _ (stepN_lt a ha) (stepN_lt b hb) h)
theorem crc1_nat (c : Nat) (h : c < 2 ^ 32) : crc1 (c : Int) = (stepN c : Int) := by
  unfold crc1 stepN
  by_cases ho : c % 2 = 1
  · rw [if_pos (by omega), if_pos ho, show (c : Int) / 2 = ((c / 2 : Nat) : Int) by omega, show (3988292384 : Int) = ((3988292384 : Nat) : Int) from rfl, u32_xor_nat _ _ (by omega) (by omega)]
  · rw [if_neg (by omega), if_neg ho]; omega
theorem crcN_nat (k : Nat) : ∀ (c : Nat), c < 2 ^ 32 → crcN k (c : Int) = (stepsN k c : Int) := by
  induction k with
  | zero => intro c _; rfl
  | succ k ih => intro c h; simp only [crcN, stepsN]; rw [crc1_nat c h]; exact ih _ (stepN_lt c h)
theorem crcB_nat (c z : Nat) (hc : c < 2 ^ 32) (hz : z < 256) : crcB (c : Int) (z : Int) = (stepsN 8 (c ^^^ z) : Int) := by
  unfold crcB
  rw [u32_xor_nat c z (by omega) (by omega)]
  exact crcN_nat 8 _ (Nat.xor_lt_two_pow hc (by omega))
theorem xor_cancel (a b z : Nat) (h : a ^^^ z = b ^^^ z) : a = b := by
  have h3 := congrArg (fun t => t ^^^ z) h
  simpa [Nat.xor_assoc] using h3
theorem crcB_inj_c (c c' z : Int) (hc : 0 ≤ c ∧ c ≤ 4294967295) (hc' : 0 ≤ c' ∧ c' ≤ 4294967295) (hz : 0 ≤ z ∧ z ≤ 255) (h : crcB c z = crcB c' z) : c = c' := by
  obtain ⟨C, rfl⟩ := Int.eq_ofNat_of_zero_le hc.1
  obtain ⟨C', rfl⟩ := Int.eq_ofNat_of_zero_le hc'.1
  obtain ⟨Z, rfl⟩ := Int.eq_ofNat_of_zero_le hz.1
  rw [crcB_nat C Z (by omega) (by omega), crcB_nat C' Z (by omega) (by omega)] at h
  have h1 := stepsN_inj 8 _ _ (Nat.xor_lt_two_pow (by omega) (by omega)) (Nat.xor_lt_two_pow (by omega) (by omega)) (Int.ofNat_inj.1 h)
  rw [xor_cancel _ _ _ h1]
theorem crcB_inj_z (c z z' : Int) (hc : 0 ≤ c ∧ c ≤ 4294967295) (hz : 0 ≤ z ∧ z ≤ 255) (hz' : 0 ≤ z' ∧ z' ≤ 255) (h : crcB c z = crcB c z') : z = z' := by
  obtain ⟨C, rfl⟩ := Int.eq_ofNat_of_zero_le hc.1
  obtain ⟨Z', rfl⟩ := Int.eq_ofNat_of_zero_le hz'.1
  obtain ⟨Z, rfl⟩ := Int.eq_ofNat_of_zero_le hz.1
  rw [crcB_nat C Z (by omega) (by omega), crcB_nat C Z' (by omega) (by omega)] at h
  have h1 := stepsN_inj 8 _ _ (Nat.xor_lt_two_pow (by omega) (by omega)) (Nat.xor_lt_two_pow (by omega) (by omega)) (Int.ofNat_inj.1 h)
  rw [Nat.xor_comm C Z, Nat.xor_comm C Z'] at h1
  rw [xor_cancel _ _ _ h1]
theorem crcL_inj (l : List Int) : ∀ (c c' : Int), (0 ≤ c ∧ c ≤ 4294967295) → (0 ≤ c' ∧ c' ≤ 4294967295) → (∀ z ∈ l, 0 ≤ z ∧ z ≤ 255) → crcL c l = crcL c' l → c = c' := by
  induction l with
  | nil => intro c c' _ _ _ h; exact h
  | cons z l ih =>
    intro c c' hc hc' hz h
    rw [crcL_cons, crcL_cons] at h
    have hzb := hz z (by simp)
    exact crcB_inj_c c c' z hc hc' hzb (ih _ _ (crcB_bd c z hc hzb) (crcB_bd c' z hc' hzb) (fun y hy => hz y (by simp [hy])) h)
theorem crcL_append (c : Int) (xs ys : List Int) : crcL c (xs ++ ys) = crcL (crcL c xs) ys := by
  unfold crcL
  rw [List.foldl_append]
theorem xor32_inj (a b m : Int) (ha : 0 ≤ a ∧ a ≤ 4294967295) (hb : 0 ≤ b ∧ b ≤ 4294967295) (hm : 0 ≤ m ∧ m ≤ 4294967295) (h : bits .xor .u32 a m = bits .xor .u32 b m) : a = b := by
  obtain ⟨A, rfl⟩ := Int.eq_ofNat_of_zero_le ha.1
  obtain ⟨B, rfl⟩ := Int.eq_ofNat_of_zero_le hb.1
  obtain ⟨M, rfl⟩ := Int.eq_ofNat_of_zero_le hm.1
  rw [u32_xor_nat A M (by omega) (by omega), u32_xor_nat B M (by omega) (by omega)] at h
  rw [xor_cancel _ _ _ (Int.ofNat_inj.1 h)]
/-- Two texts of bytes that differ in one byte have sums that differ. -/
theorem sumR_inj (xs ys : List Int) (z z' : Int) (hx : ∀ y ∈ xs, 0 ≤ y ∧ y ≤ 255) (hy : ∀ y ∈ ys, 0 ≤ y ∧ y ≤ 255) (hz : 0 ≤ z ∧ z ≤ 255) (hz' : 0 ≤ z' ∧ z' ≤ 255) (h : sumR (xs ++ z :: ys) = sumR (xs ++ z' :: ys)) : z = z' := by
  unfold sumR at h
  have hb := crcL_bd xs 4294967295 (by omega) hx
  rw [crcL_append, crcL_append, crcL_cons, crcL_cons] at h
  have b1 := crcB_bd _ z hb hz
  have b2 := crcB_bd _ z' hb hz'
  have h1 := xor32_inj _ _ _ (crcL_bd ys _ b1 hy) (crcL_bd ys _ b2 hy) (by omega) h
  exact crcB_inj_z _ z z' hb hz hz' (crcL_inj ys _ _ b1 b2 hy h1)
end Go.Proofs.YtgpgkpciajajcaaGreatDoor

/- The program's Sum. -/
namespace Go.Proofs.YtgpgkpciajajcaaGreatDoor
open Go.RowKit
set_option linter.unusedVariables false

set_option maxHeartbeats 400000 in
theorem g_eight (c0 R : Int) (w : World) (hc : 0 ≤ c0 ∧ c0 ≤ 4294967295) (hR : crcN 8 c0 = R) :
    Calls Tryz.prog 178 #[.int .u32 c0] w fun e w' => e = .returned (.int .u32 R) ∧ w = w' := by
  have HX : Hid (0 ≤ c0 ∧ c0 ≤ 4294967295) := hc
  have HR : Hid (crcN 8 c0 = R) := hR
  clear hR
  go_enter Tryz.func178, Tryz.ntmps178
  go_wp2
  go_loop [0, 3] (fun t0 t3 => ∃ (k : Nat) (d : Int), k ≤ 8 ∧ CrcAt c0 k d ∧ t0 = .int .u32 d ∧ t3 = .int .i64 k) (fun _ t3 => 8 - (intOf t3).toNat)
  case atStart => exact ⟨0, c0, by omega, rfl, rfl, rfl⟩
  case round =>
    obtain ⟨k, d, hk, hd, rfl, rfl⟩ := hrel
    have HD : Hid (CrcAt c0 k d) := hd
    have hdb := hd.bd HX.out
    clear hd
    by_cases hk8 : k < 8
    · by_cases hodd : d % 2 = 1
      · have e1 : (d % 2 == 0) = false := by simp; omega
        have HDN : Hid (CrcAt c0 (k + 1) (bits .xor .u32 (d / 2) 3988292384)) := HD.out.odd hodd
        clear hodd
        go_wp2
        go_round
        case rel => exact ⟨k + 1, _, by omega, HDN.out, rfl, by go_num⟩
        case measure => simp [intOf]; omega
      · have e1 : (d % 2 == 0) = true := by simp; omega
        have HDN : Hid (CrcAt c0 (k + 1) (d / 2)) := HD.out.even hodd
        clear hodd
        go_wp2
        go_round
        case rel => exact ⟨k + 1, _, by omega, HDN.out, rfl, by go_num⟩
        case measure => simp [intOf]; omega
    · have hk' : k = 8 := by omega
      subst hk'
      go_wp2
      go_ret
      exact ⟨ret_int (by have := HD.out; unfold CrcAt at this; rw [this]; exact HR.out), rfl⟩

set_option maxHeartbeats 400000 in
theorem g_plain (a : Option Addr) (zs : List Int) (L cap : Nat) (R : Int) (w : World) (hr : Rd w a zs) (hL : zs.length = L) (hz : (L : Int) ≤ 140737488355328) (hR : sumR zs = R) :
    Calls Tryz.prog 157 #[.slice a L cap] w fun e w' => e = .returned (.int .u32 R) ∧ w = w' := by
  have HR : Hid (Rd w a zs) := hr
  have HL : Hid (zs.length = L) := hL
  have HS : Hid (sumR zs = R) := hR
  clear hr hL hR
  go_enter Tryz.func157, Tryz.ntmps157
  go_wp2
  go_loop [3, 8] (fun t3 t8 => ∃ (j : Nat) (c : Int), j ≤ L ∧ SumAt zs j c ∧ t3 = .int .u32 c ∧ t8 = .int .i64 j) (fun _ t8 => L - (intOf t8).toNat)
  case atStart => exact ⟨0, 4294967295, Nat.zero_le _, rfl, rfl, rfl⟩
  case round =>
    obtain ⟨j, c, hj, hs, rfl, rfl⟩ := hrel
    have HJ : Hid (SumAt zs j c) := hs
    have hcb := hs.bd HR.out.2
    clear hs
    by_cases hlt : j < L
    · have hl := HL.out
      obtain ⟨b, off, rfl, hc⟩ := HR.out.at (by omega)
      have hcell := hc j (by omega)
      have hby := HR.out.byte j
      have HN : Hid (SumAt zs (j + 1) (crcB c (zs.getD j 0))) := HJ.out.next (by omega)
      obtain ⟨z, ez⟩ : ∃ z, z = zs.getD j 0 := ⟨_, rfl⟩
      rw [← ez] at hcell hby HN
      have hxb := xor32_bd c z hcb (by omega)
      have HC : Hid (Calls Tryz.prog 178 #[.int .u32 (bits .xor .u32 c z)] w fun e w' => e = .returned (.int .u32 (crcB c z)) ∧ w = w') := g_eight _ _ w hxb rfl
      clear hc ez hl HJ
      go_wp2_with (go_at_call 178; refine HC.out.mono ?_; rintro e w1 ⟨rfl, rfl⟩)
      go_round
      case rel => exact ⟨j + 1, _, by omega, HN.out, rfl, by go_num⟩
      case measure => simp [intOf]; omega
    · have HE : Hid (bits .xor .u32 c 4294967295 = R) := by
        have h1 := HJ.out
        unfold SumAt at h1
        rw [List.take_of_length_le (by have := HL.out; omega)] at h1
        show _ = _
        rw [h1]; exact HS.out
      go_wp2
      go_ret
      exact ⟨ret_int HE.out, rfl⟩


def tab (i : Nat) : Value := .int .u32 (crcN 8 (i : Int))
def tabs : List Value := (List.range 256).map tab

theorem info125 : (Tryz.prog.info? 181).map (fun i => (i.zero, i.size)) = some (some (.agg (Array.replicate 256 (.int .u32 0))), 256) := by kernel_rfl
theorem size54 : (Tryz.prog.info? 181).map (·.size) = some 256 := by kernel_rfl
theorem under54 : Tryz.prog.underlying 181 = some (.array 256 152) := by kernel_rfl
theorem zero54 (w : World) : (zeroValue 181).run Tryz.prog w = .ok (.agg (Array.replicate 256 (.int .u32 0))) w := by
  have h := info125
  cases hq : Tryz.prog.info? 181 with
  | none => rw [hq] at h; simp at h
  | some i =>
    rw [hq] at h
    simp only [Option.map_some, Option.some.injEq, Prod.mk.injEq] at h
    simp [zeroValue, typeInfo, hq, h.1]

/-- The table, as far as it is made. -/
def TabAt (w : World) (g k : Nat) : Prop := ∃ cur : Array Value, w.heap[g]? = some (.cells cur 181 (0, 0)) ∧ cur.size = 256 ∧ (∀ j, j < k → cur[j]? = some (tab j)) ∧ cur.all (·.oneCell') = true
theorem TabAt.set {w : World} {g k : Nat} (h : TabAt w g k) (hk : k < 256) : TabAt (w.setCell ⟨g, k, none⟩ (tab k)) g (k + 1) := by
  obtain ⟨cur, h1, h2, h3, h4⟩ := h
  refine ⟨cur.setIfInBounds k (tab k), ?_, by simpa using h2, ?_, ?_⟩
  · rw [setCell_eq_setRow w g k cur 181 (0, 0) (tab k) h1, setRow_heap w g cur _ 181 _ h1]
  · intro j hj
    by_cases e : j = k
    · subst e; simp [h2, hk]
    · rw [Array.getElem?_setIfInBounds_ne (by omega)]
      exact h3 j (by omega)
  · rw [Array.all_eq_true] at h4 ⊢
    intro j hj
    rw [Array.getElem_setIfInBounds]
    split
    · rfl
    · exact h4 j (by simpa using hj)
theorem TabAt.done {w : World} {g : Nat} (h : TabAt w g 256) : w.heap[g]? = some (.cells tabs.toArray 181 (0, 0)) := by
  obtain ⟨cur, h1, h2, h3, h4⟩ := h
  rw [h1]
  have : cur = tabs.toArray := by
    apply Array.ext
    · rw [h2]; simp [tabs]
    · intro j hj hj'
      have := h3 j (by omega)
      rw [Array.getElem?_eq_getElem hj] at this
      simp only [Option.some.injEq] at this
      rw [this]
      simp [tabs]
  rw [this]
theorem tabs_size : tabs.toArray.size = 256 := by simp [tabs]
theorem tabs_one : tabs.toArray.all (·.oneCell') = true := by
  rw [Array.all_eq_true]
  intro j hj
  simp [tabs, tab]
  rfl

theorem alloc_size (w : World) (o : Obj) : (w.alloc o).heap.size = w.heap.size + 1 := Array.size_push _
theorem alloc2_new (w : World) (o1 o2 : Obj) : ((w.alloc o1).alloc o2).heap[w.heap.size + 1]? = some o2 := by
  have := heap_alloc_new (w.alloc o1) o2
  rwa [alloc_size] at this
theorem alloc2_old (w : World) (o1 o2 : Obj) : ((w.alloc o1).alloc o2).heap[w.heap.size]? = some o1 := by
  rw [(World.grownBy_alloc (w.alloc o1) o2 none).block w.heap.size (by rw [alloc_size]; omega) (by simp)]
  exact heap_alloc_new w o1
theorem Z_one : (Array.replicate 256 (Value.int .u32 0)).all (·.oneCell') = true := by
  rw [Array.all_eq_true]; intro j hj; rw [Array.getElem_replicate]; rfl

theorem results_cell {fn : Func} {p : Tmp} {ty : TypeId} (h : fn.results = #[.cell p ty]) (tmps : Array Value) (P : Program) (w : World) (ad : Addr) (v : Value) (h1 : tmps.getD p undef = .pointer (some ad)) (h2 : (loadVar ty ad).run P w = .ok v w) :
    (results fn tmps).run P w = .ok v w := by
  rw [Array.getD_eq_getD_getElem?] at h1
  simp only [results, h]
  simp [h1, asAddr, h2]

set_option maxRecDepth 100000 in
set_option maxHeartbeats 1000000 in
theorem g_sums (w : World) :
    Calls Tryz.prog 159 #[] w fun e w' => e = .returned (.agg tabs.toArray) ∧ w.grownBy w' none := by
  have hz : ∀ w, (zeroValue 181).run Tryz.prog w = .ok (.agg (Array.replicate 256 (.int .u32 0))) w := zero54
  have HZ : Hid (TabAt ((w.alloc (.cells (Array.replicate 256 (.int .u32 0)) 181)).alloc (.cells (Array.replicate 256 (.int .u32 0)) 181)) (w.heap.size + 1) 0) :=
    ⟨Array.replicate 256 (.int .u32 0), alloc2_new _ _ _, Array.size_replicate, by simp, Z_one⟩
  have HS : Hid ((Array.replicate 256 (Value.int .u32 0)).size = 256) := Array.size_replicate
  generalize Array.replicate 256 (Value.int .u32 0) = Z at hz HZ HS
  have HDn : Hid (∀ w' : World, TabAt w' (w.heap.size + 1) 256 → w'.heap[w.heap.size + 1]? = some (.cells tabs.toArray 181 (0, 0))) := fun _ h => h.done
  have HTs : Hid (tabs.toArray.size = 256) := tabs_size
  have HTo : Hid (tabs.toArray.all (·.oneCell') = true) := tabs_one
  generalize tabs.toArray = T at HDn HTs HTo ⊢
  have u54 := under54
  go_enter Tryz.func159, Tryz.ntmps159
  go_wp2
  go_loopw [3] (fun t3 wr => ∃ (i : Nat), i ≤ 256 ∧ t3 = .int .i64 i ∧ TabAt wr (w.heap.size + 1) i ∧ w.grownBy wr none ∧ wr.heap[w.heap.size]? = some (.cells Z 181 (0, 0)) ∧ w.heap.size + 1 < wr.heap.size) (fun t3 _ => 256 - (intOf t3).toNat)
  case atStart => exact ⟨0, by omega, rfl, HZ.out, (World.grownBy_alloc w _ none).trans (World.grownBy_alloc _ _ none), alloc2_old _ _ _, by rw [alloc_size, alloc_size]; omega⟩
  case round =>
    obtain ⟨i, hi, rfl, ht, hg, hb, hsz⟩ := hrel
    have HT : Hid (TabAt wr (w.heap.size + 1) i) := ht
    have HG : Hid (w.grownBy wr none) := hg
    have HB : Hid (wr.heap[w.heap.size]? = some (.cells Z 181 (0, 0))) := hb
    have HW : Hid (w.heap.size + 1 < wr.heap.size) := hsz
    clear HZ hg hb hsz
    by_cases hlt : i < 256
    · have hcell : ∃ v, wr.cell? ⟨w.heap.size + 1, i, none⟩ = some v := by
        obtain ⟨cur, h1, h2, _⟩ := ht
        exact ⟨cur[i], by rw [cell_of_row wr _ i cur 181 _ h1, Array.getElem?_eq_getElem (by omega)]⟩
      obtain ⟨v0, hcell⟩ := hcell
      have hfro : wr.frozen? ⟨w.heap.size + 1, i, none⟩ = false := by
        obtain ⟨cur, h1, h2, _⟩ := ht
        simp [World.frozen?, h1]
      have HC : Hid (Calls Tryz.prog 178 #[.int .u32 (i : Int)] wr fun e w' => e = .returned (tab i) ∧ wr = w') := g_eight _ _ wr (by omega) rfl
      have HN : Hid (TabAt (wr.setCell ⟨w.heap.size + 1, i, none⟩ (tab i)) (w.heap.size + 1) (i + 1)) := HT.out.set hlt
      unfold tab at HC HN
      generalize crcN 8 (i : Int) = r at HC HN
      clear ht
      go_wp2_with (go_at_call 178; refine HC.out.mono ?_; rintro e w1 ⟨rfl, rfl⟩)
      go_roundw
      case rel => exact ⟨i + 1, by omega, by go_num, HN.out, gb_trans HG.out (gb_set rfl) (fun k hk => by simp at hk; subst hk; exact .inl (by omega)), ((gb_set (w := wr) (p := ⟨w.heap.size + 1, i, none⟩) (u := .int .u32 r) rfl).block w.heap.size (by have := HW.out; omega) (by simp)).trans HB.out, Nat.lt_of_lt_of_le HW.out (gb_set (w := wr) (p := ⟨w.heap.size + 1, i, none⟩) (u := .int .u32 r) rfl).size⟩
      case measure => simp [intOf]; omega
    · obtain rfl : i = 256 := by omega
      have hrow := HDn.out wr HT.out
      have HROW : Hid (wr.heap[w.heap.size + 1]? = some (.cells T 181 (0, 0))) := hrow
      have hst : (storeCells ⟨w.heap.size, 0, none⟩ T.toList).run Tryz.prog wr = .ok () (wr.setRow w.heap.size T) := by
        have := run_storeCells_from (P := Tryz.prog) w.heap.size 181 T.toList 0 Z wr HB.out (by have := HS.out; have := HTs.out; simp; omega) (fun v hv => (Array.all_eq_true_iff_forall_mem.1 HTo.out) v (by simpa using hv))
        simpa using this
      have HH : Hid ((wr.setRow w.heap.size T).heap[w.heap.size]? = some (.cells T 181 (0, 0))) := setRow_heap wr _ Z _ 181 _ HB.out
      have HGB : Hid (w.grownBy (wr.setRow w.heap.size T) none) := by
        refine ⟨HG.out.os, HG.out.tape, HG.out.output, ?_, ?_⟩
        · have := HG.out.size
          simpa [World.setRow] using this
        · intro k hk _
          rw [← HG.out.block k hk (by simp)]
          simp only [World.setRow]
          rw [Array.getElem?_modify]
          simp [show ¬ w.heap.size = k by omega]
      generalize wr.setRow w.heap.size T = w9 at hst HH HGB
      clear hrow ht
      go_wp2
      refine wp_load_row 181 (.tmp 1) rfl _ rfl 181 T (0, 0) _ HROW.out under54 rfl (by rw [size54, HTs.out]) ?_
      go_wp2
      have hl : (loadVar 181 ⟨w.heap.size, 0, none⟩).run Tryz.prog w9 = .ok (.agg T) w9 := run_loadVar_row w9 _ 181 181 _ _ _ HH.out under54 rfl (by rw [size54, HTs.out])
      refine bodyPost_ret (v := .agg T) (results_cell Tryz.results159 _ _ _ _ _ rfl hl) rfl ⟨rfl, HGB.out⟩
end Go.Proofs.YtgpgkpciajajcaaGreatDoor

/- The program's Sum, by its table. -/
namespace Go.Proofs.YtgpgkpciajajcaaGreatDoor
open Go.RowKit
set_option linter.unusedVariables false

theorem stepsN_lt (k : Nat) : ∀ c, c < 2 ^ 32 → stepsN k c < 2 ^ 32 := by
  induction k with
  | zero => intro c h; exact h
  | succ k ih => intro c h; exact ih _ (stepN_lt c h)
theorem crcB_tab (c z : Int) (Q : Nat) (hc : 0 ≤ c ∧ c ≤ 4294967295) (hz : 0 ≤ z ∧ z ≤ 255) (hq : bits .xor .u8 (c % 256) z = (Q : Int)) : bits .xor .u32 (c / 256) (crcN 8 (Q : Int)) = crcB c z := by
  obtain ⟨C, rfl⟩ := Int.eq_ofNat_of_zero_le hc.1
  obtain ⟨Z, rfl⟩ := Int.eq_ofNat_of_zero_le hz.1
  have e1 : ((C : Int) % 256) = ((C % 256 : Nat) : Int) := by omega
  have e2 : ((C : Int) / 256) = ((C / 256 : Nat) : Int) := by omega
  rw [e1, u8_xor _ _ (by omega) (by omega) (by omega) (by omega)] at hq
  have hQ : C % 256 ^^^ Z = Q := by
    have := hq
    simp only [Int.toNat_natCast] at this
    exact_mod_cast this
  have hQ8 : Q < 256 := by rw [← hQ]; exact Nat.xor_lt_two_pow (n := 8) (by omega) (by omega)
  rw [crcB_nat C Z (by omega) (by omega), steps8, crcN_nat 8 Q (by omega), e2]
  have m1 : (C ^^^ Z) % 256 = Q := by
    rw [← hQ]
    have := Nat.xor_mod_two_pow (a := C) (b := Z) (n := 8)
    rw [show (2 : Nat) ^ 8 = 256 by decide] at this
    rw [this, Nat.mod_eq_of_lt (by omega : Z < 256)]
  have m2 : (C ^^^ Z) / 256 = C / 256 := by
    have := Nat.xor_div_two_pow (a := C) (b := Z) (n := 8)
    rw [show (2 : Nat) ^ 8 = 256 by decide] at this
    rw [this, Nat.div_eq_of_lt (by omega : Z < 256), Nat.xor_zero]
  have hs := stepsN_lt 8 Q (by omega)
  rw [m1, m2, u32_xor _ _ (by omega) (by omega) (by omega) (by omega)]
  simp only [Int.toNat_natCast]
  rw [Nat.xor_comm]

theorem tabs_at {Q : Nat} (h : Q < 256) : tabs.toArray[Q]? = some (.int .u32 (crcN 8 (Q : Int))) := by
  simp [tabs, tab, h]

set_option maxRecDepth 100000 in
set_option maxHeartbeats 1000000 in
theorem g_table (a : Option Addr) (zs : List Int) (L cap : Nat) (R : Int) (w : World) (hr : Rd w a zs) (hL : zs.length = L) (hz : (L : Int) ≤ 140737488355328) (hR : sumR zs = R) :
    Calls Tryz.prog 158 #[.slice a L cap, .agg tabs.toArray] w fun e w' => e = .returned (.int .u32 R) ∧ w.grownBy w' none := by
  have HA : Hid (∀ Q, Q < 256 → (w.alloc (.cells tabs.toArray 181)).cell? ⟨w.heap.size, Q, none⟩ = some (.int .u32 (crcN 8 (Q : Int)))) := fun Q h => by
    rw [cell_of_row _ w.heap.size Q tabs.toArray 181 _ (heap_alloc_new w _)]
    exact tabs_at h
  have HR : Hid (Rd (w.alloc (.cells tabs.toArray 181)) a zs) := hr.grown (World.grownBy_alloc w _ none) (by simp)
  have HG : Hid (w.grownBy (w.alloc (.cells tabs.toArray 181)) none) := World.grownBy_alloc w _ none
  generalize tabs.toArray = T at HA HR HG ⊢
  have HL : Hid (zs.length = L) := hL
  have HS : Hid (sumR zs = R) := hR
  have u54 := under54
  clear hr hL hR
  go_enter Tryz.func158, Tryz.ntmps158
  go_wp2
  obtain ⟨w1, ew1⟩ : ∃ w1, w1 = w.alloc (.cells T 181) := ⟨_, rfl⟩
  rw [← ew1] at HA HR HG ⊢
  clear ew1
  go_loop [5, 10] (fun t5 t10 => ∃ (j : Nat) (c : Int), j ≤ L ∧ SumAt zs j c ∧ t5 = .int .u32 c ∧ t10 = .int .i64 j) (fun _ t10 => L - (intOf t10).toNat)
  case atStart => exact ⟨0, 4294967295, Nat.zero_le _, rfl, rfl, rfl⟩
  case round =>
    obtain ⟨j, c, hj, hs, rfl, rfl⟩ := hrel
    have HJ : Hid (SumAt zs j c) := hs
    have hcb := hs.bd HR.out.2
    clear hs
    by_cases hlt : j < L
    · have hl := HL.out
      obtain ⟨b, off, rfl, hc⟩ := HR.out.at (by omega)
      have hcell := hc j (by omega)
      have hby := HR.out.byte j
      have HN : Hid (SumAt zs (j + 1) (crcB c (zs.getD j 0))) := HJ.out.next (by omega)
      obtain ⟨z, ez⟩ : ∃ z, z = zs.getD j 0 := ⟨_, rfl⟩
      rw [← ez] at hcell hby HN
      obtain ⟨Q, hQ⟩ := Int.eq_ofNat_of_zero_le (bits_lo_u8 .xor (c % 256) z)
      have hQ8 : Q < 256 := by have := bits_hi_u8 .xor (c % 256) z; omega
      have hcell2 := HA.out Q hQ8
      have HX : Hid (bits .xor .u32 (c / 256) (crcN 8 (Q : Int)) = crcB c z) := crcB_tab c z Q hcb hby hQ
      obtain ⟨r, er⟩ : ∃ r, r = crcN 8 (Q : Int) := ⟨_, rfl⟩
      rw [← er] at hcell2 HX
      have hrb : 0 ≤ r ∧ r ≤ 4294967295 := by rw [er]; exact crcN_bd 8 _ (by omega)
      clear hc ez hl HJ er
      go_wp2
      go_round
      case rel => exact ⟨j + 1, _, by omega, by rw [HX.out]; exact HN.out, rfl, by go_num⟩
      case measure => simp [intOf]; omega
    · have HE : Hid (bits .xor .u32 c 4294967295 = R) := by
        have h1 := HJ.out
        unfold SumAt at h1
        rw [List.take_of_length_le (by have := HL.out; omega)] at h1
        show _ = _
        rw [h1]; exact HS.out
      go_wp2
      go_ret
      exact ⟨ret_int HE.out, HG.out⟩

theorem f_sum (a : Option Addr) (zs : List Int) (L cap : Nat) (R : Int) (w : World) (hr : Rd w a zs) (hL : zs.length = L) (hz : (L : Int) ≤ 140737488355000) (hR : sumR zs = R) :
    Calls Tryz.prog 131 #[.slice a L cap] w fun e w' => e = .returned (.int .u32 R) ∧ w.grownBy w' none := by
  by_cases h : L < 256
  · have HC := g_plain a zs L cap R w hr hL (by omega) hR
    have hd : decide ((L : Int) < 256) = true := by simp; omega
    clear hr hL hR
    go_enter Tryz.func131, Tryz.ntmps131
    go_wp2_with fail
    refine HC.mono ?_
    rintro e w1 ⟨rfl, rfl⟩
    go_wp2
    go_ret
    exact ⟨rfl, World.grownBy.refl _ _⟩
  · have HS : Hid (Calls Tryz.prog 159 #[] w fun e w' => e = .returned (.agg tabs.toArray) ∧ w.grownBy w' none) := g_sums w
    have HT : Hid (∀ w1, w.grownBy w1 none → Calls Tryz.prog 158 #[.slice a L cap, .agg tabs.toArray] w1 fun e w' => e = .returned (.int .u32 R) ∧ w1.grownBy w' none) := fun w1 hg => g_table a zs L cap R w1 (hr.grown hg (by simp)) hL (by omega) hR
    generalize tabs.toArray = T at HS HT
    have hd : decide ((L : Int) < 256) = false := by simp; omega
    clear hr hL hR
    go_enter Tryz.func131, Tryz.ntmps131
    go_wp2_with fail
    refine HS.out.mono ?_
    rintro e w1 ⟨rfl, hg1⟩
    have HG1 : Hid (w.grownBy w1 none) := hg1
    have HC := HT.out w1 hg1
    clear hg1
    go_wp2_with fail
    refine HC.mono ?_
    rintro e w2 ⟨rfl, hg2⟩
    have HG2 : Hid (w1.grownBy w2 none) := hg2
    clear hg2
    go_wp2
    go_ret
    exact ⟨rfl, HG1.out.trans HG2.out⟩
end Go.Proofs.YtgpgkpciajajcaaGreatDoor

/- Numbers' bytes are read back, and there is one form of each. -/
namespace Go.Proofs.YtgpgkpciajajcaaGreatDoor

theorem getD_app (xs ys : List Int) (i : Nat) : (xs ++ ys).getD (xs.length + i) 0 = ys.getD i 0 := by
  simp [List.getD_eq_getElem?_getD, List.getElem?_append_right]

theorem pow7 (i : Nat) : (2 : Int) ^ (7 * (i + 1)) = 2 ^ (7 * i) * 128 := by
  rw [show 7 * (i + 1) = 7 * i + 7 by omega, Int.pow_add]; rfl

/-- What stands from place p + i on is u's bytes: it is read. -/
theorem ud_enc (zs ys : List Int) (p : Nat) : ∀ (m i u : Nat) (a : Int), 9 - i = m → i ≤ 9 → (zs.drop (p + i) = enc u ++ ys) → (0 < i → 0 < u) → (u : Int) * 2 ^ (7 * i) < 18446744073709551616 →
    ud zs p (10 - i) i a = (a + u * 2 ^ (7 * i), ((p + i + (enc u).length : Nat) : Int), 0) := by
  intro m
  induction m with
  | zero =>
    intro i u a hm hi hd hu hb
    obtain rfl : i = 9 := by omega
    have e : (2 : Int) ^ (7 * 9) = 9223372036854775808 := by simp
    rw [e] at hb
    have hu1 : u = 1 := by omega
    subst hu1
    rw [enc_small (by omega)] at hd ⊢
    have hlen : p + 9 < zs.length := by
      have h := congrArg List.length hd
      simp at h; omega
    have hg : zs.getD (p + 9) 0 = 1 := by
      have h := congrArg (fun l => l.getD 0 0) hd
      simpa [List.getD_eq_getElem?_getD] using h
    rw [show 10 - 9 = 0 + 1 from rfl, ud, if_neg (by omega), hg, if_neg (by omega), if_pos (by omega)]
    simp
  | succ m ih =>
    intro i u a hm hi hd hu hb
    have hp : (0 : Int) < 2 ^ (7 * i) := Int.pow_pos (by decide)
    have hlen : p + i < zs.length := by
      have h := congrArg List.length hd
      have := enc_len_pos u
      simp at h; omega
    rw [show 10 - i = (9 - i) + 1 by omega, ud, if_neg (by omega)]
    by_cases h : u < 128
    · rw [enc_small h] at hd ⊢
      have hg : zs.getD (p + i) 0 = u := by
        have h := congrArg (fun l => l.getD 0 0) hd
        simpa [List.getD_eq_getElem?_getD] using h
      rw [hg, if_neg (by omega), if_pos (by omega), show (u : Int) % 128 = u by omega]
      simp
    · rw [enc_big h] at hd ⊢
      have hg : zs.getD (p + i) 0 = ((u % 128 + 128 : Nat) : Int) := by
        have h := congrArg (fun l => l.getD 0 0) hd
        simpa [List.getD_eq_getElem?_getD] using h
      rw [hg, if_neg (by omega), if_neg (by omega)]
      have hd' : zs.drop (p + (i + 1)) = enc (u / 128) ++ ys := by
        have h := congrArg (List.drop 1) hd
        rw [List.drop_drop] at h
        simpa [Nat.add_assoc] using h
      have hmul : ((u / 128 : Nat) : Int) * 2 ^ (7 * (i + 1)) ≤ (u : Int) * 2 ^ (7 * i) := by
        rw [pow7, show ((u / 128 : Nat) : Int) * (2 ^ (7 * i) * 128) = ((u / 128 : Nat) : Int) * 128 * 2 ^ (7 * i) by rw [Int.mul_comm (2 ^ (7 * i)) 128, Int.mul_assoc]]
        exact Int.mul_le_mul_of_nonneg_right (by omega) (Int.le_of_lt hp)
      have := ih (i + 1) (u / 128) (a + ((u % 128 + 128 : Nat) : Int) % 128 * 2 ^ (7 * i)) (by omega) (by omega) hd' (fun _ => by omega) (by omega)
      rw [show 9 - i = 10 - (i + 1) by omega, this]
      have e1 : ((u % 128 + 128 : Nat) : Int) % 128 = ((u % 128 : Nat) : Int) := by omega
      rw [e1, pow7]
      have e2 : a + ((u % 128 : Nat) : Int) * 2 ^ (7 * i) + ((u / 128 : Nat) : Int) * (2 ^ (7 * i) * 128) = a + (u : Int) * 2 ^ (7 * i) := by
        have e3 : (u : Int) = ((u % 128 : Nat) : Int) + ((u / 128 : Nat) : Int) * 128 := by omega
        have e4 : (u : Int) * 2 ^ (7 * i) = ((u % 128 : Nat) : Int) * 2 ^ (7 * i) + ((u / 128 : Nat) : Int) * 128 * 2 ^ (7 * i) := by
          conv => lhs; rw [e3]
          rw [Int.add_mul]
        rw [e4, Int.mul_comm (2 ^ (7 * i)) 128, ← Int.mul_assoc]
        omega
      rw [e2]
      have e5 : p + (i + 1) + (enc (u / 128)).length = p + i + (((u % 128 + 128 : Nat) : Int) :: enc (u / 128)).length := by simp; omega
      rw [e5]
theorem uintR_enc (xs ys : List Int) (v : Nat) (hv : v < 18446744073709551616) : uintR (xs ++ (enc v ++ ys)) xs.length = ((v : Int), ((xs.length + (enc v).length : Nat) : Int), 0) := by
  unfold uintR
  rw [if_neg (by simp; omega)]
  have h := ud_enc (xs ++ (enc v ++ ys)) ys xs.length 9 0 v 0 rfl (by omega) (by simp) (by omega) (by simp; omega)
  simp only [Nat.add_zero, Nat.mul_zero, Int.pow_zero, Int.mul_one, Int.zero_add, Nat.sub_zero] at h
  rw [Int.toNat_natCast, h]

/-- What is read as a number is that number's bytes. -/
theorem ud_back (zs : List Int) (p : Nat) (hz : ∀ k, 0 ≤ zs.getD k 0 ∧ zs.getD k 0 ≤ 255) : ∀ (m i : Nat) (a r1 r2 : Int), 9 - i = m → i ≤ 9 → ud zs p (10 - i) i a = (r1, r2, 0) →
    ∃ u : Nat, r1 = a + u * 2 ^ (7 * i) ∧ (0 < i → 0 < u) ∧ r2 = ((p + i + (enc u).length : Nat) : Int) ∧ (zs.drop (p + i)).take (enc u).length = enc u := by
  intro m
  induction m with
  | zero =>
    intro i a r1 r2 hm hi h
    obtain rfl : i = 9 := by omega
    have hr : URel zs p 9 a r1 r2 0 := h
    have hl : p + 9 < zs.length := by
      by_cases hl : p + 9 < zs.length
      · exact hl
      · have := hr.over hi (by omega); omega
    by_cases hf : 9 = 9 ∧ 1 < zs.getD (p + 9) 0 ∨ 0 < 9 ∧ zs.getD (p + 9) 0 = 0
    · have := hr.form hi hl hf; omega
    · have hb := hz (p + 9)
      have hd := hr.done hi hl hf (by omega)
      have hc : zs.getD (p + 9) 0 = 1 := by omega
      refine ⟨1, by rw [← hd.1, hc]; rfl, fun _ => by omega, ?_, ?_⟩
      · rw [enc_small (by omega)]; simp; omega
      · rw [enc_small (by omega)]
        refine List.ext_getElem (by simp; omega) fun j h1 h2 => ?_
        simp at h2
        subst h2
        have : zs[p + 9] = 1 := by simpa [List.getD_eq_getElem?_getD, hl] using hc
        simpa using this
  | succ m ih =>
    intro i a r1 r2 hm hi h
    have hr : URel zs p i a r1 r2 0 := h
    have hl : p + i < zs.length := by
      by_cases hl : p + i < zs.length
      · exact hl
      · have := hr.over hi (by omega); omega
    by_cases hf : i = 9 ∧ 1 < zs.getD (p + i) 0 ∨ 0 < i ∧ zs.getD (p + i) 0 = 0
    · have := hr.form hi hl hf; omega
    · have hb := hz (p + i)
      have hcons : zs.drop (p + i) = zs.getD (p + i) 0 :: zs.drop (p + (i + 1)) := by
        rw [List.drop_eq_getElem_cons hl]
        simp [List.getD_eq_getElem?_getD, hl, Nat.add_assoc]
      by_cases hc : zs.getD (p + i) 0 < 128
      · have hd := hr.done hi hl hf hc
        obtain ⟨C, hC⟩ := Int.eq_ofNat_of_zero_le hb.1
        refine ⟨C, ?_, fun h0 => by omega, ?_, ?_⟩
        · rw [← hd.1, hC, show (C : Int) % 128 = C by omega]
        · rw [enc_small (by omega)]; simp; omega
        · rw [enc_small (by omega), hcons, hC]; simp
      · have hs := hr.step hi hl hf hc
        obtain ⟨u, e1, e2, e3, e4⟩ := ih (i + 1) _ r1 r2 (by omega) (by omega) hs
        obtain ⟨C, hC⟩ := Int.eq_ofNat_of_zero_le hb.1
        have hu := e2 (by omega)
        have hbig : ¬ (C % 128 + 128 * u) < 128 := by omega
        have ed : (C % 128 + 128 * u) / 128 = u := by omega
        have em : ((((C % 128 + 128 * u) % 128 + 128 : Nat)) : Int) = (C : Int) := by omega
        refine ⟨C % 128 + 128 * u, ?_, fun _ => by omega, ?_, ?_⟩
        · rw [e1, hC, pow7]
          have e5 : (C : Int) % 128 = ((C % 128 : Nat) : Int) := by omega
          have e6 : ((C % 128 + 128 * u : Nat) : Int) = ((C % 128 : Nat) : Int) + (u : Int) * 128 := by omega
          rw [e5, e6, Int.add_mul, Int.mul_comm (2 ^ (7 * i)) 128, ← Int.mul_assoc]
          omega
        · rw [enc_big hbig, ed, e3]; simp; omega
        · rw [enc_big hbig, ed, em, hcons, hC]
          simp only [List.length_cons, List.take_succ_cons]
          rw [e4]
theorem uintR_back (zs : List Int) (p : Nat) (r1 r2 : Int) (hz : ∀ k, 0 ≤ zs.getD k 0 ∧ zs.getD k 0 ≤ 255) (h : uintR zs p = (r1, r2, 0)) :
    ∃ u : Nat, r1 = u ∧ r2 = ((p + (enc u).length : Nat) : Int) ∧ (zs.drop p).take (enc u).length = enc u := by
  unfold uintR at h
  split at h
  · simp at h
  · rw [Int.toNat_natCast] at h
    obtain ⟨u, e1, _, e3, e4⟩ := ud_back zs p hz 9 0 0 r1 r2 rfl (by omega) h
    exact ⟨u, by simpa using e1, by simpa using e3, by simpa using e4⟩
end Go.Proofs.YtgpgkpciajajcaaGreatDoor

/- What the calls of package codec answer; the document's own Frame and Unframe. -/
namespace Go.Proofs.YtgpgkpciajajcaaGreatDoor
open Go.RowKit
set_option linter.unusedVariables false

/-- A slice of bytes in new memory, or none. -/
def Out (w w' : World) (a : Option Addr) (N c : Nat) (zs : List Int) : Prop := zs.length = N ∧ Rd w' a zs ∧ (a = none → c = 0) ∧ N ≤ c ∧ ∀ x, a = some x → w.heap.size ≤ x.block
theorem Out.nil (w w' : World) : Out w w' none 0 0 [] := ⟨rfl, ⟨.inl rfl, by simp⟩, fun _ => rfl, Nat.le_refl _, by simp⟩
theorem Own.out {w w' : World} {g N c : Nat} {zs : List Int} (h : Own w' w.heap.size g N c zs) : Out w w' (some ⟨g, 0, none⟩) N c zs := ⟨h.len, h.rd, by simp, h.cap.1, fun x hx => by cases hx; exact h.ge.1⟩
theorem Out.kept {w w' w2 : World} {row : Option Nat} {a : Option Addr} {N c : Nat} {zs : List Int} (h : Out w w' a N c zs) (hg : w'.grownBy w2 row) (hr : ∀ k, row = some k → k < w.heap.size) : Out w w2 a N c zs :=
  ⟨h.1, h.2.1.grown hg (fun x hx e => by have := h.2.2.2.2 x hx; have := hr x.block e.symm; omega), h.2.2.1, h.2.2.2.1, h.2.2.2.2⟩

def uframeR (zs : List Int) (p : Int) : List Int × Int × Int :=
  if (uintR zs p).2.2 ≠ 0 then ([], 0, (uintR zs p).2.2)
  else if 65536 < (uintR zs p).1 then ([], 0, 23)
  else if (zs.length : Int) - (uintR zs p).2.1 < (uintR zs p).1 + 4 then ([], 0, 20)
  else if four (sumR ((zs.drop ((uintR zs p).2.1.toNat + 4)).take (uintR zs p).1.toNat)) = (zs.drop (uintR zs p).2.1.toNat).take 4 then ((zs.drop ((uintR zs p).2.1.toNat + 4)).take (uintR zs p).1.toNat, (uintR zs p).2.1 + 4 + (uintR zs p).1, 0)
  else ([], 0, 22)

def fcode (zs : List Int) : Int := if 65536 < zs.length then 23 else 0
def flist (zs : List Int) : List Int := if 65536 < zs.length then [] else frameR zs
theorem rframe (a : Option Addr) (zs : List Int) (L cap : Nat) (F : List Int) (r : Int) (w : World) (hr : Rd w a zs) (hL : zs.length = L) (hnil : a = none → cap = 0) (hz : L ≤ 140737488355000) (hF : flist zs = F) (hc : fcode zs = r) :
    Calls Tryz.prog 90 #[.slice a L cap] w fun e w' => ∃ v N c, e = .returned (.tuple #[.slice v N c, .int .i64 r]) ∧ Out w w' v N c F ∧ w.grownBy w' none := by
  unfold flist at hF
  unfold fcode at hc
  by_cases h : 65536 < zs.length
  · rw [if_pos h] at hF hc
    subst hF hc
    refine (rframe_long a L cap w hz (by omega)).mono ?_
    rintro e w' ⟨rfl, rfl⟩
    exact ⟨none, 0, 0, rfl, Out.nil _ _, World.grownBy.refl _ _⟩
  · rw [if_neg h] at hF hc
    subst hF hc
    refine (rframe_short a zs L cap w hr hL hnil (by omega)).mono ?_
    rintro e w' ⟨g, c, N, rfl, ho, hg⟩
    exact ⟨_, _, c, rfl, ho.out, hg⟩
end Go.Proofs.YtgpgkpciajajcaaGreatDoor

/- The program's PutUint, PutInt, PutText, Frame. -/
namespace Go.Proofs.YtgpgkpciajajcaaGreatDoor
open Go.RowKit
set_option linter.unusedVariables false

theorem g_join (ps : List Piece) (k : Nat) (w : World) (t : TypeId) (arr : Array Value) (harr : arr = (ps.map Piece.val).toArray) (hk : ps.length = k) (hk8 : k ≤ 8) (hok : ∀ p ∈ ps, p.ok w) (hsz : total ps ≤ 140737488355328) (hpos : 0 < total ps) :
    Calls Tryz.prog 70 #[.slice (some ⟨w.heap.size, 0, none⟩) k k] (w.alloc (.cells arr t)) fun e w' => ∃ g c N, e = .returned (.slice (some ⟨g, 0, none⟩) N c) ∧ Own w' w.heap.size g N c (joined ps) ∧ w.grownBy w' none := by
  refine (g_concat w.heap.size ps k (w.alloc (.cells arr t)) hk hk8 ?_ ?_ hsz hpos).mono ?_
  · intro i p h
    rw [cell_of_row _ w.heap.size i arr t _ (heap_alloc_new w _), harr]
    simp [h]
  · intro p hp
    have h := hok p hp
    exact ⟨h.1.grown (World.grownBy_alloc w _ none) (by simp), h.2⟩
  · rintro e w' ⟨g, c, N, rfl, ho, hg⟩
    exact ⟨g, c, N, rfl, ho.base (le_alloc (Nat.le_refl _)), (World.grownBy_alloc w _ none).trans hg⟩

theorem conv_text (w : World) (s : ByteArray) : ∃ C w2, (convert 9 37 (.string s)).run Tryz.prog w = .ok (.slice (some ⟨w.heap.size, 0, none⟩) s.size C) w2 ∧ Rd w2 (some ⟨w.heap.size, 0, none⟩) (sInts s) ∧ w.grownBy w2 none := by
  refine ⟨_, _, Go.Lib.run_convert_string_bytes w 9 37 5 s Tryz.underlying9 Tryz.underlying37 Tryz.underlying5, ⟨.inr ⟨w.heap.size, 0, rfl, fun i hi => ?_⟩, sInts_byte s⟩, ?_⟩
  · rw [sInts_len] at hi
    rw [Nat.zero_add, Go.Lib.bytesWorld_cell w 5 s i hi]
    simp [sInts, List.getD_eq_getElem?_getD, hi]
  · exact ⟨rfl, rfl, rfl, by rw [Go.Lib.bytesWorld_size]; omega, fun k hk _ => Go.Lib.bytesWorld_at_old w 5 s k hk⟩

theorem g_four (c : Int) (w : World) (hc : 0 ≤ c ∧ c ≤ 4294967295) :
    Calls Tryz.prog 130 #[.int .u32 c] w fun e w' => ∃ g, e = .returned (.slice (some ⟨g, 0, none⟩) 4 4) ∧ Own w' w.heap.size g 4 4 (four c) ∧ w.grownBy w' none := by
  go_enter Tryz.func130, Tryz.ntmps130
  go_wp2
  go_ret
  refine ⟨w.heap.size, rfl, ?_, World.grownBy_alloc w _ _⟩
  exact Own.ofBlock (heap_alloc_new w _) (Nat.le_refl _) rfl (by decide) (four_byte c hc)

theorem frm_long (a : Option Addr) (L cap : Nat) (w : World) (hz : L ≤ 140737488355000) (h : 65536 < L) :
    Calls Tryz.prog 96 #[.slice a L cap] w fun e w' => e = .returned (.tuple #[.slice none 0 0, .int .i64 23]) ∧ w = w' := by
  have hd : decide ((65536 : Int) < (L : Int)) = true := by simp; omega
  go_enter Tryz.func96, Tryz.ntmps96
  go_wp2
  go_ret2
  exact ⟨rfl, rfl⟩

set_option maxHeartbeats 400000 in
theorem frm_short (a : Option Addr) (zs : List Int) (L cap : Nat) (w : World) (hr : Rd w a zs) (hL : zs.length = L) (hnil : a = none → cap = 0) (h : L ≤ 65536) :
    Calls Tryz.prog 96 #[.slice a L cap] w fun e w' => ∃ g c N, e = .returned (.tuple #[.slice (some ⟨g, 0, none⟩) N c, .int .i64 0]) ∧ Own w' w.heap.size g N c (frameR zs) ∧ w.grownBy w' none := by
  have hd : decide ((65536 : Int) < (L : Int)) = false := by simp; omega
  have HC := g_number (L : Int) w (by omega)
  rw [Int.toNat_natCast] at HC
  have HY : Hid ((enc L).length ≤ 10 ∧ 1 ≤ (enc L).length) := ⟨enc_len L (by omega), enc_len_pos _⟩
  have hF : frameR zs = enc L ++ four (sumR zs) ++ zs := by rw [frameR, hL]
  rw [hF]
  have hRb := sumR_bd zs hr.2
  have HS : Hid (∀ w1, w.grownBy w1 none → Calls Tryz.prog 131 #[.slice a L cap] w1 fun e w' => e = .returned (.int .u32 (sumR zs)) ∧ w1.grownBy w' none) := fun w1 hg => f_sum a zs L cap _ w1 (hr.grown hg (by simp)) hL (by omega) rfl
  generalize sumR zs = R at HS hRb ⊢
  generalize enc L = Y at HC HY ⊢
  have HJ : Hid (∀ g1 c1 N1 w1 g2 w2, Own w1 w.heap.size g1 N1 c1 Y → w.grownBy w1 none → w1.grownBy w2 none → Rd w2 (some ⟨g2, 0, none⟩) (four R) → ∀ t, Calls Tryz.prog 70 #[.slice (some ⟨w2.heap.size, 0, none⟩) 3 3] (w2.alloc (.cells #[.slice (some ⟨g1, 0, none⟩) N1 c1, .slice (some ⟨g2, 0, none⟩) 4 4, .slice a L cap] t)) fun e w' => ∃ g c N, e = .returned (.slice (some ⟨g, 0, none⟩) N c) ∧ Own w' w.heap.size g N c (Y ++ four R ++ zs) ∧ w.grownBy w' none) := by
    intro g1 c1 N1 w1 g2 w2 ho hg hg12 hrd t
    have hl := ho.len
    have hy := HY.out
    have hgg := hg.trans hg12
    refine (g_join [⟨some ⟨g1, 0, none⟩, N1, c1, Y⟩, ⟨some ⟨g2, 0, none⟩, 4, 4, four R⟩, ⟨a, L, cap, zs⟩] 3 w2 t _ rfl rfl (by omega) ?_ (by simp [total]; omega) (by simp [total]; omega)).mono ?_
    · intro p hp
      simp only [List.mem_cons, List.mem_nil_iff, or_false] at hp
      rcases hp with rfl | rfl | rfl
      · exact ⟨ho.rd.grown hg12 (by simp), ho.len, by simp⟩
      · exact ⟨hrd, rfl, by simp⟩
      · exact ⟨hr.grown hgg (by simp), hL, hnil⟩
    · rintro e w' ⟨g, c, N, rfl, ho', hg'⟩
      refine ⟨g, c, N, rfl, ?_, hgg.trans hg'⟩
      have := ho'.base hgg.size
      simpa [joined] using this
  have HRb : Hid (0 ≤ R ∧ R ≤ 4294967295) := hRb
  clear hr hL hnil HY hF hRb
  go_enter Tryz.func96, Tryz.ntmps96
  go_wp2_with fail
  refine HC.mono ?_
  rintro e w1 ⟨g1, c1, N1, rfl, ho1, hg1⟩
  have HO1 : Hid (Own w1 w.heap.size g1 N1 c1 Y) := ho1
  have HG1 : Hid (w.grownBy w1 none) := hg1
  clear ho1 hg1
  go_wp2_with fail
  refine (HS.out w1 HG1.out).mono ?_
  rintro e w2 ⟨rfl, hg2⟩
  have HG2 : Hid (w1.grownBy w2 none) := hg2
  clear hg2
  go_wp2_with fail
  refine (g_four R w2 HRb.out).mono ?_
  rintro e w3 ⟨g3, rfl, ho3, hg3⟩
  have HG3 : Hid (w1.grownBy w3 none) := HG2.out.trans hg3
  have HO3 : Hid (Rd w3 (some ⟨g3, 0, none⟩) (four R)) := ho3.rd
  clear ho3 hg3
  go_wp2_with (go_at_call 70; refine (HJ.out _ _ _ _ _ _ HO1.out HG1.out HG3.out HO3.out _).mono ?_; rintro e w4 ⟨g4, c4, N4, rfl, ho4, hg4⟩)
  go_ret2
  exact ⟨g4, c4, N4, rfl, ho4, hg4⟩

theorem f_frame (a : Option Addr) (zs : List Int) (L cap : Nat) (F : List Int) (r : Int) (w : World) (hr : Rd w a zs) (hL : zs.length = L) (hnil : a = none → cap = 0) (hz : L ≤ 140737488355000) (hF : flist zs = F) (hc : fcode zs = r) :
    Calls Tryz.prog 96 #[.slice a L cap] w fun e w' => ∃ v N c, e = .returned (.tuple #[.slice v N c, .int .i64 r]) ∧ Out w w' v N c F ∧ w.grownBy w' none := by
  unfold flist at hF
  unfold fcode at hc
  by_cases h : 65536 < zs.length
  · rw [if_pos h] at hF hc
    subst hF hc
    refine (frm_long a L cap w hz (by omega)).mono ?_
    rintro e w' ⟨rfl, rfl⟩
    exact ⟨none, 0, 0, rfl, Out.nil _ _, World.grownBy.refl _ _⟩
  · rw [if_neg h] at hF hc
    subst hF hc
    refine (frm_short a zs L cap w hr hL hnil (by omega)).mono ?_
    rintro e w' ⟨g, c, N, rfl, ho, hg⟩
    exact ⟨_, _, c, rfl, ho.out, hg⟩
end Go.Proofs.YtgpgkpciajajcaaGreatDoor

/- The program's readers: text, record; Text, Unframe. -/
namespace Go.Proofs.YtgpgkpciajajcaaGreatDoor
open Go.RowKit
set_option linter.unusedVariables false

theorem str_empty : strOfNums [] = ⟨#[]⟩ := rfl

theorem textR_err {zs : List Int} {p r2 r3 : Int} {s : ByteArray} (h : textR zs p = (s, r2, r3)) (h3 : r3 ≠ 0) : s = ⟨#[]⟩ ∧ r2 = 0 := by
  unfold textR at h
  split at h
  · split at h
    · simp only [Prod.mk.injEq] at h
      exact ⟨h.1.symm, h.2.1.symm⟩
    · simp only [Prod.mk.injEq] at h
      exact absurd h.2.2.symm h3
  · simp only [Prod.mk.injEq] at h
    exact ⟨h.1.symm, h.2.1.symm⟩
theorem fresh_ne {w : World} {a : Option Addr} {zs : List Int} {L : Nat} (hr : Rd w a zs) (hL : zs.length = L) : 0 < L → ∀ x, a = some x → x.block ≠ w.heap.size := by
  intro h0 x hx
  obtain ⟨b, off, e, hc⟩ := hr.at (by omega)
  rw [e] at hx
  cases hx
  have := World.block_lt_of_cell? w _ (hc 0 (by omega))
  simp only at this
  intro e
  simp only at e
  omega

end Go.Proofs.YtgpgkpciajajcaaGreatDoor

