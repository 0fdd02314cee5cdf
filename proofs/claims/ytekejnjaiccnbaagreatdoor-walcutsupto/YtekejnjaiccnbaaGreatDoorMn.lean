/- Several texts in one: Ccrc, Dsum, Dtab. -/
import Derived.Test.YtekejnjaiccnbaaGreatDoorMj
import Derived.Test.YtekejnjaiccnbaaGreatDoorMk
/- The sum: bit by bit, by a table, and that no two bytes give one. -/
namespace Go.Proofs.YtekejnjaiccnbaaGreatDoor

def stepN (c : Nat) : Nat := if c % 2 = 1 then c / 2 ^^^ 3988292384 else c / 2
def stepsN : Nat → Nat → Nat
  | 0, c => c
  | k + 1, c => stepsN k (stepN c)
theorem half_xor (a b : Nat) : (a ^^^ b) / 2 = a / 2 ^^^ b / 2 := by
  have h := Nat.shiftRight_xor_distrib (a := a) (b := b) (i := 1)
  simpa [Nat.shiftRight_succ] using h
theorem odd_xor (a b : Nat) : (a ^^^ b) % 2 = (a % 2 + b % 2) % 2 := by
  have h := Nat.xor_mod_two_pow (a := a) (b := b) (n := 1)
  rw [Nat.pow_one] at h
  rw [h]
  rcases Nat.mod_two_eq_zero_or_one a with ha | ha <;> rcases Nat.mod_two_eq_zero_or_one b with hb | hb <;> rw [ha, hb] <;> rfl
theorem stepN_xor (a b : Nat) : stepN (a ^^^ b) = stepN a ^^^ stepN b := by
  unfold stepN
  rw [half_xor, odd_xor]
  rcases Nat.mod_two_eq_zero_or_one a with ha | ha <;> rcases Nat.mod_two_eq_zero_or_one b with hb | hb
  · simp [ha, hb]
  · simp [ha, hb, Nat.xor_assoc]
  · simp only [ha, hb]
    simp only [if_true, Nat.zero_ne_one, if_false]
    rw [Nat.xor_assoc, Nat.xor_assoc, Nat.xor_comm 3988292384]
  · simp only [ha, hb]
    simp only [Nat.reduceAdd, Nat.mod_self, Nat.zero_ne_one, if_false, if_true]
    rw [Nat.xor_assoc, Nat.xor_comm 3988292384, Nat.xor_assoc, Nat.xor_self, Nat.xor_zero]
theorem stepsN_xor (k a b : Nat) : stepsN k (a ^^^ b) = stepsN k a ^^^ stepsN k b := by
  induction k generalizing a b with
  | zero => rfl
  | succ k ih => simp only [stepsN]; rw [stepN_xor, ih]
theorem stepN_even (y : Nat) : stepN (2 * y) = y := by
  unfold stepN
  rw [if_neg (by omega)]; omega
theorem stepsN_pow (k y : Nat) : stepsN k (2 ^ k * y) = y := by
  induction k with
  | zero => simp [stepsN]
  | succ k ih =>
    simp only [stepsN]
    rw [Nat.pow_succ, show 2 ^ k * 2 * y = 2 * (2 ^ k * y) by rw [Nat.mul_comm (2 ^ k) 2, Nat.mul_assoc], stepN_even]
    exact ih
theorem split8 (x : Nat) : x = x % 256 ^^^ 2 ^ 8 * (x / 256) := by
  apply Nat.eq_of_testBit_eq
  intro i
  rw [Nat.testBit_xor, show 256 = 2 ^ 8 from rfl, Nat.testBit_mod_two_pow, Nat.testBit_two_pow_mul, Nat.testBit_div_two_pow]
  by_cases h : i < 8
  · have h8 : ¬ 8 ≤ i := by omega
    simp [h, h8]
  · have h8 : 8 ≤ i := by omega
    have : i - 8 + 8 = i := by omega
    simp [h, h8, this]
/-- By a table of 256: the low byte's sum, and the rest shifted. -/
theorem steps8 (x : Nat) : stepsN 8 x = stepsN 8 (x % 256) ^^^ x / 256 := by
  conv => lhs; rw [split8 x]
  rw [stepsN_xor, stepsN_pow]
theorem stepN_lt (c : Nat) (h : c < 2 ^ 32) : stepN c < 2 ^ 32 := by
  unfold stepN
  split
  · exact Nat.xor_lt_two_pow (by omega) (by omega)
  · omega
theorem stepN_zero (d : Nat) (h : d < 2 ^ 32) (hs : stepN d = 0) : d = 0 := by
  unfold stepN at hs
  split at hs
  · have h1 : d / 2 = 3988292384 := by
      have h2 := congrArg (fun t => t ^^^ 3988292384) hs
      simpa [Nat.xor_assoc] using h2
    omega
  · omega
theorem stepN_inj (a b : Nat) (ha : a < 2 ^ 32) (hb : b < 2 ^ 32) (h : stepN a = stepN b) : a = b := by
  have h1 : stepN (a ^^^ b) = 0 := by rw [stepN_xor, h, Nat.xor_self]
  have h2 := stepN_zero _ (Nat.xor_lt_two_pow ha hb) h1
  have h3 := congrArg (fun t => t ^^^ b) h2
  simpa [Nat.xor_assoc] using h3
theorem stepsN_inj (k : Nat) : ∀ (a b : Nat), a < 2 ^ 32 → b < 2 ^ 32 → stepsN k a = stepsN k b → a = b := by
  induction k with
  | zero => intro a b _ _ h; exact h
  | succ k ih =>
    intro a b ha hb h
    exact stepN_inj a b ha hb (ih _ _ (stepN_lt a ha) (stepN_lt b hb) h)
theorem crc1_nat (c : Nat) (h : c < 2 ^ 32) : crc1 (c : Int) = (stepN c : Int) := by
  unfold crc1 stepN
  by_cases ho : c % 2 = 1
  · rw [if_pos (by omega), if_pos ho, show (c : Int) / 2 = ((c / 2 : Nat) : Int) by omega, show (3988292384 : Int) = ((3988292384 : Nat) : Int) from rfl, u32_xor_nat _ _ (by omega) (by omega)]
  · rw [if_neg (by omega), if_neg ho]; omega
theorem crcN_nat (k : Nat) : ∀ (c : Nat), c < 2 ^ 32 → crcN k (c : Int) = (stepsN k c : Int) := by
  induction k with
  | zero => intro c _; rfl
  | succ k ih => intro c h; simp only [crcN, stepsN]; rw [crc1_nat c h]; exact ih _ (stepN_lt c h)
theorem crcB_nat (c z : Nat) (hc : c < 2 ^ 32) (hz : z < 256) : crcB (c : Int) (z : Int) = (stepsN 8 (c ^^^ z) : Int) := by
  unfold crcB
  rw [u32_xor_nat c z (by omega) (by omega)]
  exact crcN_nat 8 _ (Nat.xor_lt_two_pow hc (by omega))
theorem xor_cancel (a b z : Nat) (h : a ^^^ z = b ^^^ z) : a = b := by
  have h3 := congrArg (fun t => t ^^^ z) h
  simpa [Nat.xor_assoc] using h3
theorem crcB_inj_c (c c' z : Int) (hc : 0 ≤ c ∧ c ≤ 4294967295) (hc' : 0 ≤ c' ∧ c' ≤ 4294967295) (hz : 0 ≤ z ∧ z ≤ 255) (h : crcB c z = crcB c' z) : c = c' := by
  obtain ⟨C, rfl⟩ := Int.eq_ofNat_of_zero_le hc.1
  obtain ⟨C', rfl⟩ := Int.eq_ofNat_of_zero_le hc'.1
  obtain ⟨Z, rfl⟩ := Int.eq_ofNat_of_zero_le hz.1
  rw [crcB_nat C Z (by omega) (by omega), crcB_nat C' Z (by omega) (by omega)] at h
  have h1 := stepsN_inj 8 _ _ (Nat.xor_lt_two_pow (by omega) (by omega)) (Nat.xor_lt_two_pow (by omega) (by omega)) (Int.ofNat_inj.1 h)
  rw [xor_cancel _ _ _ h1]
theorem crcB_inj_z (c z z' : Int) (hc : 0 ≤ c ∧ c ≤ 4294967295) (hz : 0 ≤ z ∧ z ≤ 255) (hz' : 0 ≤ z' ∧ z' ≤ 255) (h : crcB c z = crcB c z') : z = z' := by
  obtain ⟨C, rfl⟩ := Int.eq_ofNat_of_zero_le hc.1
  obtain ⟨Z', rfl⟩ := Int.eq_ofNat_of_zero_le hz'.1
  obtain ⟨Z, rfl⟩ := Int.eq_ofNat_of_zero_le hz.1
  rw [crcB_nat C Z (by omega) (by omega), crcB_nat C Z' (by omega) (by omega)] at h
  have h1 := stepsN_inj 8 _ _ (Nat.xor_lt_two_pow (by omega) (by omega)) (Nat.xor_lt_two_pow (by omega) (by omega)) (Int.ofNat_inj.1 h)
  rw [Nat.xor_comm C Z, Nat.xor_comm C Z'] at h1
  rw [xor_cancel _ _ _ h1]
theorem crcL_inj (l : List Int) : ∀ (c c' : Int), (0 ≤ c ∧ c ≤ 4294967295) → (0 ≤ c' ∧ c' ≤ 4294967295) → (∀ z ∈ l, 0 ≤ z ∧ z ≤ 255) → crcL c l = crcL c' l → c = c' := by
  induction l with
  | nil => intro c c' _ _ _ h; exact h
  | cons z l ih =>
    intro c c' hc hc' hz h
    rw [crcL_cons, crcL_cons] at h
    have hzb := hz z (by simp)
    exact crcB_inj_c c c' z hc hc' hzb (ih _ _ (crcB_bd c z hc hzb) (crcB_bd c' z hc' hzb) (fun y hy => hz y (by simp [hy])) h)
theorem crcL_append (c : Int) (xs ys : List Int) : crcL c (xs ++ ys) = crcL (crcL c xs) ys := by
  unfold crcL
  rw [List.foldl_append]
theorem xor32_inj (a b m : Int) (ha : 0 ≤ a ∧ a ≤ 4294967295) (hb : 0 ≤ b ∧ b ≤ 4294967295) (hm : 0 ≤ m ∧ m ≤ 4294967295) (h : bits .xor .u32 a m = bits .xor .u32 b m) : a = b := by
  obtain ⟨A, rfl⟩ := Int.eq_ofNat_of_zero_le ha.1
  obtain ⟨B, rfl⟩ := Int.eq_ofNat_of_zero_le hb.1
  obtain ⟨M, rfl⟩ := Int.eq_ofNat_of_zero_le hm.1
  rw [u32_xor_nat A M (by omega) (by omega), u32_xor_nat B M (by omega) (by omega)] at h
  rw [xor_cancel _ _ _ (Int.ofNat_inj.1 h)]
/-- Two texts of bytes that differ in one byte have sums that differ. -/
theorem sumR_inj (xs ys : List Int) (z z' : Int) (hx : ∀ y ∈ xs, 0 ≤ y ∧ y ≤ 255) (hy : ∀ y ∈ ys, 0 ≤ y ∧ y ≤ 255) (hz : 0 ≤ z ∧ z ≤ 255) (hz' : 0 ≤ z' ∧ z' ≤ 255) (h : sumR (xs ++ z :: ys) = sumR (xs ++ z' :: ys)) : z = z' := by
  unfold sumR at h
  have hb := crcL_bd xs 4294967295 (by omega) hx
  rw [crcL_append, crcL_append, crcL_cons, crcL_cons] at h
  have b1 := crcB_bd _ z hb hz
  have b2 := crcB_bd _ z' hb hz'
  have h1 := xor32_inj _ _ _ (crcL_bd ys _ b1 hy) (crcL_bd ys _ b2 hy) (by omega) h
  exact crcB_inj_z _ z z' hb hz hz' (crcL_inj ys _ _ b1 b2 hy h1)
end Go.Proofs.YtekejnjaiccnbaaGreatDoor

/- The program's Sum. -/
namespace Go.Proofs.YtekejnjaiccnbaaGreatDoor
open Go.RowKit
set_option linter.unusedVariables false

set_option maxHeartbeats 400000 in
theorem g_eight (c0 R : Int) (w : World) (hc : 0 ≤ c0 ∧ c0 ≤ 4294967295) (hR : crcN 8 c0 = R) :
    Calls Tryz.prog 128 #[.int .u32 c0] w fun e w' => e = .returned (.int .u32 R) ∧ w = w' := by
  have HX : Hid (0 ≤ c0 ∧ c0 ≤ 4294967295) := hc
  have HR : Hid (crcN 8 c0 = R) := hR
  clear hR
  go_enter Tryz.func128, Tryz.ntmps128
  go_wp2
  go_loop [0, 3] (fun t0 t3 => ∃ (k : Nat) (d : Int), k ≤ 8 ∧ CrcAt c0 k d ∧ t0 = .int .u32 d ∧ t3 = .int .i64 k) (fun _ t3 => 8 - (intOf t3).toNat)
  case atStart => exact ⟨0, c0, by omega, rfl, rfl, rfl⟩
  case round =>
    obtain ⟨k, d, hk, hd, rfl, rfl⟩ := hrel
    have HD : Hid (CrcAt c0 k d) := hd
    have hdb := hd.bd HX.out
    clear hd
    by_cases hk8 : k < 8
    · by_cases hodd : d % 2 = 1
      · have e1 : (d % 2 == 0) = false := by simp; omega
        have HDN : Hid (CrcAt c0 (k + 1) (bits .xor .u32 (d / 2) 3988292384)) := HD.out.odd hodd
        clear hodd
        go_wp2
        go_round
        case rel => exact ⟨k + 1, _, by omega, HDN.out, rfl, by go_num⟩
        case measure => simp [intOf]; omega
      · have e1 : (d % 2 == 0) = true := by simp; omega
        have HDN : Hid (CrcAt c0 (k + 1) (d / 2)) := HD.out.even hodd
        clear hodd
        go_wp2
        go_round
        case rel => exact ⟨k + 1, _, by omega, HDN.out, rfl, by go_num⟩
        case measure => simp [intOf]; omega
    · have hk' : k = 8 := by omega
      subst hk'
      go_wp2
      go_ret
      exact ⟨ret_int (by have := HD.out; unfold CrcAt at this; rw [this]; exact HR.out), rfl⟩

set_option maxHeartbeats 400000 in
theorem g_plain (a : Option Addr) (zs : List Int) (L cap : Nat) (R : Int) (w : World) (hr : Rd w a zs) (hL : zs.length = L) (hz : (L : Int) ≤ 140737488355328) (hR : sumR zs = R) :
    Calls Tryz.prog 102 #[.slice a L cap] w fun e w' => e = .returned (.int .u32 R) ∧ w = w' := by
  have HR : Hid (Rd w a zs) := hr
  have HL : Hid (zs.length = L) := hL
  have HS : Hid (sumR zs = R) := hR
  clear hr hL hR
  go_enter Tryz.func102, Tryz.ntmps102
  go_wp2
  go_loop [3, 8] (fun t3 t8 => ∃ (j : Nat) (c : Int), j ≤ L ∧ SumAt zs j c ∧ t3 = .int .u32 c ∧ t8 = .int .i64 j) (fun _ t8 => L - (intOf t8).toNat)
  case atStart => exact ⟨0, 4294967295, Nat.zero_le _, rfl, rfl, rfl⟩
  case round =>
    obtain ⟨j, c, hj, hs, rfl, rfl⟩ := hrel
    have HJ : Hid (SumAt zs j c) := hs
    have hcb := hs.bd HR.out.2
    clear hs
    by_cases hlt : j < L
    · have hl := HL.out
      obtain ⟨b, off, rfl, hc⟩ := HR.out.at (by omega)
      have hcell := hc j (by omega)
      have hby := HR.out.byte j
      have HN : Hid (SumAt zs (j + 1) (crcB c (zs.getD j 0))) := HJ.out.next (by omega)
      obtain ⟨z, ez⟩ : ∃ z, z = zs.getD j 0 := ⟨_, rfl⟩
      rw [← ez] at hcell hby HN
      have hxb := xor32_bd c z hcb (by omega)
      have HC : Hid (Calls Tryz.prog 128 #[.int .u32 (bits .xor .u32 c z)] w fun e w' => e = .returned (.int .u32 (crcB c z)) ∧ w = w') := g_eight _ _ w hxb rfl
      clear hc ez hl HJ
      go_wp2_with (go_at_call 128; refine HC.out.mono ?_; rintro e w1 ⟨rfl, rfl⟩)
      go_round
      case rel => exact ⟨j + 1, _, by omega, HN.out, rfl, by go_num⟩
      case measure => simp [intOf]; omega
    · have HE : Hid (bits .xor .u32 c 4294967295 = R) := by
        have h1 := HJ.out
        unfold SumAt at h1
        rw [List.take_of_length_le (by have := HL.out; omega)] at h1
        show _ = _
        rw [h1]; exact HS.out
      go_wp2
      go_ret
      exact ⟨ret_int HE.out, rfl⟩


def tab (i : Nat) : Value := .int .u32 (crcN 8 (i : Int))
def tabs : List Value := (List.range 256).map tab

theorem info125 : (Tryz.prog.info? 125).map (fun i => (i.zero, i.size)) = some (some (.agg (Array.replicate 256 (.int .u32 0))), 256) := by kernel_rfl
theorem size54 : (Tryz.prog.info? 125).map (·.size) = some 256 := by kernel_rfl
theorem under54 : Tryz.prog.underlying 125 = some (.array 256 87) := by kernel_rfl
theorem zero54 (w : World) : (zeroValue 125).run Tryz.prog w = .ok (.agg (Array.replicate 256 (.int .u32 0))) w := by
  have h := info125
  cases hq : Tryz.prog.info? 125 with
  | none => rw [hq] at h; simp at h
  | some i =>
    rw [hq] at h
    simp only [Option.map_some, Option.some.injEq, Prod.mk.injEq] at h
    simp [zeroValue, typeInfo, hq, h.1]

/-- The table, as far as it is made. -/
def TabAt (w : World) (g k : Nat) : Prop := ∃ cur : Array Value, w.heap[g]? = some (.cells cur 125 (0, 0)) ∧ cur.size = 256 ∧ (∀ j, j < k → cur[j]? = some (tab j)) ∧ cur.all (·.oneCell') = true
theorem TabAt.set {w : World} {g k : Nat} (h : TabAt w g k) (hk : k < 256) : TabAt (w.setCell ⟨g, k, none⟩ (tab k)) g (k + 1) := by
  obtain ⟨cur, h1, h2, h3, h4⟩ := h
  refine ⟨cur.setIfInBounds k (tab k), ?_, by simpa using h2, ?_, ?_⟩
  · rw [setCell_eq_setRow w g k cur 125 (0, 0) (tab k) h1, setRow_heap w g cur _ 125 _ h1]
  · intro j hj
    by_cases e : j = k
    · subst e; simp [h2, hk]
    · rw [Array.getElem?_setIfInBounds_ne (by omega)]
      exact h3 j (by omega)
  · rw [Array.all_eq_true] at h4 ⊢
    intro j hj
    rw [Array.getElem_setIfInBounds]
    split
    · rfl
    · exact h4 j (by simpa using hj)
theorem TabAt.done {w : World} {g : Nat} (h : TabAt w g 256) : w.heap[g]? = some (.cells tabs.toArray 125 (0, 0)) := by
  obtain ⟨cur, h1, h2, h3, h4⟩ := h
  rw [h1]
  have : cur = tabs.toArray := by
    apply Array.ext
    · rw [h2]; simp [tabs]
    · intro j hj hj'
      have := h3 j (by omega)
      rw [Array.getElem?_eq_getElem hj] at this
      simp only [Option.some.injEq] at this
      rw [this]
      simp [tabs]
  rw [this]
theorem tabs_size : tabs.toArray.size = 256 := by simp [tabs]
theorem tabs_one : tabs.toArray.all (·.oneCell') = true := by
  rw [Array.all_eq_true]
  intro j hj
  simp [tabs, tab]
  rfl

theorem alloc_size (w : World) (o : Obj) : (w.alloc o).heap.size = w.heap.size + 1 := Array.size_push _
theorem alloc2_new (w : World) (o1 o2 : Obj) : ((w.alloc o1).alloc o2).heap[w.heap.size + 1]? = some o2 := by
  have := heap_alloc_new (w.alloc o1) o2
  rwa [alloc_size] at this
theorem alloc2_old (w : World) (o1 o2 : Obj) : ((w.alloc o1).alloc o2).heap[w.heap.size]? = some o1 := by
  rw [(World.grownBy_alloc (w.alloc o1) o2 none).block w.heap.size (by rw [alloc_size]; omega) (by simp)]
  exact heap_alloc_new w o1
theorem Z_one : (Array.replicate 256 (Value.int .u32 0)).all (·.oneCell') = true := by
  rw [Array.all_eq_true]; intro j hj; rw [Array.getElem_replicate]; rfl

theorem results_cell {fn : Func} {p : Tmp} {ty : TypeId} (h : fn.results = #[.cell p ty]) (tmps : Array Value) (P : Program) (w : World) (ad : Addr) (v : Value) (h1 : tmps.getD p undef = .pointer (some ad)) (h2 : (loadVar ty ad).run P w = .ok v w) :
    (results fn tmps).run P w = .ok v w := by
  rw [Array.getD_eq_getD_getElem?] at h1
  simp only [results, h]
  simp [h1, asAddr, h2]

set_option maxRecDepth 100000 in
set_option maxHeartbeats 1000000 in
theorem g_sums (w : World) :
    Calls Tryz.prog 104 #[] w fun e w' => e = .returned (.agg tabs.toArray) ∧ w.grownBy w' none := by
  have hz : ∀ w, (zeroValue 125).run Tryz.prog w = .ok (.agg (Array.replicate 256 (.int .u32 0))) w := zero54
  have HZ : Hid (TabAt ((w.alloc (.cells (Array.replicate 256 (.int .u32 0)) 125)).alloc (.cells (Array.replicate 256 (.int .u32 0)) 125)) (w.heap.size + 1) 0) :=
    ⟨Array.replicate 256 (.int .u32 0), alloc2_new _ _ _, Array.size_replicate, by simp, Z_one⟩
  have HS : Hid ((Array.replicate 256 (Value.int .u32 0)).size = 256) := Array.size_replicate
  generalize Array.replicate 256 (Value.int .u32 0) = Z at hz HZ HS
  have HDn : Hid (∀ w' : World, TabAt w' (w.heap.size + 1) 256 → w'.heap[w.heap.size + 1]? = some (.cells tabs.toArray 125 (0, 0))) := fun _ h => h.done
  have HTs : Hid (tabs.toArray.size = 256) := tabs_size
  have HTo : Hid (tabs.toArray.all (·.oneCell') = true) := tabs_one
  generalize tabs.toArray = T at HDn HTs HTo ⊢
  have u54 := under54
  go_enter Tryz.func104, Tryz.ntmps104
  go_wp2
  go_loopw [3] (fun t3 wr => ∃ (i : Nat), i ≤ 256 ∧ t3 = .int .i64 i ∧ TabAt wr (w.heap.size + 1) i ∧ w.grownBy wr none ∧ wr.heap[w.heap.size]? = some (.cells Z 125 (0, 0)) ∧ w.heap.size + 1 < wr.heap.size) (fun t3 _ => 256 - (intOf t3).toNat)
  case atStart => exact ⟨0, by omega, rfl, HZ.out, (World.grownBy_alloc w _ none).trans (World.grownBy_alloc _ _ none), alloc2_old _ _ _, by rw [alloc_size, alloc_size]; omega⟩
  case round =>
    obtain ⟨i, hi, rfl, ht, hg, hb, hsz⟩ := hrel
    have HT : Hid (TabAt wr (w.heap.size + 1) i) := ht
    have HG : Hid (w.grownBy wr none) := hg
    have HB : Hid (wr.heap[w.heap.size]? = some (.cells Z 125 (0, 0))) := hb
    have HW : Hid (w.heap.size + 1 < wr.heap.size) := hsz
    clear HZ hg hb hsz
    by_cases hlt : i < 256
    · have hcell : ∃ v, wr.cell? ⟨w.heap.size + 1, i, none⟩ = some v := by
        obtain ⟨cur, h1, h2, _⟩ := ht
        exact ⟨cur[i], by rw [cell_of_row wr _ i cur 125 _ h1, Array.getElem?_eq_getElem (by omega)]⟩
      obtain ⟨v0, hcell⟩ := hcell
      have hfro : wr.frozen? ⟨w.heap.size + 1, i, none⟩ = false := by
        obtain ⟨cur, h1, h2, _⟩ := ht
        simp [World.frozen?, h1]
      have HC : Hid (Calls Tryz.prog 128 #[.int .u32 (i : Int)] wr fun e w' => e = .returned (tab i) ∧ wr = w') := g_eight _ _ wr (by omega) rfl
      have HN : Hid (TabAt (wr.setCell ⟨w.heap.size + 1, i, none⟩ (tab i)) (w.heap.size + 1) (i + 1)) := HT.out.set hlt
      unfold tab at HC HN
      generalize crcN 8 (i : Int) = r at HC HN
      clear ht
      go_wp2_with (go_at_call 128; refine HC.out.mono ?_; rintro e w1 ⟨rfl, rfl⟩)
      go_roundw
      case rel => exact ⟨i + 1, by omega, by go_num, HN.out, gb_trans HG.out (gb_set rfl) (fun k hk => by simp at hk; subst hk; exact .inl (by omega)), ((gb_set (w := wr) (p := ⟨w.heap.size + 1, i, none⟩) (u := .int .u32 r) rfl).block w.heap.size (by have := HW.out; omega) (by simp)).trans HB.out, Nat.lt_of_lt_of_le HW.out (gb_set (w := wr) (p := ⟨w.heap.size + 1, i, none⟩) (u := .int .u32 r) rfl).size⟩
      case measure => simp [intOf]; omega
    · obtain rfl : i = 256 := by omega
      have hrow := HDn.out wr HT.out
      have HROW : Hid (wr.heap[w.heap.size + 1]? = some (.cells T 125 (0, 0))) := hrow
      have hst : (storeCells ⟨w.heap.size, 0, none⟩ T.toList).run Tryz.prog wr = .ok () (wr.setRow w.heap.size T) := by
        have := run_storeCells_from (P := Tryz.prog) w.heap.size 125 T.toList 0 Z wr HB.out (by have := HS.out; have := HTs.out; simp; omega) (fun v hv => (Array.all_eq_true_iff_forall_mem.1 HTo.out) v (by simpa using hv))
        simpa using this
      have HH : Hid ((wr.setRow w.heap.size T).heap[w.heap.size]? = some (.cells T 125 (0, 0))) := setRow_heap wr _ Z _ 125 _ HB.out
      have HGB : Hid (w.grownBy (wr.setRow w.heap.size T) none) := by
        refine ⟨HG.out.os, HG.out.tape, HG.out.output, ?_, ?_⟩
        · have := HG.out.size
          simpa [World.setRow] using this
        · intro k hk _
          rw [← HG.out.block k hk (by simp)]
          simp only [World.setRow]
          rw [Array.getElem?_modify]
          simp [show ¬ w.heap.size = k by omega]
      generalize wr.setRow w.heap.size T = w9 at hst HH HGB
      clear hrow ht
      go_wp2
      refine wp_load_row 125 (.tmp 1) rfl _ rfl 125 T (0, 0) _ HROW.out under54 rfl (by rw [size54, HTs.out]) ?_
      go_wp2
      have hl : (loadVar 125 ⟨w.heap.size, 0, none⟩).run Tryz.prog w9 = .ok (.agg T) w9 := run_loadVar_row w9 _ 125 125 _ _ _ HH.out under54 rfl (by rw [size54, HTs.out])
      refine bodyPost_ret (v := .agg T) (results_cell Tryz.results104 _ _ _ _ _ rfl hl) rfl ⟨rfl, HGB.out⟩
end Go.Proofs.YtekejnjaiccnbaaGreatDoor

/- The program's Sum, by its table. -/
namespace Go.Proofs.YtekejnjaiccnbaaGreatDoor
open Go.RowKit
set_option linter.unusedVariables false

theorem stepsN_lt (k : Nat) : ∀ c, c < 2 ^ 32 → stepsN k c < 2 ^ 32 := by
  induction k with
  | zero => intro c h; exact h
  | succ k ih => intro c h; exact ih _ (stepN_lt c h)
theorem crcB_tab (c z : Int) (Q : Nat) (hc : 0 ≤ c ∧ c ≤ 4294967295) (hz : 0 ≤ z ∧ z ≤ 255) (hq : bits .xor .u8 (c % 256) z = (Q : Int)) : bits .xor .u32 (c / 256) (crcN 8 (Q : Int)) = crcB c z := by
  obtain ⟨C, rfl⟩ := Int.eq_ofNat_of_zero_le hc.1
  obtain ⟨Z, rfl⟩ := Int.eq_ofNat_of_zero_le hz.1
  have e1 : ((C : Int) % 256) = ((C % 256 : Nat) : Int) := by omega
  have e2 : ((C : Int) / 256) = ((C / 256 : Nat) : Int) := by omega
  rw [e1, u8_xor _ _ (by omega) (by omega) (by omega) (by omega)] at hq
  have hQ : C % 256 ^^^ Z = Q := by
    have := hq
    simp only [Int.toNat_natCast] at this
    exact_mod_cast this
  have hQ8 : Q < 256 := by rw [← hQ]; exact Nat.xor_lt_two_pow (n := 8) (by omega) (by omega)
  rw [crcB_nat C Z (by omega) (by omega), steps8, crcN_nat 8 Q (by omega), e2]
  have m1 : (C ^^^ Z) % 256 = Q := by
    rw [← hQ]
    have := Nat.xor_mod_two_pow (a := C) (b := Z) (n := 8)
    rw [show (2 : Nat) ^ 8 = 256 by decide] at this
    rw [this, Nat.mod_eq_of_lt (by omega : Z < 256)]
  have m2 : (C ^^^ Z) / 256 = C / 256 := by
    have := Nat.xor_div_two_pow (a := C) (b := Z) (n := 8)
    rw [show (2 : Nat) ^ 8 = 256 by decide] at this
    rw [this, Nat.div_eq_of_lt (by omega : Z < 256), Nat.xor_zero]
  have hs := stepsN_lt 8 Q (by omega)
  rw [m1, m2, u32_xor _ _ (by omega) (by omega) (by omega) (by omega)]
  simp only [Int.toNat_natCast]
  rw [Nat.xor_comm]

theorem tabs_at {Q : Nat} (h : Q < 256) : tabs.toArray[Q]? = some (.int .u32 (crcN 8 (Q : Int))) := by
  simp [tabs, tab, h]

set_option maxRecDepth 100000 in
set_option maxHeartbeats 1000000 in
theorem g_table (a : Option Addr) (zs : List Int) (L cap : Nat) (R : Int) (w : World) (hr : Rd w a zs) (hL : zs.length = L) (hz : (L : Int) ≤ 140737488355328) (hR : sumR zs = R) :
    Calls Tryz.prog 103 #[.slice a L cap, .agg tabs.toArray] w fun e w' => e = .returned (.int .u32 R) ∧ w.grownBy w' none := by
  have HA : Hid (∀ Q, Q < 256 → (w.alloc (.cells tabs.toArray 125)).cell? ⟨w.heap.size, Q, none⟩ = some (.int .u32 (crcN 8 (Q : Int)))) := fun Q h => by
    rw [cell_of_row _ w.heap.size Q tabs.toArray 125 _ (heap_alloc_new w _)]
    exact tabs_at h
  have HR : Hid (Rd (w.alloc (.cells tabs.toArray 125)) a zs) := hr.grown (World.grownBy_alloc w _ none) (by simp)
  have HG : Hid (w.grownBy (w.alloc (.cells tabs.toArray 125)) none) := World.grownBy_alloc w _ none
  generalize tabs.toArray = T at HA HR HG ⊢
  have HL : Hid (zs.length = L) := hL
  have HS : Hid (sumR zs = R) := hR
  have u54 := under54
  clear hr hL hR
  go_enter Tryz.func103, Tryz.ntmps103
  go_wp2
  obtain ⟨w1, ew1⟩ : ∃ w1, w1 = w.alloc (.cells T 125) := ⟨_, rfl⟩
  rw [← ew1] at HA HR HG ⊢
  clear ew1
  go_loop [5, 10] (fun t5 t10 => ∃ (j : Nat) (c : Int), j ≤ L ∧ SumAt zs j c ∧ t5 = .int .u32 c ∧ t10 = .int .i64 j) (fun _ t10 => L - (intOf t10).toNat)
  case atStart => exact ⟨0, 4294967295, Nat.zero_le _, rfl, rfl, rfl⟩
  case round =>
    obtain ⟨j, c, hj, hs, rfl, rfl⟩ := hrel
    have HJ : Hid (SumAt zs j c) := hs
    have hcb := hs.bd HR.out.2
    clear hs
    by_cases hlt : j < L
    · have hl := HL.out
      obtain ⟨b, off, rfl, hc⟩ := HR.out.at (by omega)
      have hcell := hc j (by omega)
      have hby := HR.out.byte j
      have HN : Hid (SumAt zs (j + 1) (crcB c (zs.getD j 0))) := HJ.out.next (by omega)
      obtain ⟨z, ez⟩ : ∃ z, z = zs.getD j 0 := ⟨_, rfl⟩
      rw [← ez] at hcell hby HN
      obtain ⟨Q, hQ⟩ := Int.eq_ofNat_of_zero_le (bits_lo_u8 .xor (c % 256) z)
      have hQ8 : Q < 256 := by have := bits_hi_u8 .xor (c % 256) z; omega
      have hcell2 := HA.out Q hQ8
      have HX : Hid (bits .xor .u32 (c / 256) (crcN 8 (Q : Int)) = crcB c z) := crcB_tab c z Q hcb hby hQ
      obtain ⟨r, er⟩ : ∃ r, r = crcN 8 (Q : Int) := ⟨_, rfl⟩
      rw [← er] at hcell2 HX
      have hrb : 0 ≤ r ∧ r ≤ 4294967295 := by rw [er]; exact crcN_bd 8 _ (by omega)
      clear hc ez hl HJ er
      go_wp2
      go_round
      case rel => exact ⟨j + 1, _, by omega, by rw [HX.out]; exact HN.out, rfl, by go_num⟩
      case measure => simp [intOf]; omega
    · have HE : Hid (bits .xor .u32 c 4294967295 = R) := by
        have h1 := HJ.out
        unfold SumAt at h1
        rw [List.take_of_length_le (by have := HL.out; omega)] at h1
        show _ = _
        rw [h1]; exact HS.out
      go_wp2
      go_ret
      exact ⟨ret_int HE.out, HG.out⟩

theorem f_sum (a : Option Addr) (zs : List Int) (L cap : Nat) (R : Int) (w : World) (hr : Rd w a zs) (hL : zs.length = L) (hz : (L : Int) ≤ 140737488355000) (hR : sumR zs = R) :
    Calls Tryz.prog 62 #[.slice a L cap] w fun e w' => e = .returned (.int .u32 R) ∧ w.grownBy w' none := by
  by_cases h : L < 256
  · have HC := g_plain a zs L cap R w hr hL (by omega) hR
    have hd : decide ((L : Int) < 256) = true := by simp; omega
    clear hr hL hR
    go_enter Tryz.func62, Tryz.ntmps62
    go_wp2_with fail
    refine HC.mono ?_
    rintro e w1 ⟨rfl, rfl⟩
    go_wp2
    go_ret
    exact ⟨rfl, World.grownBy.refl _ _⟩
  · have HS : Hid (Calls Tryz.prog 104 #[] w fun e w' => e = .returned (.agg tabs.toArray) ∧ w.grownBy w' none) := g_sums w
    have HT : Hid (∀ w1, w.grownBy w1 none → Calls Tryz.prog 103 #[.slice a L cap, .agg tabs.toArray] w1 fun e w' => e = .returned (.int .u32 R) ∧ w1.grownBy w' none) := fun w1 hg => g_table a zs L cap R w1 (hr.grown hg (by simp)) hL (by omega) hR
    generalize tabs.toArray = T at HS HT
    have hd : decide ((L : Int) < 256) = false := by simp; omega
    clear hr hL hR
    go_enter Tryz.func62, Tryz.ntmps62
    go_wp2_with fail
    refine HS.out.mono ?_
    rintro e w1 ⟨rfl, hg1⟩
    have HG1 : Hid (w.grownBy w1 none) := hg1
    have HC := HT.out w1 hg1
    clear hg1
    go_wp2_with fail
    refine HC.mono ?_
    rintro e w2 ⟨rfl, hg2⟩
    have HG2 : Hid (w1.grownBy w2 none) := hg2
    clear hg2
    go_wp2
    go_ret
    exact ⟨rfl, HG1.out.trans HG2.out⟩
end Go.Proofs.YtekejnjaiccnbaaGreatDoor

