/- Several texts in one: Nw, Ty, Lx, Tk, Pa, Le. -/
import Derived.Test.YtnimdngiejcljaaZc
import Derived.Deep.Cut
import Derived.Test.YtnimdngiejcljaaZb
import Derived.Deep.RegionHeld3
/- number: the walk. -/
namespace Go.Proofs.Ytnimdngiejcljaa
open Go.RowKit
set_option linter.unusedVariables false
set_option maxRecDepth 20000

theorem wrap64_is (x : Int) : wrap64 x = IntKind.i64.wrap x := by rw [IntKind.wrap_i64]; unfold wrap64; rfl
theorem rb_run (c : Int) : (letB c || digB c || decide (c = 46)) = runB 46 c := by unfold runB; cases letB c <;> cases digB c <;> rfl
def nmT (s : ByteArray) (g k : Nat) (d C S : Int) (u : Nat → Value) : Array Value := #[.string s, undef, .pointer (some ⟨g, 0, none⟩), .int .i64 0, .int .i64 (k : Int), .int .i64 d, .int .i64 C, .int .i64 S, u 8, u 9, u 10, u 11, u 12, u 13, u 14, u 15, u 16, u 17, u 18, u 19, u 20, u 21, u 22, u 23, u 24, u 25, u 26, u 27, u 28, u 29, u 30, u 31, u 32, u 33, u 34, u 35, u 36, u 37, u 38, u 39, u 40, u 41, u 42, u 43, u 44, u 45, u 46, u 47, u 48, u 49, u 50, u 51, u 52, u 53, u 54, u 55, u 56, u 57, u 58, u 59, u 60, u 61, u 62, u 63, u 64, u 65, u 66, u 67, u 68, u 69, u 70, u 71, u 72, u 73, u 74, u 75, u 76, u 77, u 78, u 79, u 80, u 81, u 82, u 83, u 84, u 85, u 86, u 87, u 88, u 89, u 90, u 91, u 92, u 93, u 94, u 95]
/-- The count of the digits ahead of k, cut off. -/
def CntAt (l : List Int) (k : Nat) (C : Int) : Prop := C = min (valL (l.take k)) 2147483648
def NoughtNot (l : List Int) (D : Nat) : Prop := ¬ (l.getD 0 0 = 48 ∧ 1 < D)
def NmJ0 (s : ByteArray) (g : Nat) (W : World) (a' : Act) (w' : World) : Prop := ∃ (k : Nat) (C : Int) (u : Nat → Value), a' = { tmps := nmT s g k 0 C 0 u, defers := [] } ∧ w' = W ∧ k < s.size ∧ RunAt digB (sInts s) k ∧ digB (byteAt s k) = true ∧ CntAt (sInts s) k C ∧ 0 ≤ C ∧ C ≤ 2147483648
def NmJ1 (s : ByteArray) (g : Nat) (W : World) (a' : Act) (w' : World) : Prop := ∃ (k : Nat) (d C S : Int) (u : Nat → Value), a' = { tmps := nmT s g k d C S u, defers := [] } ∧ w' = W ∧ numR (sInts s) = (0, ⟨#[]⟩, 0, 0)
def NmJ2 (s : ByteArray) (g : Nat) (W : World) (a' : Act) (w' : World) : Prop := ∃ (k : Nat) (C : Int) (u : Nat → Value), a' = { tmps := nmT s g k (k : Int) C 0 u, defers := [] } ∧ w' = W ∧ k < s.size ∧ DigAt (sInts s) k ∧ NoughtNot (sInts s) k ∧ byteAt s k = 46
def NmJ3 (s : ByteArray) (g : Nat) (W : World) (a' : Act) (w' : World) : Prop := ∃ (k : Nat) (C : Int) (u : Nat → Value), a' = { tmps := nmT s g k (k : Int) C 0 u, defers := [] } ∧ w' = W ∧ k < s.size ∧ DigAt (sInts s) k ∧ NoughtNot (sInts s) k ∧ letB (byteAt s k) = true ∧ CntAt (sInts s) k C ∧ 0 ≤ C ∧ C ≤ 2147483648
def NmJ4 (s : ByteArray) (g : Nat) (W : World) (a' : Act) (w' : World) : Prop := ∃ (k : Nat) (d C : Int) (u : Nat → Value), a' = { tmps := nmT s g k d C 0 u, defers := [] } ∧ w' = W ∧ k ≤ s.size ∧ numR (sInts s) = if d ≤ 15 ∧ runB 46 (byteAt s k) = false then (1, strOfNums ((sInts s).take k), 0, k) else (0, ⟨#[]⟩, 0, 0)
def NmJ5 (s : ByteArray) (g : Nat) (W : World) (a' : Act) (w' : World) : Prop := ∃ (k D : Nat) (d C : Int) (u : Nat → Value), a' = { tmps := nmT s g k d C 0 u, defers := [] } ∧ w' = W ∧ k < s.size ∧ FracAt (sInts s) D k ∧ NoughtNot (sInts s) D ∧ digB (byteAt s k) = true ∧ d = (k : Int) - 1
section
variable {s : ByteArray} {g : Nat} {W : World} {a' : Act} {w' : World}
theorem nmJ0 (k : Nat) (C : Int) (h : a' = { tmps := nmT s g k 0 C 0 (upon a'), defers := [] }) (h1 : w' = W) (h2 : k < s.size) (h3 : RunAt digB (sInts s) k) (h4 : digB (byteAt s k) = true) (h5 : CntAt (sInts s) k C) (h6 : 0 ≤ C ∧ C ≤ 2147483648) : NmJ0 s g W a' w' := ⟨k, C, _, h, h1, h2, h3, h4, h5, h6⟩
theorem nmJ1 (k : Nat) (d C S : Int) (h : a' = { tmps := nmT s g k d C S (upon a'), defers := [] }) (h1 : w' = W) (h2 : numR (sInts s) = (0, ⟨#[]⟩, 0, 0)) : NmJ1 s g W a' w' := ⟨k, d, C, S, _, h, h1, h2⟩
theorem nmJ2 (k : Nat) (C : Int) (h : a' = { tmps := nmT s g k (k : Int) C 0 (upon a'), defers := [] }) (h1 : w' = W) (h2 : k < s.size) (h3 : DigAt (sInts s) k) (h4 : NoughtNot (sInts s) k) (h5 : byteAt s k = 46) : NmJ2 s g W a' w' := ⟨k, C, _, h, h1, h2, h3, h4, h5⟩
theorem nmJ3 (k : Nat) (C : Int) (h : a' = { tmps := nmT s g k (k : Int) C 0 (upon a'), defers := [] }) (h1 : w' = W) (h2 : k < s.size) (h3 : DigAt (sInts s) k) (h4 : NoughtNot (sInts s) k) (h5 : letB (byteAt s k) = true) (h6 : CntAt (sInts s) k C) (h7 : 0 ≤ C ∧ C ≤ 2147483648) : NmJ3 s g W a' w' := ⟨k, C, _, h, h1, h2, h3, h4, h5, h6, h7⟩
theorem nmJ4 (k : Nat) (d C : Int) (h : a' = { tmps := nmT s g k d C 0 (upon a'), defers := [] }) (h1 : w' = W) (h2 : k ≤ s.size) (h3 : numR (sInts s) = if d ≤ 15 ∧ runB 46 (byteAt s k) = false then (1, strOfNums ((sInts s).take k), 0, k) else (0, ⟨#[]⟩, 0, 0)) : NmJ4 s g W a' w' := ⟨k, d, C, _, h, h1, h2, h3⟩
theorem nmJ5 (k D : Nat) (d C : Int) (h : a' = { tmps := nmT s g k d C 0 (upon a'), defers := [] }) (h1 : w' = W) (h2 : k < s.size) (h3 : FracAt (sInts s) D k) (h4 : NoughtNot (sInts s) D) (h5 : digB (byteAt s k) = true) (h6 : d = (k : Int) - 1) : NmJ5 s g W a' w' := ⟨k, D, d, C, _, h, h1, h2, h3, h4, h5, h6⟩
end
def nmM (s : ByteArray) (a' : Act) (_ : World) : Nat := 1 + (s.size + 2 - (intOf (a'.tmps.getD 4 undef)).toNat)
theorem cnt_next {l : List Int} {k : Nat} {C C2 : Int} (h : CntAt l k C) (hr : RunAt digB l k) (hk : k < l.length) (hd : digB (l.getD k 0) = true) (h2 : C2 = min (C * 10 + (l.getD k 0 - 48)) 2147483648) : CntAt l (k + 1) C2 := by
  unfold CntAt at h ⊢
  rw [val_next l k hk]
  have h0 := val_pos hr k (Nat.le_refl _)
  have h1 := dig_bd hd
  omega
set_option maxHeartbeats 8000000 in
theorem f_number (s : ByteArray) (w : World) (hs : s.size ≤ 4096) (h0 : 1 ≤ s.size) (hd0 : digB (byteAt s 0) = true) : Calls Try.prog 25 #[.string s] w fun e w' => TkOut (numR (sInts s)) w e w' := by
  have HB : Hid (Bx w (w.alloc (.cells #[.int .i64 0, .int .i64 0, .string ⟨#[]⟩, .int .i64 0] 52)) w.heap.size) := Bx.made w
  have HSL : Hid ((sInts s).length = s.size) := sInts_len s
  have HD0 : Hid (digB (byteAt s 0) = true) := hd0
  clear hd0
  generalize hW : (w.alloc (.cells #[.int .i64 0, .int .i64 0, .string ⟨#[]⟩, .int .i64 0] 52)) = W at HB
  have HW : Hid ((w.alloc (.cells #[.int .i64 0, .int .i64 0, .string ⟨#[]⟩, .int .i64 0] 52)) = W) := hW
  clear hW
  generalize hG : w.heap.size = G at HB
  have HG : Hid (w.heap.size = G) := hG
  clear hG
  go_enter Try.func25, Try.ntmps25
  go_wp2_with fail
  rw [HW.out, HG.out]
  refine wp_scope_num (NmJ0 s G W) (NmJ1 s G W) (NmJ2 s G W) (NmJ3 s G W) (NmJ4 s G W) (NmJ5 s G W) (nmM s) (fun _ _ => 0) (nmM s) (nmM s) (nmM s) (nmM s) rfl rfl rfl rfl rfl rfl ?p1 ?p4 ?p3 ?p5 ?p2 ?p0 ?first
  case p1 =>
    rintro a' wr ⟨k, d, C, S, u, rfl, rfl, ht⟩
    unfold nmT
    have HD : Hid (numR (sInts s) = (0, ⟨#[]⟩, 0, 0)) := ht
    obtain ⟨r0, r1, r2, r3⟩ := cell4 HB.out.row
    have f0 := free_row HB.out.row 0
    have f1 := free_row HB.out.row 1
    have f2 := free_row HB.out.row 2
    have f3 := free_row HB.out.row 3
    clear ht
    go_wp2_with fail
    simp only [onto, jumps]
    refine bodyPost_ret (v := .tuple #[tokV 0 0 ⟨#[]⟩ 0, .int .i64 (0 : Int)]) (results_row_tmp Try.results25 _ _ _ G 52 _ (0, 0) _ rfl (row4 HB.out.row (.int .i64 0) (.int .i64 0) (.string ⟨#[]⟩) (.int .i64 0)) Try.underlying52 isz32) rfl ?_
    exact tk_ret (n := 0) HB.out HD.out
  case p4 =>
    rintro on1 a' wr ⟨k, d, C, u, rfl, rfl, hk, ht⟩
    clear on1
    unfold nmT
    have HBA := f_byteAt s k
    have HRB := f_runByte (byteAt s k)
    rw [rb_run] at HRB
    have hsl := sl_hi s k hk
    have HTD : Hid (numR (sInts s) = if d ≤ 15 ∧ runB 46 (byteAt s k) = false then (1, strOfNums ((sInts s).take k), 0, k) else (0, ⟨#[]⟩, 0, 0)) := ht
    clear ht
    generalize strOfNums ((sInts s).take k) = t at hsl HTD
    generalize runB 46 (byteAt s k) = b at HTD HRB
    generalize byteAt s k = c at HBA HRB
    by_cases hd : d ≤ 15
    · have q1 : decide ((15 : Int) < d) = false := by simp; omega
      cases b with
      | true =>
        have HN : Hid (numR (sInts s) = (0, ⟨#[]⟩, 0, 0)) := by show _ = _; rw [HTD.out, if_neg (by simp)]
        clear HTD hd
        go_wp2_with (first | (go_at_call 41; refine (HBA _).mono ?_; rintro e w1 ⟨rfl, rfl⟩) | (go_at_call 43; refine (HRB _).mono ?_; rintro e w1 ⟨rfl, rfl⟩))
        go_step3
        exact ⟨nmJ1 k d C 0 rfl rfl HN.out, by simp [sel6, nmM, intOf] <;> omega⟩
      | false =>
        have HN : Hid (numR (sInts s) = (1, t, 0, k)) := by show _ = _; rw [HTD.out, if_pos ⟨hd, rfl⟩]
        obtain ⟨r0, r1, r2, r3⟩ := cell4 HB.out.row
        have f0 := free_row HB.out.row 0
        have f1 := free_row HB.out.row 1
        have f2 := free_row HB.out.row 2
        have f3 := free_row HB.out.row 3
        clear HTD hd
        go_wp2_with (first | (go_at_call 41; refine (HBA _).mono ?_; rintro e w1 ⟨rfl, rfl⟩) | (go_at_call 43; refine (HRB _).mono ?_; rintro e w1 ⟨rfl, rfl⟩))
        simp only [onto, jumps]
        refine bodyPost_ret (v := .tuple #[tokV 1 0 t 0, .int .i64 (k : Int)]) (results_row_tmp Try.results25 _ _ _ G 52 _ (0, 0) _ rfl (row4 HB.out.row (.int .i64 1) (.int .i64 0) (.string t) (.int .i64 0)) Try.underlying52 isz32) rfl ?_
        exact tk_ret HB.out HN.out
    · have q1 : decide ((15 : Int) < d) = true := by simp; omega
      have HN : Hid (numR (sInts s) = (0, ⟨#[]⟩, 0, 0)) := by show _ = _; rw [HTD.out, if_neg (fun h => hd h.1)]
      clear HTD hd
      go_wp2_with (first | (go_at_call 41; refine (HBA _).mono ?_; rintro e w1 ⟨rfl, rfl⟩) | (go_at_call 43; refine (HRB _).mono ?_; rintro e w1 ⟨rfl, rfl⟩))
      go_step3
      exact ⟨nmJ1 k d C 0 rfl rfl HN.out, by simp [sel6, nmM, intOf] <;> omega⟩
  case p3 =>
    rintro on4 a' wr ⟨k, C, u, rfl, rfl, hk, hd, hnn, hc, hcn, hC0, hC1⟩
    clear on4
    unfold nmT
    have HSE := f_seconds (byteAt s k)
    have HBA := f_byteAt s (k + 1)
    have HRB := f_runByte (byteAt s (k + 1))
    rw [rb_run] at HRB
    have hidx := idx9 s k hk
    have hsl := sl_hi s (k + 1) hk
    rw [show ((k + 1 : Nat) : Int) = (k : Int) + 1 by omega] at hsl
    have hub := unit_bd (byteAt s k)
    have HNU : Hid (∀ v, v = C * unitR (byteAt s k) → numR (sInts s) = if 1 ≤ v ∧ v ≤ 2147483647 ∧ runB 46 (byteAt s (k + 1)) = false then (2, strOfNums ((sInts s).take (k + 1)), v, k + 1) else (0, ⟨#[]⟩, 0, 0)) := fun v hv => num_unit hd hnn hc C v hcn hv
    clear hd hnn hc hcn
    generalize strOfNums ((sInts s).take (k + 1)) = t at hsl HNU
    generalize runB 46 (byteAt s (k + 1)) = b at HNU HRB
    generalize byteAt s (k + 1) = c1 at HBA HRB
    generalize unitR (byteAt s k) = U at HSE HNU hub
    generalize byteAt s k = c at HSE hidx
    have hv : ∃ v, v = C * U ∧ 0 ≤ v ∧ v ≤ 185542587187200 := ⟨_, rfl, by rcases hub with h | h | h | h | h <;> rw [h] <;> omega, by rcases hub with h | h | h | h | h <;> rw [h] <;> omega⟩
    obtain ⟨v, ev, hv0, hv1⟩ := hv
    have HN0 : Hid (numR (sInts s) = if 1 ≤ v ∧ v ≤ 2147483647 ∧ b = false then (2, t, v, k + 1) else (0, ⟨#[]⟩, 0, 0)) := HNU.out v ev
    have HWR : Hid (wrap64 (C * U) = v ∧ IntKind.i64.wrap (C * U) = v) := by
      have hwr : wrap64 (C * U) = v := by rw [← ev]; exact IntWalk.wrap64_in _ (by omega)
      exact ⟨hwr, by rw [← wrap64_is]; exact hwr⟩
    have hk1 : k + 1 ≤ s.size := hk
    clear HNU hub ev hC0 hC1
    go_upto_region 19 with (go_at_call 42; refine (HSE _).mono ?_; rintro e w1 ⟨rfl, rfl⟩)
    first | rw [HWR.out.1] | rw [HWR.out.2]
    clear HWR HSE hidx
    by_cases h1 : v < 1
    · have q1 : decide (v < 1) = true := by simpa using h1
      have HN : Hid (numR (sInts s) = (0, ⟨#[]⟩, 0, 0)) := by show _ = _; rw [HN0.out, if_neg (by omega)]
      clear HN0
      go_wp2_with (first | (go_at_call 41; refine (HBA _).mono ?_; rintro e w1 ⟨rfl, rfl⟩) | (go_at_call 43; refine (HRB _).mono ?_; rintro e w1 ⟨rfl, rfl⟩))
      go_step3
      exact ⟨nmJ1 (k + 1) (k : Int) C v rfl rfl HN.out, by simp [sel6, nmM, intOf] <;> omega⟩
    have q1 : decide (v < 1) = false := by simpa using h1
    by_cases h2 : v ≤ 2147483647
    · have q2 : decide (2147483647 < v) = false := by simp; omega
      cases b with
      | true =>
        have HN : Hid (numR (sInts s) = (0, ⟨#[]⟩, 0, 0)) := by show _ = _; rw [HN0.out, if_neg (by simp)]
        clear HN0
        go_wp2_with (first | (go_at_call 41; refine (HBA _).mono ?_; rintro e w1 ⟨rfl, rfl⟩) | (go_at_call 43; refine (HRB _).mono ?_; rintro e w1 ⟨rfl, rfl⟩))
        go_step3
        exact ⟨nmJ1 (k + 1) (k : Int) C v rfl rfl HN.out, by simp [sel6, nmM, intOf] <;> omega⟩
      | false =>
        have HN : Hid (numR (sInts s) = (2, t, v, k + 1)) := by show _ = _; rw [HN0.out, if_pos ⟨by omega, h2, rfl⟩]
        obtain ⟨r0, r1, r2, r3⟩ := cell4 HB.out.row
        have f0 := free_row HB.out.row 0
        have f1 := free_row HB.out.row 1
        have f2 := free_row HB.out.row 2
        have f3 := free_row HB.out.row 3
        clear HN0
        go_wp2_with (first | (go_at_call 41; refine (HBA _).mono ?_; rintro e w1 ⟨rfl, rfl⟩) | (go_at_call 43; refine (HRB _).mono ?_; rintro e w1 ⟨rfl, rfl⟩))
        simp only [onto, jumps]
        refine bodyPost_ret (v := .tuple #[tokV 2 0 t v, .int .i64 ((k : Int) + 1)]) (results_row_tmp Try.results25 _ _ _ G 52 _ (0, 0) _ rfl (row4 HB.out.row (.int .i64 2) (.int .i64 0) (.string t) (.int .i64 v)) Try.underlying52 isz32) rfl ?_
        have ek : (k : Int) + 1 = ((k + 1 : Nat) : Int) := by omega
        rw [ek]
        exact tk_ret HB.out HN.out
    · have q2 : decide (2147483647 < v) = true := by simp; omega
      have HN : Hid (numR (sInts s) = (0, ⟨#[]⟩, 0, 0)) := by show _ = _; rw [HN0.out, if_neg (by omega)]
      clear HN0
      go_wp2_with (first | (go_at_call 41; refine (HBA _).mono ?_; rintro e w1 ⟨rfl, rfl⟩) | (go_at_call 43; refine (HRB _).mono ?_; rintro e w1 ⟨rfl, rfl⟩))
      go_step3
      exact ⟨nmJ1 (k + 1) (k : Int) C v rfl rfl HN.out, by simp [sel6, nmM, intOf] <;> omega⟩
  case p5 =>
    rintro on3 a' wr ⟨k, D, d, C, u, rfl, rfl, hk, hfr, hnn, hdg, rfl⟩
    clear on3
    unfold nmT
    have HBA := f_byteAt s (k + 1)
    have HDG := fun w => f_digit (byteAt s (k + 1)) _ w rfl
    obtain ⟨hk1, hf1⟩ := hfr.next hdg
    have HNN : Hid (NoughtNot (sInts s) D) := hnn
    have HF : Hid (FracAt (sInts s) D (k + 1)) := hf1
    have HLO : Hid (D + 1 ≤ k) := hfr.lo
    have hk2 : k + 1 ≤ s.size := hk
    clear hfr hdg hf1 hk1 hnn
    cases hb : digB (byteAt s (k + 1)) with
    | true =>
      have hlt : k + 1 < s.size := by
        have h1 := (HF.out.next hb).1
        rw [HSL.out] at h1
        exact h1
      have HBT : Hid (digB (byteAt s (k + 1)) = true) := hb
      rw [hb] at HDG
      clear hb
      go_wp2_with (first | (go_at_call 41; refine (HBA _).mono ?_; rintro e w1 ⟨rfl, rfl⟩) | (go_at_call 22; refine (HDG _).mono ?_; rintro e w1 ⟨rfl, rfl⟩))
      go_step3
      exact ⟨nmJ5 (k + 1) D (k : Int) C (by first | rfl | go_num) rfl hlt HF.out HNN.out HBT.out (by omega), by simp [sel6, nmM, intOf] <;> omega⟩
    | false =>
      have HN : Hid (numR (sInts s) = if (k : Int) ≤ 15 ∧ runB 46 (byteAt s (k + 1)) = false then (1, strOfNums ((sInts s).take (k + 1)), 0, k + 1) else (0, ⟨#[]⟩, 0, 0)) := by
        show _ = _
        have hlo := HLO.out
        cases hr : runB 46 (byteAt s (k + 1)) with
        | true => rw [num_dotX HF.out hb (.inr hr), if_neg (by simp)]
        | false =>
          rw [num_frac HF.out (by omega) HNN.out hr]
          by_cases h16 : k + 1 ≤ 16
          · rw [if_pos h16, if_pos ⟨by omega, rfl⟩]
          · rw [if_neg h16, if_neg (fun h => h16 (by omega))]
      rw [hb] at HDG
      clear hb
      go_wp2_with (first | (go_at_call 41; refine (HBA _).mono ?_; rintro e w1 ⟨rfl, rfl⟩) | (go_at_call 22; refine (HDG _).mono ?_; rintro e w1 ⟨rfl, rfl⟩))
      go_step3
      exact ⟨nmJ4 (k + 1) (k : Int) C (by first | rfl | go_num) rfl hk2 HN.out, by simp [sel6, nmM, intOf] <;> omega⟩
  case p2 =>
    rintro on5 a' wr ⟨k, C, u, rfl, rfl, hk, hdg, hnn, hdot⟩
    have ON : Hid (∀ n a w, NmJ5 s G wr a w → _) := on5
    clear on5
    unfold nmT
    have HBA := f_byteAt s (k + 1)
    have HDG := fun w => f_digit (byteAt s (k + 1)) _ w rfl
    have HNN : Hid (NoughtNot (sInts s) k) := hnn
    have HF : Hid (FracAt (sInts s) k (k + 1)) := FracAt.start hdg hdot
    have hk2 : k + 1 ≤ s.size := hk
    clear hdg hdot hnn
    cases hb : digB (byteAt s (k + 1)) with
    | false =>
      have HN : Hid (numR (sInts s) = (0, ⟨#[]⟩, 0, 0)) := num_dotX HF.out hb (.inl rfl)
      rw [hb] at HDG
      clear hb
      go_wp2_with (first | (go_at_call 41; refine (HBA _).mono ?_; rintro e w1 ⟨rfl, rfl⟩) | (go_at_call 22; refine (HDG _).mono ?_; rintro e w1 ⟨rfl, rfl⟩))
      go_step3
      exact ⟨nmJ1 (k + 1) (k : Int) C 0 rfl rfl HN.out, by simp [sel6, nmM, intOf] <;> omega⟩
    | true =>
      have hlt : k + 1 < s.size := by
        have h1 := (HF.out.next hb).1
        rw [HSL.out] at h1
        exact h1
      have HBT : Hid (digB (byteAt s (k + 1)) = true) := hb
      rw [hb] at HDG
      clear hb
      go_wp2_with (first | (go_at_call 41; refine (HBA _).mono ?_; rintro e w1 ⟨rfl, rfl⟩) | (go_at_call 22; refine (HDG _).mono ?_; rintro e w1 ⟨rfl, rfl⟩))
      go_step3
      refine ‹∀ (a : Act) (w : World), Code.wp Try.prog _ _ a w → _› _ _ (ON.out _ _ _ (nmJ5 (k + 1) k (k : Int) C rfl rfl hlt HF.out HNN.out HBT.out (by omega)) ?_)
      simp [nmM, intOf] <;> omega
  case p0 =>
    rintro on2 a' wr ⟨k, C, u, rfl, rfl, hk, hrun, hdg, hcn, hC0, hC1⟩
    clear on2
    unfold nmT
    have hidx := idx9 s k hk
    have hidx0 : ∀ w, (Instr.index 9 (.string s) (.int .i64 0)).run Try.prog w = .ok (.int .u8 (byteAt s 0)) w := idx9 s 0 (by omega)
    have HBA := f_byteAt s (k + 1)
    have HDG := fun w => f_digit (byteAt s (k + 1)) _ w rfl
    have HLT := fun w => f_letter (byteAt s (k + 1)) _ w rfl
    have hkl : k < (sInts s).length := by rw [HSL.out]; exact hk
    have HCN : Hid (∀ C2, C2 = min (C * 10 + (byteAt s k - 48)) 2147483648 → CntAt (sInts s) (k + 1) C2) := fun C2 h2 => cnt_next hcn hrun hkl hdg h2
    have hr1 := (RunAt.next (by decide) hrun hdg).2
    have HR1 : Hid (RunAt digB (sInts s) (k + 1)) := hr1
    have hbd := dig_bd hdg
    have HDA : Hid (digB (byteAt s (k + 1)) = false → DigAt (sInts s) (k + 1)) := fun h => ⟨hr1, by omega, h⟩
    have HN0 : Hid (¬ (byteAt s 0 = 48 ∧ 1 < k + 1) → NoughtNot (sInts s) (k + 1)) := fun h => h
    have HNX : Hid (digB (byteAt s (k + 1)) = false → (byteAt s 0 = 48 ∧ 1 < k + 1) → numR (sInts s) = (0, ⟨#[]⟩, 0, 0)) := fun h h2 => num_nought ⟨hr1, by omega, h⟩ h2.1 h2.2
    have HPL : Hid (digB (byteAt s (k + 1)) = false → ¬ (byteAt s 0 = 48 ∧ 1 < k + 1) → byteAt s (k + 1) ≠ 46 → letB (byteAt s (k + 1)) = false → numR (sInts s) = if ((k + 1 : Nat) : Int) ≤ 15 ∧ runB 46 (byteAt s (k + 1)) = false then (1, strOfNums ((sInts s).take (k + 1)), 0, k + 1) else (0, ⟨#[]⟩, 0, 0)) := fun h h2 h3 h4 => by
      have hrb : runB 46 (byteAt s (k + 1)) = false := by unfold runB; rw [h, h4, decide_eq_false h3]; rfl
      rw [num_plain ⟨hr1, by omega, h⟩ h2 hrb, hrb]
      by_cases h15 : k + 1 ≤ 15
      · rw [if_pos h15, if_pos ⟨by omega, rfl⟩]
      · rw [if_neg h15, if_neg (fun h => h15 (by omega))]
    clear hrun hdg hcn hr1 hkl
    have hk2 : k + 1 ≤ s.size := hk
    generalize hck : byteAt s k = ck at hidx HCN hbd
    clear hck
    obtain ⟨C2, eC2, hC20, hC21, hmin⟩ : ∃ C2, C2 = min (C * 10 + (ck - 48)) 2147483648 ∧ 0 ≤ C2 ∧ C2 ≤ 2147483648 ∧ (2147483648 < C * 10 + (ck - 48) ∧ C2 = 2147483648 ∨ C * 10 + (ck - 48) ≤ 2147483648 ∧ C2 = C * 10 + (ck - 48)) := ⟨_, rfl, by omega, by omega, by omega⟩
    have HC2 : Hid (CntAt (sInts s) (k + 1) C2) := HCN.out C2 eC2
    clear HCN eC2
    have HIF : Hid ((if 2147483648 < C * 10 + (ck - 48) then (2147483648 : Int) else C * 10 + (ck - 48)) = C2) := by
      show _ = _
      rcases hmin with ⟨h1, h2⟩ | ⟨h1, h2⟩
      · rw [if_pos h1, h2]
      · rw [if_neg (by omega), h2]
    have HK2 : Hid (digB (byteAt s (k + 1)) = true → k + 1 < s.size) := fun h => by
      have h1 := (RunAt.next (by decide) HR1.out h).1
      rw [HSL.out] at h1
      exact h1
    have HC2b : Hid (0 ≤ C2 ∧ C2 ≤ 2147483648) := ⟨hC20, hC21⟩
    clear hmin
    go_upto_region 6 with fail
    rw [HIF.out]
    clear HIF hidx hbd hC20 hC21 hC0 hC1
    generalize hc0 : byteAt s 0 = c0 at hidx0 HN0 HNX HPL
    clear hc0
    have HGB : Hid (∃ i, i = k + 1 ∧ byteAt s i = byteAt s (k + 1)) := ⟨k + 1, rfl, rfl⟩
    generalize hc1 : byteAt s (k + 1) = c1 at HBA HDG HLT HDA HNX HPL HK2 HGB
    have HC1 : Hid (byteAt s (k + 1) = c1) := hc1
    clear hc1
    cases hb : digB c1 with
    | true =>
      have hlt := HK2.out hb
      have HBT : Hid (digB (byteAt s (k + 1)) = true) := by show _ = _; rw [HC1.out, hb]
      rw [hb] at HDG
      clear hb HNX HPL HDA HN0 HK2
      go_wp2_with (first | (go_at_call 41; refine (HBA _).mono ?_; rintro e w1 ⟨rfl, rfl⟩) | (go_at_call 22; refine (HDG _).mono ?_; rintro e w1 ⟨rfl, rfl⟩) | (go_at_call 39; refine (HLT _).mono ?_; rintro e w1 ⟨rfl, rfl⟩))
      go_step3
      exact ⟨nmJ0 (k + 1) C2 rfl rfl hlt HR1.out HBT.out HC2.out HC2b.out, by simp [sel6, nmM, intOf] <;> omega⟩
    | false =>
      have HDD := hid (HDA.out hb)
      by_cases hn : c0 = 48 ∧ 1 < k + 1
      · have HN := hid (HNX.out hb hn)
        obtain ⟨rfl, hk1⟩ := hn
        have q1 : decide ((1 : Int) < (k : Int) + 1) = true := by simp; omega
        rw [hb] at HDG
        clear hb HNX HPL HDA HN0 HK2
        go_wp2_with (first | (go_at_call 41; refine (HBA _).mono ?_; rintro e w1 ⟨rfl, rfl⟩) | (go_at_call 22; refine (HDG _).mono ?_; rintro e w1 ⟨rfl, rfl⟩) | (go_at_call 39; refine (HLT _).mono ?_; rintro e w1 ⟨rfl, rfl⟩))
        go_step3
        exact ⟨nmJ1 (k + 1) 0 C2 0 rfl rfl HN.out, by simp [sel6, nmM, intOf] <;> omega⟩
      · have HNN := hid (HN0.out hn)
        have q1 : (c0 == 48) = true ∧ decide ((1 : Int) < (k : Int) + 1) = false ∨ (c0 == 48) = false := by
          by_cases h48 : c0 = 48
          · exact .inl ⟨by simpa using h48, by simp; omega⟩
          · exact .inr (by simpa using h48)
        by_cases hdot : c1 = 46
        · have HDOT : Hid (byteAt s (k + 1) = 46) := by show _ = _; rw [HC1.out, hdot]
          have hlt : k + 1 < s.size := by have h1 := dot_lt (l := sInts s) (D := k + 1) HDOT.out; rw [HSL.out] at h1; exact h1
          rw [hb] at HDG
          clear hb HNX HPL HDA HN0 HK2 hn HC1 HGB
          subst hdot
          rcases q1 with ⟨q1, q2⟩ | q1
          all_goals
            go_wp2_with (first | (go_at_call 41; refine (HBA _).mono ?_; rintro e w1 ⟨rfl, rfl⟩) | (go_at_call 22; refine (HDG _).mono ?_; rintro e w1 ⟨rfl, rfl⟩) | (go_at_call 39; refine (HLT _).mono ?_; rintro e w1 ⟨rfl, rfl⟩))
            go_step3
            exact ⟨nmJ2 (k + 1) C2 rfl rfl hlt HDD.out HNN.out HDOT.out, by simp [sel6, nmM, intOf] <;> omega⟩
        · have q3 : (c1 == 46) = false := by simpa using hdot
          cases hl : letB c1 with
          | true =>
            have HL : Hid (letB (byteAt s (k + 1)) = true) := by show _ = _; rw [HC1.out, hl]
            have hlt : k + 1 < s.size := by
              have h1 := getD_end (l := sInts s) (k := k + 1) (by show byteAt s (k + 1) ≠ 0; rw [HC1.out]; rintro rfl; revert hl; decide)
              rw [HSL.out] at h1
              exact h1
            rw [hb] at HDG
            rw [hl] at HLT
            clear hb hl HNX HPL HDA HN0 HK2 hn HC1 HGB hdot
            rcases q1 with ⟨q1, q2⟩ | q1
            all_goals
              go_wp2_with (first | (go_at_call 41; refine (HBA _).mono ?_; rintro e w1 ⟨rfl, rfl⟩) | (go_at_call 22; refine (HDG _).mono ?_; rintro e w1 ⟨rfl, rfl⟩) | (go_at_call 39; refine (HLT _).mono ?_; rintro e w1 ⟨rfl, rfl⟩))
              go_step3
              exact ⟨nmJ3 (k + 1) C2 rfl rfl hlt HDD.out HNN.out HL.out HC2.out HC2b.out, by simp [sel6, nmM, intOf] <;> omega⟩
          | false =>
            have HN := HPL.out hb hn hdot hl
            rw [← HC1.out] at HN
            have HNF := hid HN
            rw [hb] at HDG
            rw [hl] at HLT
            clear hb hl HNX HPL HDA HN0 HK2 hn HC1 HGB hdot HN
            rcases q1 with ⟨q1, q2⟩ | q1
            all_goals
              go_wp2_with (first | (go_at_call 41; refine (HBA _).mono ?_; rintro e w1 ⟨rfl, rfl⟩) | (go_at_call 22; refine (HDG _).mono ?_; rintro e w1 ⟨rfl, rfl⟩) | (go_at_call 39; refine (HLT _).mono ?_; rintro e w1 ⟨rfl, rfl⟩))
              go_step3
              exact ⟨nmJ4 (k + 1) ((k + 1 : Nat) : Int) C2 rfl rfl hk2 HNF.out, by simp [sel6, nmM, intOf] <;> omega⟩
  case first =>
    intro go_on
    have GO : Hid (∀ a' w', NmJ0 s G W a' w' → _) := go_on
    clear go_on
    go_wp2
    go_step3
    refine ‹∀ (a : Act) (w : World), Code.wp Try.prog _ _ a w → _› _ _ (GO.out _ _ ?_)
    exact nmJ0 0 0 rfl rfl h0 (RunAt.zero _ _) HD0.out (by show (0 : Int) = min 0 2147483648; decide) (by omega)
end Go.Proofs.Ytnimdngiejcljaa

/- text: the walk. -/
namespace Go.Proofs.Ytnimdngiejcljaa
open Go.RowKit
set_option linter.unusedVariables false
set_option maxRecDepth 20000

/-- The gathered bytes beside the box. -/
structure TxW (w W : World) (g : Nat) (v : Value) (out : List Int) : Prop where
  box : Bx w W g
  own : SOwn byteE 5 W (g + 1) v out.length out
theorem TxW.app {w W W1 W2 : World} {g : Nat} {v v2 : Value} {out : List Int} {c : Int} (h : TxW w W g v out) (hg : W.grownBy W1 none) (ho : SOwn byteE 5 W2 (g + 1) v2 (out.length + 1) (out ++ [c])) (hg2 : W1.grownBy W2 v.ownBlock) : TxW w W2 g v2 (out ++ [c]) := by
  refine ⟨(h.box.grown hg (by simp)).grown hg2 (fun k hk => ?_), by rw [List.length_append]; exact ho⟩
  have h1 := (SOwn.block h.own k hk).1
  have h2 := h.box.le
  omega
theorem TxW.kept {w W W' : World} {g : Nat} {v : Value} {out : List Int} (h : TxW w W g v out) (hg : W.grownBy W' none) : TxW w W' g v out := ⟨h.box.grown hg (by simp), SOwn.kept h.own hg (Classical.em _)⟩
def txT (s : ByteArray) (g : Nat) (v : Value) (k : Nat) (u : Nat → Value) : Array Value := #[.string s, undef, .pointer (some ⟨g, 0, none⟩), .int .i64 0, v, .int .i64 (k : Int), u 6, u 7, u 8, u 9, u 10, u 11, u 12, u 13, u 14, u 15, u 16, u 17, u 18, u 19, u 20, u 21, u 22, u 23, u 24, u 25, u 26, u 27, u 28, u 29, u 30, u 31, u 32, u 33, u 34, u 35, u 36, u 37, u 38, u 39, u 40, u 41, u 42, u 43, u 44, u 45, u 46, u 47, u 48, u 49, u 50, u 51, u 52, u 53]
def TxJ0 (s : ByteArray) (g : Nat) (w : World) (a' : Act) (w' : World) : Prop := ∃ (k : Nat) (v : Value) (out : List Int) (u : Nat → Value), a' = { tmps := txT s g v k u, defers := [] } ∧ TxW w w' g v out ∧ k < s.size ∧ textR ((sInts s).drop 1) = (out, k) ∧ 1 ≤ k ∧ ∀ z ∈ out, 0 ≤ z ∧ z ≤ 255
def TxJ1 (s : ByteArray) (g : Nat) (w : World) (a' : Act) (w' : World) : Prop := ∃ (k : Nat) (v : Value) (out : List Int) (u : Nat → Value), a' = { tmps := txT s g v k u, defers := [] } ∧ TxW w w' g v out ∧ k < s.size ∧ TxAt (sInts s) k out ∧ byteAt s k = 92
def TxJ2 (s : ByteArray) (g : Nat) (w : World) (a' : Act) (w' : World) : Prop := ∃ (k : Nat) (v : Value) (u : Nat → Value), a' = { tmps := txT s g v k u, defers := [] } ∧ Bx w w' g ∧ (textR ((sInts s).drop 1)).2 = 0
def TxJ3 (s : ByteArray) (g : Nat) (w : World) (a' : Act) (w' : World) : Prop := ∃ (k : Nat) (v : Value) (out : List Int) (u : Nat → Value), a' = { tmps := txT s g v k u, defers := [] } ∧ TxW w w' g v out ∧ k ≤ s.size ∧ TxAt (sInts s) k out
section
variable {s : ByteArray} {g : Nat} {w : World} {a' : Act} {w' : World}
theorem txJ0 (k : Nat) (v : Value) (out : List Int) (h : a' = { tmps := txT s g v k (upon a'), defers := [] }) (h1 : TxW w w' g v out) (h2 : k < s.size) (h3 : textR ((sInts s).drop 1) = (out, k)) (h4 : 1 ≤ k) (h5 : ∀ z ∈ out, 0 ≤ z ∧ z ≤ 255) : TxJ0 s g w a' w' := ⟨k, v, out, _, h, h1, h2, h3, h4, h5⟩
theorem txJ1 (k : Nat) (v : Value) (out : List Int) (h : a' = { tmps := txT s g v k (upon a'), defers := [] }) (h1 : TxW w w' g v out) (h2 : k < s.size) (h3 : TxAt (sInts s) k out) (h4 : byteAt s k = 92) : TxJ1 s g w a' w' := ⟨k, v, out, _, h, h1, h2, h3, h4⟩
theorem txJ2 (k : Nat) (v : Value) (h : a' = { tmps := txT s g v k (upon a'), defers := [] }) (h1 : Bx w w' g) (h2 : (textR ((sInts s).drop 1)).2 = 0) : TxJ2 s g w a' w' := ⟨k, v, _, h, h1, h2⟩
theorem txJ3 (k : Nat) (v : Value) (out : List Int) (h : a' = { tmps := txT s g v k (upon a'), defers := [] }) (h1 : TxW w w' g v out) (h2 : k ≤ s.size) (h3 : TxAt (sInts s) k out) : TxJ3 s g w a' w' := ⟨k, v, out, _, h, h1, h2, h3⟩
end
def txM (s : ByteArray) (e : Nat) (a' : Act) (_ : World) : Nat := 4 * (s.size - (intOf (a'.tmps.getD 5 undef)).toNat) + e
def txM0 (_ : Act) (_ : World) : Nat := 0
set_option maxHeartbeats 4000000 in
theorem f_text (s : ByteArray) (w : World) (hs : s.size ≤ 4096) (h0 : 1 ≤ s.size) : Calls Try.prog 27 #[.string s] w fun e w' => TkOut (txtR (sInts s)) w e w' := by
  have HB : Hid (Bx w (w.alloc (.cells #[.int .i64 0, .int .i64 0, .string ⟨#[]⟩, .int .i64 0] 52)) w.heap.size) := Bx.made w
  have HSL : Hid ((sInts s).length = s.size) := sInts_len s
  generalize hW : (w.alloc (.cells #[.int .i64 0, .int .i64 0, .string ⟨#[]⟩, .int .i64 0] 52)) = W at HB
  have HW : Hid ((w.alloc (.cells #[.int .i64 0, .int .i64 0, .string ⟨#[]⟩, .int .i64 0] 52)) = W) := hW
  clear hW
  generalize hG : w.heap.size = G at HB
  have HG : Hid (w.heap.size = G) := hG
  clear hG
  go_enter Try.func27, Try.ntmps27
  go_wp2_with fail
  rw [HW.out, HG.out]
  refine wp_scope_text (TxJ0 s G w) (TxJ1 s G w) (TxJ2 s G w) (TxJ3 s G w) txM0 (txM s 1) txM0 (txM s 2) rfl rfl rfl rfl ?p2 ?p0 ?p1 ?p3 ?first
  case p2 =>
    rintro a' wr ⟨k, v, u, rfl, hb, ht⟩
    unfold txT
    have HBW : Hid (Bx w wr G) := hb
    have HD : Hid (txtR (sInts s) = (0, ⟨#[]⟩, 0, 0)) := by show _ = _; unfold txtR; rw [if_pos ht]
    obtain ⟨r0, r1, r2, r3⟩ := cell4 hb.row
    have f0 := free_row hb.row 0
    have f1 := free_row hb.row 1
    have f2 := free_row hb.row 2
    have f3 := free_row hb.row 3
    clear hb ht
    go_wp2_with fail
    simp only [onto, jumps]
    refine bodyPost_ret (v := .tuple #[tokV 0 0 ⟨#[]⟩ 0, .int .i64 (0 : Int)]) (results_row_tmp Try.results27 _ _ _ G 52 _ (0, 0) _ rfl (row4 HBW.out.row (.int .i64 0) (.int .i64 0) (.string ⟨#[]⟩) (.int .i64 0)) Try.underlying52 isz32) rfl ?_
    exact tk_ret (n := 0) HBW.out HD.out
  case p0 =>
    rintro on2 a' wr ⟨k, v, out, u, rfl, hw, hk, ht, hk1, hz⟩
    clear on2
    unfold txT
    have HTW : Hid (TxW w wr G v out) := hw
    have HD : Hid (txtR (sInts s) = (4, strOfNums out, 0, k + 1)) := by show _ = _; unfold txtR; rw [ht]; exact if_neg (by show ¬ k = 0; omega)
    obtain ⟨a, c, rfl⟩ := sown_slice hw.own
    have hcv := conv_rd wr a out out.length c (srd_rd (SOwn.rd hw.own) hz) rfl
    obtain ⟨r0, r1, r2, r3⟩ := cell4 hw.box.row
    have f0 := free_row hw.box.row 0
    have f1 := free_row hw.box.row 1
    have f2 := free_row hw.box.row 2
    have f3 := free_row hw.box.row 3
    generalize strOfNums out = t at hcv HD
    generalize out.length = n at hcv ⊢
    clear hw ht hz
    go_wp2_with fail
    simp only [onto, jumps]
    refine bodyPost_ret (v := .tuple #[tokV 4 0 t 0, .int .i64 ((k + 1 : Nat) : Int)]) ?_ rfl ?_
    · first | exact results_row_tmp Try.results27 _ _ _ G 52 _ (0, 0) _ rfl (row4 HTW.out.box.row (.int .i64 4) (.int .i64 0) (.string t) (.int .i64 0)) Try.underlying52 isz32
    · exact tk_ret HTW.out.box HD.out
  case p1 =>
    rintro on0 a' wr ⟨k, v, out, u, rfl, hw, hk, ht, hc⟩
    clear on0
    unfold txT
    have HTW : Hid (TxW w wr G v out) := hw
    have HTA : Hid (TxAt (sInts s) k out) := ht
    have HC : Hid (byteAt s k = 92) := hc
    have hol : out.length ≤ 4096 := by have := ht.2.2.1; omega
    obtain ⟨a, c, rfl⟩ := sown_slice hw.own
    have HBA := f_byteAt s (k + 1)
    have hbd := byteAt_bd s (k + 1)
    have HDE : Hid (∀ d : Int, (byteAt s (k + 1) = 34 ∨ byteAt s (k + 1) = 92) ∧ d = byteAt s (k + 1) ∨ byteAt s (k + 1) = 110 ∧ d = 10 → k + 1 < (sInts s).length ∧ TxAt (sInts s) (k + 2) (out ++ [d])) := fun d hd => ht.esc hc hd
    have HBD : Hid (byteAt s (k + 1) ≠ 34 ∧ byteAt s (k + 1) ≠ 92 ∧ byteAt s (k + 1) ≠ 110 → (textR ((sInts s).drop 1)).2 = 0) := fun hd => ht.esc_bad hc hd
    generalize byteAt s (k + 1) = d at HBA HDE HBD hbd
    clear hc ht
    have HA : ∀ x : Int, Hid (SOwn byteE 5 (wr.alloc (.cells #[.int .u8 x] 5)) (G + 1) (.slice a out.length c) out.length out ∧ SRd byteE (wr.alloc (.cells #[.int .u8 x] 5)) (some ⟨wr.heap.size, 0, none⟩) [x] ∧ wr.grownBy (wr.alloc (.cells #[.int .u8 x] 5)) none ∧ G + 1 ≤ (wr.alloc (.cells #[.int .u8 x] 5)).heap.size) := fun x => by
      refine ⟨SOwn.kept hw.own (World.grownBy_alloc wr _ none) (Classical.em _), srd_lit byteE 5 wr [x], World.grownBy_alloc wr _ none, ?_⟩
      have := hw.box.lt
      rw [size_alloc]
      omega
    clear hw
    have HLL : Hid (∀ x : Int, (out ++ [x]).length = out.length + 1) := fun x => by rw [List.length_append]; rfl
    generalize hn : out.length = n at HA HLL hol ⊢
    have HN : Hid (out.length = n) := hn
    clear hn
    have HAP : Hid (∀ (W1 W2 : World) (v2 : Value) (x : Int), wr.grownBy W1 none → SOwn byteE 5 W2 (G + 1) v2 (n + 1) (out ++ [x]) → W1.grownBy W2 (Value.ownBlock (.slice a n c)) → TxW w W2 G v2 (out ++ [x])) := fun W1 W2 v2 x h1 h2 h3 => by
      have e := HN.out
      subst e
      exact HTW.out.app h1 h2 h3
    by_cases h34 : d = 34
    · subst h34
      obtain ⟨hx1, hx2, hx3, hx4⟩ := (HA 34).out
      have HX1 := hid hx1
      have HX2 := hid hx2
      have HX3 := hid hx3
      have HNX : Hid (k + 1 < (sInts s).length ∧ TxAt (sInts s) (k + 2) (out ++ [34])) := HDE.out 34 (.inl ⟨.inl rfl, rfl⟩)
      have hk2 : k + 1 < s.size := by have := HNX.out.1; rw [HSL.out] at this; exact this
      clear HA HDE HBD hx1 hx2 hx3
      go_wp2_with (first | (go_at_call 41; refine (HBA _).mono ?_; rintro e w1 ⟨rfl, rfl⟩) | (at_builtin; refine wpList_append_s byteET rfl (.tmp 37) (.tmp 39) rfl (G + 1) (.slice a n c) n out rfl HX1.out (some ⟨wr.heap.size, 0, none⟩) [34] 1 1 rfl rfl HX2.out (by simp) (by omega) (by unfold maxLen; omega) hx4 ?_; intro v2 w2 ho2 hg2 hn2; have HO2 := hid ho2; have HG2 := hid hg2; clear ho2 hg2 hn2))
      go_step3
      exact ⟨txJ3 (k + 2) v2 (out ++ [34]) rfl (HAP.out _ _ _ _ HX3.out HO2.out HG2.out) (by omega) HNX.out.2, by simp [sel4, txM, intOf]; omega⟩
    by_cases h92 : d = 92
    · clear h34
      subst h92
      obtain ⟨hx1, hx2, hx3, hx4⟩ := (HA 92).out
      have HX1 := hid hx1
      have HX2 := hid hx2
      have HX3 := hid hx3
      have HNX : Hid (k + 1 < (sInts s).length ∧ TxAt (sInts s) (k + 2) (out ++ [92])) := HDE.out 92 (.inl ⟨.inr rfl, rfl⟩)
      have hk2 : k + 1 < s.size := by have := HNX.out.1; rw [HSL.out] at this; exact this
      clear HA HDE HBD hx1 hx2 hx3
      go_wp2_with (first | (go_at_call 41; refine (HBA _).mono ?_; rintro e w1 ⟨rfl, rfl⟩) | (at_builtin; refine wpList_append_s byteET rfl (.tmp 37) (.tmp 39) rfl (G + 1) (.slice a n c) n out rfl HX1.out (some ⟨wr.heap.size, 0, none⟩) [92] 1 1 rfl rfl HX2.out (by simp) (by omega) (by unfold maxLen; omega) hx4 ?_; intro v2 w2 ho2 hg2 hn2; have HO2 := hid ho2; have HG2 := hid hg2; clear ho2 hg2 hn2))
      go_step3
      exact ⟨txJ3 (k + 2) v2 (out ++ [92]) rfl (HAP.out _ _ _ _ HX3.out HO2.out HG2.out) (by omega) HNX.out.2, by simp [sel4, txM, intOf]; omega⟩
    by_cases h110 : d = 110
    · clear h34 h92
      subst h110
      obtain ⟨hx1, hx2, hx3, hx4⟩ := (HA 10).out
      have HX1 := hid hx1
      have HX2 := hid hx2
      have HX3 := hid hx3
      have HNX : Hid (k + 1 < (sInts s).length ∧ TxAt (sInts s) (k + 2) (out ++ [10])) := HDE.out 10 (.inr ⟨rfl, rfl⟩)
      have hk2 : k + 1 < s.size := by have := HNX.out.1; rw [HSL.out] at this; exact this
      clear HA HDE HBD hx1 hx2 hx3
      go_wp2_with (first | (go_at_call 41; refine (HBA _).mono ?_; rintro e w1 ⟨rfl, rfl⟩) | (at_builtin; refine wpList_append_s byteET rfl (.tmp 43) (.tmp 44) rfl (G + 1) (.slice a n c) n out rfl HX1.out (some ⟨wr.heap.size, 0, none⟩) [10] 1 1 rfl rfl HX2.out (by simp) (by omega) (by unfold maxLen; omega) hx4 ?_; intro v2 w2 ho2 hg2 hn2; have HO2 := hid ho2; have HG2 := hid hg2; clear ho2 hg2 hn2))
      go_step3
      exact ⟨txJ3 (k + 2) v2 (out ++ [10]) rfl (HAP.out _ _ _ _ HX3.out HO2.out HG2.out) (by omega) HNX.out.2, by simp [sel4, txM, intOf]; omega⟩
    have HT0 : Hid ((textR ((sInts s).drop 1)).2 = 0) := HBD.out ⟨h34, h92, h110⟩
    have HBX : Hid (Bx w wr G) := HTW.out.box
    have q1 : (d == 34) = false := by simpa using h34
    have q2 : (d == 92) = false := by simpa using h92
    have q3 : (d == 110) = false := by simpa using h110
    clear HA HDE HBD h34 h92 h110
    go_wp2_with (go_at_call 41; refine (HBA _).mono ?_; rintro e w1 ⟨rfl, rfl⟩)
    go_step3
    exact ⟨txJ2 (k + 1) _ rfl HBX.out HT0.out, by simp [sel4, txM, txM0, intOf]⟩
  case p3 =>
    rintro on1 a' wr ⟨k, v, out, u, rfl, hw, hk, ht⟩
    clear on1
    unfold txT
    have HTW : Hid (TxW w wr G v out) := hw
    have HTA : Hid (TxAt (sInts s) k out) := ht
    have hol : out.length ≤ 4096 := by have := ht.2.2.1; omega
    have HK1 : Hid (1 ≤ k ∧ ∀ z ∈ out, 0 ≤ z ∧ z ≤ 255) := ⟨ht.2.1, ht.2.2.2⟩
    obtain ⟨a, c, rfl⟩ := sown_slice hw.own
    have HBA := f_byteAt s k
    have hbd := byteAt_bd s k
    have hidx : k < s.size → ∀ w, (Instr.index 9 (.string s) (.int .i64 (k : Int))).run Try.prog w = .ok (.int .u8 (byteAt s k)) w := fun h => idx9 s k h
    have HQ : Hid (byteAt s k = 34 → textR ((sInts s).drop 1) = (out, k) ∧ k < (sInts s).length) := fun h => ht.quote h
    have HGB : Hid (∃ i, i = k ∧ byteAt s i = byteAt s k) := ⟨k, rfl, rfl⟩
    have HE : Hid (byteAt s k = 92 → byteAt s k = 92 ∧ k < (sInts s).length) := fun h => ⟨h, getD_end (l := sInts s) (k := k) (by show byteAt s k ≠ 0; omega)⟩
    have HBD : Hid (byteAt s k ≠ 34 → byteAt s k < 32 → (textR ((sInts s).drop 1)).2 = 0) := fun h h2 => ht.bad h h2
    have HPL : Hid (byteAt s k ≠ 34 → ¬ byteAt s k < 32 → byteAt s k ≠ 92 → k < (sInts s).length ∧ TxAt (sInts s) (k + 1) (out ++ [byteAt s k])) := fun h1 h2 h3 => ht.plain h1 h2 h3 hbd.2
    generalize byteAt s k = d at HBA hbd hidx HQ HE HBD HPL HGB
    clear ht
    by_cases h34 : d = 34
    · subst h34
      obtain ⟨h1, h2⟩ := HQ.out rfl
      have HTR := hid h1
      have hk2 : k < s.size := by rw [HSL.out] at h2; exact h2
      clear HQ HE HBD HPL h1 h2 hidx hw
      go_wp2_with (go_at_call 41; refine (HBA _).mono ?_; rintro e w1 ⟨rfl, rfl⟩)
      go_step3
      exact ⟨txJ0 k _ out rfl HTW.out hk2 HTR.out HK1.out.1 HK1.out.2, by simp [sel4, txM, txM0, intOf]⟩
    by_cases h92 : d = 92
    · obtain ⟨h1, h2⟩ := HE.out h92
      have H92 := hid h1
      have hk2 : k < s.size := by rw [HSL.out] at h2; exact h2
      clear HQ HE HBD HPL h1 h2 hidx hw h34
      subst h92
      go_wp2_with (go_at_call 41; refine (HBA _).mono ?_; rintro e w1 ⟨rfl, rfl⟩)
      go_step3
      exact ⟨txJ1 k _ out rfl HTW.out hk2 HTA.out (by obtain ⟨i, rfl, h⟩ := HGB.out; exact h), by simp [sel4, txM, intOf]⟩
    have q1 : (d == 34) = false := by simpa using h34
    have q2 : (d == 92) = false := by simpa using h92
    by_cases h32 : d < 32
    · have HT0 := hid (HBD.out h34 h32)
      have HBX : Hid (Bx w wr G) := HTW.out.box
      have q3 : decide (d < 32) = true := by simpa using h32
      clear HQ HE HBD HPL hidx hw h34 h92
      go_wp2_with (go_at_call 41; refine (HBA _).mono ?_; rintro e w1 ⟨rfl, rfl⟩)
      go_step3
      exact ⟨txJ2 k _ rfl HBX.out HT0.out, by simp [sel4, txM, txM0, intOf]⟩
    · obtain ⟨h1, h2⟩ := HPL.out h34 h32 h92
      have HNX := hid h2
      have hk2 : k < s.size := by rw [HSL.out] at h1; exact h1
      have hix := hidx hk2
      have q3 : decide (d < 32) = false := by simpa using h32
      have HXX : Hid (SOwn byteE 5 (wr.alloc (.cells #[.int .u8 d] 5)) (G + 1) (.slice a out.length c) out.length out ∧ SRd byteE (wr.alloc (.cells #[.int .u8 d] 5)) (some ⟨wr.heap.size, 0, none⟩) [d] ∧ wr.grownBy (wr.alloc (.cells #[.int .u8 d] 5)) none) := by
        exact ⟨SOwn.kept hw.own (World.grownBy_alloc wr _ none) (Classical.em _), srd_lit byteE 5 wr [d], World.grownBy_alloc wr _ none⟩
      have hx4 : G + 1 ≤ (wr.alloc (.cells #[.int .u8 d] 5)).heap.size := by
        have := hw.box.lt
        rw [size_alloc]
        omega
      clear HQ HE HBD HPL hidx hw h34 h92 h1 h2 h32 HTA
      generalize hn : out.length = n at HXX hol ⊢
      have HN : Hid (out.length = n) := hn
      clear hn
      have HAP : Hid (∀ (W1 W2 : World) (v2 : Value) (x : Int), wr.grownBy W1 none → SOwn byteE 5 W2 (G + 1) v2 (n + 1) (out ++ [x]) → W1.grownBy W2 (Value.ownBlock (.slice a n c)) → TxW w W2 G v2 (out ++ [x])) := fun W1 W2 v2 x h1 h2 h3 => by
        have e := HN.out
        subst e
        exact HTW.out.app h1 h2 h3
      go_wp2_with (first | (go_at_call 41; refine (HBA _).mono ?_; rintro e w1 ⟨rfl, rfl⟩) | (at_builtin; refine wpList_append_s byteET rfl (.tmp 20) (.tmp 24) rfl (G + 1) (.slice a n c) n out rfl HXX.out.1 (some ⟨wr.heap.size, 0, none⟩) [d] 1 1 rfl rfl HXX.out.2.1 (by simp) (by omega) (by unfold maxLen; omega) hx4 ?_; intro v2 w2 ho2 hg2 hn2; have HO2 := hid ho2; have HG2 := hid hg2; clear ho2 hg2 hn2))
      go_step3
      exact ⟨txJ3 (k + 1) v2 (out ++ [d]) rfl (HAP.out _ _ _ _ HXX.out.2.2 HO2.out HG2.out) (by omega) HNX.out, by simp [sel4, txM, intOf]; omega⟩
  case first =>
    intro go_on
    have GO : Hid (∀ a' w', TxJ3 s G w a' w' → _) := go_on
    clear go_on
    go_wp2
    go_step3
    refine ‹∀ (a : Act) (w : World), Code.wp Try.prog _ _ a w → _› _ _ (GO.out _ _ ?_)
    exact txJ3 1 _ [] rfl ⟨HB.out, SOwn.nil 5 _ _⟩ h0 (TxAt.start _)
end Go.Proofs.Ytnimdngiejcljaa

/- Lex: the program's, walked. -/
namespace Go.Proofs.Ytnimdngiejcljaa
open Go.RowKit
set_option linter.unusedVariables false
set_option maxRecDepth 20000

theorem text_len : ∀ (m : Nat) (l : List Int), l.length ≤ m → (textR l).2 ≤ l.length := by
  intro m
  induction m with
  | zero => intro l h; have : l = [] := List.eq_nil_of_length_eq_zero (by omega); subst this; rw [textR.eq_def]; exact Nat.le_refl _
  | succ m ih =>
    intro l h
    match l with
    | [] => rw [textR.eq_def]; exact Nat.le_refl _
    | c :: r =>
      have h1 := ih r (by simp at h; omega)
      rw [textR.eq_def]
      simp only []
      split
      · simp
      split
      · simp
      split
      · match r, h1 with
        | [], _ => simp
        | d :: r2, _ =>
          have h2 := ih r2 (by simp at h; omega)
          simp only []
          repeat' split
          all_goals (simp; try omega)
      · split
        · simp
        · simp; omega
theorem run_len (m : Int) (l : List Int) : (runR m l).length ≤ l.length := (List.takeWhile_prefix _).length_le
theorem sign_len (l : List Int) : signN l ≤ l.length := by
  unfold signN
  split
  · simp
  · split <;> simp
  · repeat' split
    all_goals simp
theorem tok_len (l : List Int) (h : 1 ≤ l.length) : (tokR l).1.2.2.2 ≤ l.length := by
  have h1 := run_len 46 l
  have h2 := run_len 58 l
  have h3 := text_len _ (l.drop 1) (Nat.le_refl _)
  have h4 := sign_len l
  rw [List.length_drop] at h3
  unfold tokR
  split
  · unfold numR; split; · exact h1
    split; · exact h1
    · exact Nat.zero_le _
  · split
    · exact h2
    · split
      · unfold txtR; split
        · exact Nat.zero_le _
        · show _ + 1 ≤ _; omega
      · unfold sgnR; split
        · exact Nat.zero_le _
        · exact h4
/-- What Lex answers. -/
def LxOut (R : Lx) (w : World) (e : Ending) (w' : World) : Prop :=
  match R with
  | .ok ts => ∃ a c, e = .returned (.tuple #[.slice a ts.length c, .int .i64 0, .int .i64 0]) ∧ SOwn tokE 52 w' w.heap.size (.slice a ts.length c) ts.length ts ∧ w.grownBy w' none
  | .bad p c => e = .returned (.tuple #[.slice none 0 0, .int .i64 (p : Int), .int .i64 c]) ∧ w.grownBy w' none
/-- Between tokens: a box for one, the list so far. -/
structure LxB (w W : World) (g : Nat) (v : Value) (ts : List Tok) (kd sp : Int) (t : ByteArray) : Prop where
  row : ∃ x : Int, W.heap[g]? = some (.cells #[.int .i64 kd, .int .i64 x, .string t, .int .i64 sp] 52 (0, 0))
  gb : w.grownBy W none
  le : w.heap.size ≤ g
  own : SOwn tokE 52 W (g + 1) v ts.length ts
theorem LxB.lt {w W : World} {g : Nat} {v : Value} {ts : List Tok} {kd sp : Int} {t : ByteArray} (h : LxB w W g v ts kd sp t) : g < W.heap.size := by
  obtain ⟨x, hx⟩ := h.row
  exact (Array.getElem?_eq_some_iff.1 hx).1
theorem LxB.grown {w W W' : World} {g : Nat} {v : Value} {ts : List Tok} {kd sp : Int} {t : ByteArray} (h : LxB w W g v ts kd sp t) (hg : W.grownBy W' none) : LxB w W' g v ts kd sp t := by
  obtain ⟨x, hx⟩ := h.row
  exact ⟨⟨x, by rw [hg.block g h.lt (by simp)]; exact hx⟩, h.gb.trans hg, h.le, SOwn.kept h.own hg (Classical.em _)⟩
theorem LxB.apart {w W : World} {g : Nat} {v : Value} {ts : List Tok} {kd sp : Int} {t : ByteArray} (h : LxB w W g v ts kd sp t) : v.ownBlock = none ∨ v.ownBlock ≠ some g := by
  refine .inr fun e => ?_
  have := (SOwn.block h.own g e).1
  omega
theorem LxB.put {w W : World} {g : Nat} {v : Value} {ts : List Tok} {kd sp : Int} {t : ByteArray} (h : LxB w W g v ts kd sp t) (kd2 a2 sp2 : Int) (t2 : ByteArray) : LxB w (put4 W g (.int .i64 kd2) (.int .i64 a2) (.string t2) (.int .i64 sp2)) g v ts kd2 sp2 t2 := by
  obtain ⟨x, hx⟩ := h.row
  exact ⟨⟨a2, row4 hx _ _ _ _⟩, gb_trans h.gb (gb_put4 _ _ _ _ _ _) (fun k hk => .inl (by cases hk; exact h.le)), h.le, SOwn.kept h.own (gb_put4 _ _ _ _ _ _) h.apart⟩
theorem LxB.at {w W : World} {g : Nat} {v : Value} {ts : List Tok} {kd sp : Int} {t : ByteArray} (h : LxB w W g v ts kd sp t) (a2 : Int) : (W.setCell ⟨g, 1, none⟩ (.int .i64 a2)).heap[g]? = some (.cells #[.int .i64 kd, .int .i64 a2, .string t, .int .i64 sp] 52 (0, 0)) ∧ LxB w (W.setCell ⟨g, 1, none⟩ (.int .i64 a2)) g v ts kd sp t := by
  obtain ⟨x, hx⟩ := h.row
  have e : (W.setCell ⟨g, 1, none⟩ (.int .i64 a2)).heap[g]? = some (.cells #[.int .i64 kd, .int .i64 a2, .string t, .int .i64 sp] 52 (0, 0)) := by
    simp [World.setCell, Array.getElem?_modify, hx]
  have gs : W.grownBy (W.setCell ⟨g, 1, none⟩ (.int .i64 a2)) (some g) := gb_set rfl
  exact ⟨e, ⟨a2, e⟩, gb_trans h.gb gs (fun k hk => .inl (by cases hk; exact h.le)), h.le, SOwn.kept h.own gs h.apart⟩
theorem LxB.app {w W W1 W2 : World} {g : Nat} {v v2 : Value} {ts : List Tok} {kd sp : Int} {t : ByteArray} {q : Tok} (h : LxB w W g v ts kd sp t) (hg : W.grownBy W1 none) (ho : SOwn tokE 52 W2 (g + 1) v2 (ts.length + 1) (ts ++ [q])) (hg2 : W1.grownBy W2 v.ownBlock) : LxB w W2 g v2 (ts ++ [q]) kd sp t := by
  have h1 := h.grown hg
  obtain ⟨x, hx⟩ := h1.row
  refine ⟨⟨x, ?_⟩, gb_trans h1.gb hg2 (fun k hk => .inl ?_), h.le, by rw [List.length_append]; exact ho⟩
  · rw [hg2.block g h1.lt (fun e => ?_)]; exact hx
    rcases h.apart with h2 | h2
    · rw [h2] at e; cases e
    · exact h2 e.symm
  · have := (SOwn.block h.own k hk).1
    have := h.le
    omega
def lexT (s : ByteArray) (g : Nat) (v : Value) (k : Nat) (n : Int) (u : Nat → Value) : Array Value := #[.string s, undef, .slice none 0 0, .int .i64 0, .int .i64 0, v, .pointer (some ⟨g, 0, none⟩), .int .i64 (k : Int), .int .i64 n, u 9, u 10, u 11, u 12, u 13, u 14, u 15, u 16, u 17, u 18, u 19, u 20, u 21, u 22, u 23, u 24, u 25, u 26, u 27, u 28, u 29, u 30, u 31, u 32, u 33, u 34, u 35, u 36, u 37, u 38, u 39, u 40, u 41, u 42, u 43, u 44, u 45, u 46, u 47, u 48, u 49, u 50, u 51, u 52, u 53, u 54, u 55, u 56, u 57, u 58, u 59, u 60, u 61, u 62, u 63, u 64, u 65, u 66, u 67, u 68, u 69, u 70, u 71, u 72, u 73, u 74, u 75, u 76, u 77, u 78, u 79, u 80, u 81, u 82, u 83, u 84]
def LxJ0 (s : ByteArray) (g : Nat) (R : Lx) (w : World) (a' : Act) (w' : World) : Prop := ∃ (k : Nat) (n kd sp : Int) (t : ByteArray) (v : Value) (ts : List Tok) (u : Nat → Value), a' = { tmps := lexT s g v k n u, defers := [] } ∧ LxB w w' g v ts kd sp t ∧ LexAt s ts k R ∧ ts.length ≤ k ∧ k = s.size
def LxJ1 (s : ByteArray) (g : Nat) (R : Lx) (w : World) (a' : Act) (w' : World) : Prop := ∃ (k : Nat) (n kd sp : Int) (t : ByteArray) (v : Value) (ts : List Tok) (u : Nat → Value), a' = { tmps := lexT s g v k n u, defers := [] } ∧ LxB w w' g v ts kd sp t ∧ LexAt s ts k R ∧ ts.length ≤ k ∧ k ≤ s.size
def LxJX (P : Int → Prop) (s : ByteArray) (g : Nat) (R : Lx) (w : World) (a' : Act) (w' : World) : Prop := ∃ (k : Nat) (n kd sp : Int) (t : ByteArray) (v : Value) (ts : List Tok) (u : Nat → Value), a' = { tmps := lexT s g v k n u, defers := [] } ∧ LxB w w' g v ts kd sp t ∧ LexAt s ts k R ∧ ts.length ≤ k ∧ k < s.size ∧ blankB (byteAt s k) = false ∧ P (byteAt s k)
def LxJ5 (s : ByteArray) (g : Nat) (R : Lx) (w : World) (a' : Act) (w' : World) : Prop := ∃ (k n : Nat) (kd sp c : Int) (t : ByteArray) (v : Value) (ts : List Tok) (u : Nat → Value), a' = { tmps := lexT s g v k (n : Int) u, defers := [] } ∧ LxB w w' g v ts kd sp t ∧ LexAt s ts k R ∧ ts.length ≤ k ∧ k < s.size ∧ blankB (byteAt s k) = false ∧ n ≠ 0 ∧ tokR ((sInts s).drop k) = ((kd, t, sp, n), c)
section
variable {s : ByteArray} {g : Nat} {R : Lx} {w : World} {a' : Act} {w' : World}
theorem lxJ0 (k : Nat) (n kd sp : Int) (t : ByteArray) (v : Value) (ts : List Tok) (h : a' = { tmps := lexT s g v k n (upon a'), defers := [] }) (h1 : LxB w w' g v ts kd sp t) (h2 : LexAt s ts k R) (h3 : ts.length ≤ k) (h4 : k = s.size) : LxJ0 s g R w a' w' := ⟨k, n, kd, sp, t, v, ts, _, h, h1, h2, h3, h4⟩
theorem lxJ1 (k : Nat) (n kd sp : Int) (t : ByteArray) (v : Value) (ts : List Tok) (h : a' = { tmps := lexT s g v k n (upon a'), defers := [] }) (h1 : LxB w w' g v ts kd sp t) (h2 : LexAt s ts k R) (h3 : ts.length ≤ k) (h4 : k ≤ s.size) : LxJ1 s g R w a' w' := ⟨k, n, kd, sp, t, v, ts, _, h, h1, h2, h3, h4⟩
theorem lxJX {P : Int → Prop} (k : Nat) (n kd sp : Int) (t : ByteArray) (v : Value) (ts : List Tok) (h : a' = { tmps := lexT s g v k n (upon a'), defers := [] }) (h1 : LxB w w' g v ts kd sp t) (h2 : LexAt s ts k R) (h3 : ts.length ≤ k) (h4 : k < s.size) (h5 : blankB (byteAt s k) = false) (h6 : P (byteAt s k)) : LxJX P s g R w a' w' := ⟨k, n, kd, sp, t, v, ts, _, h, h1, h2, h3, h4, h5, h6⟩
theorem lxJ5 (k n : Nat) (kd sp c : Int) (t : ByteArray) (v : Value) (ts : List Tok) (h : a' = { tmps := lexT s g v k (n : Int) (upon a'), defers := [] }) (h1 : LxB w w' g v ts kd sp t) (h2 : LexAt s ts k R) (h3 : ts.length ≤ k) (h4 : k < s.size) (h5 : blankB (byteAt s k) = false) (h6 : n ≠ 0) (h7 : tokR ((sInts s).drop k) = ((kd, t, sp, n), c)) : LxJ5 s g R w a' w' := ⟨k, n, kd, sp, c, t, v, ts, _, h, h1, h2, h3, h4, h5, h6, h7⟩
end
def lxM (s : ByteArray) (e : Nat) (a' : Act) (_ : World) : Nat := 3 * (s.size - (intOf (a'.tmps.getD 7 undef)).toNat) + e
theorem drop_head (s : ByteArray) (k : Nat) : byteAt (dropS s k) 0 = byteAt s k := by
  unfold byteAt
  rw [sInts_drop, List.getD_eq_getElem?_getD, List.getD_eq_getElem?_getD, List.getElem?_drop]
  rfl
theorem drop_head0 (s : ByteArray) (k : Nat) : ((sInts s).drop k).getD 0 0 = byteAt s k := by
  unfold byteAt
  rw [List.getD_eq_getElem?_getD, List.getD_eq_getElem?_getD, List.getElem?_drop]
  rfl
theorem lx_bad {R : Lx} {w W : World} {p : Nat} {c : Int} (hR : R = .bad p c) (hg : w.grownBy W none) : LxOut R w (.returned (.tuple #[.slice none 0 0, .int .i64 (p : Int), .int .i64 c])) W := by
  subst hR
  exact ⟨rfl, hg⟩
/-- A token at a place, and the code of none. -/
def TokAt (s : ByteArray) (k : Nat) (X : Int × ByteArray × Int × Nat) (c : Int) : Prop := tokR ((sInts s).drop k) = (X, c)
theorem isNum {s : ByteArray} {k : Nat} (h : digB (byteAt s k) = true) : TokAt s k (numR ((sInts s).drop k)) 172 := by
  unfold TokAt tokR
  rw [drop_head0, if_pos h]
  rfl
theorem isWord {s : ByteArray} {k : Nat} (h : digB (byteAt s k) = false ∧ runB 58 (byteAt s k) = true) : TokAt s k (wordR ((sInts s).drop k)) 0 := by
  unfold TokAt tokR
  have h2 : letB (byteAt s k) = true ∨ byteAt s k = 58 := by
    have := h.2
    unfold runB at this
    rw [h.1] at this
    simpa using this
  rw [drop_head0, if_neg (by rw [h.1]; simp), if_pos h2]
theorem isText {s : ByteArray} {k : Nat} (h : byteAt s k = 34) : TokAt s k (txtR ((sInts s).drop k)) 173 := by
  unfold TokAt tokR
  rw [drop_head0, h]
  rfl
theorem isSign {s : ByteArray} {k : Nat} (h : digB (byteAt s k) = false ∧ runB 58 (byteAt s k) = false ∧ byteAt s k ≠ 34) : TokAt s k (sgnR ((sInts s).drop k)) 171 := by
  unfold TokAt tokR
  have h2 : ¬ (letB (byteAt s k) = true ∨ byteAt s k = 58) := by
    have := h.2.1
    unfold runB at this
    rw [h.1] at this
    simpa using this
  rw [drop_head0, if_neg (by rw [h.1]; simp), if_neg h2, if_neg h.2.2]
theorem word_pos (l : List Int) (h : runB 58 (l.getD 0 0) = true) : (wordR l).2.2.2 ≠ 0 := by
  have h1 := (RunAt.next (by decide) (RunAt.zero (runB 58) l) h)
  match l, h1 with
  | [], h1 => exact absurd h1.1 (by simp)
  | c :: r, _ =>
    have h' : runB 58 c = true := h
    show (runR 58 (c :: r)).length ≠ 0
    unfold runR
    rw [List.takeWhile_cons, if_pos h']
    simp
end Go.Proofs.Ytnimdngiejcljaa

/- Lists of tokens, held against one another. -/
namespace Go.Proofs.Ytnimdngiejcljaa
open Go.ChangeShapes Go.WideShapes Go.ChangeAt Go.RowKit
set_option linter.unusedVariables false
set_option maxRecDepth 20000

theorem neq32 (x0 : Int) (x1 : Int) (x2 : ByteArray) (x3 : Int) (y0 : Int) (y1 : Int) (y2 : ByteArray) (y3 : Int) (w : World) : (binOp .neq 52 (.agg #[.int .i64 x0, .int .i64 x1, .string x2, .int .i64 x3]) (.agg #[.int .i64 y0, .int .i64 y1, .string y2, .int .i64 y3])).run Try.prog w = .ok (.bool (!decide (((x0, x1, x2, x3) : Tok) = (y0, y1, y2, y3)))) w := by
  have h : (Op.equal 52 (.agg #[.int .i64 x0, .int .i64 x1, .string x2, .int .i64 x3]) (.agg #[.int .i64 y0, .int .i64 y1, .string y2, .int .i64 y3])).run Try.prog w = .ok (decide (((x0, x1, x2, x3) : Tok) = (y0, y1, y2, y3))) w := by
    have hf : (Try.prog.fieldsOf 52).toList.map (fun f => (f.type, f.offset)) = [(3, 0), (3, 1), (9, 2), (2, 3)] := by kernel_rfl
    have hn : (Try.prog.fieldsOf 52).toList.all (fun f => f.name != "_") = true := by kernel_rfl
    have hu : Try.prog.underlying 52 = some (.struct (Try.prog.fieldsOf 52)) := by kernel_rfl
    have hp : Try.prog.stoodInHeld 52 = false := by kernel_rfl
    simp only [Op.equal]
    rw [show Op.maxDepth = 9999 + 1 from rfl, run_equalIn_struct w 9999 52 _ _ hu hp]
    generalize (Try.prog.fieldsOf 52).toList = fs at hf hn
    have hl : fs.length = 4 := by simpa using congrArg List.length hf
    obtain ⟨f0, f1, f2, f3, rfl⟩ : ∃ f0 f1 f2 f3, fs = [f0, f1, f2, f3] := by
      match fs, hl with
      | [f0, f1, f2, f3], _ => exact ⟨f0, f1, f2, f3, rfl⟩
    simp only [List.map_cons, List.map_nil, List.cons.injEq, Prod.mk.injEq, and_true] at hf
    simp only [List.all_cons, List.all_nil, Bool.and_true, Bool.and_eq_true, bne_iff_ne] at hn
    obtain ⟨⟨a0, b0⟩, ⟨a1, b1⟩, ⟨a2, b2⟩, ⟨a3, b3⟩⟩ := hf
    have p0 : ∀ (z0 : Int) (z1 : Int) (z2 : ByteArray) (z3 : Int) (w : World), (part 3 #[.int .i64 z0, .int .i64 z1, .string z2, .int .i64 z3] 0).run Try.prog w = .ok (.int .i64 z0) w := fun z0 z1 z2 z3 w => by simp [part, go_sem]
    have p1 : ∀ (z0 : Int) (z1 : Int) (z2 : ByteArray) (z3 : Int) (w : World), (part 3 #[.int .i64 z0, .int .i64 z1, .string z2, .int .i64 z3] 1).run Try.prog w = .ok (.int .i64 z1) w := fun z0 z1 z2 z3 w => by simp [part, go_sem]
    have p2 : ∀ (z0 : Int) (z1 : Int) (z2 : ByteArray) (z3 : Int) (w : World), (part 9 #[.int .i64 z0, .int .i64 z1, .string z2, .int .i64 z3] 2).run Try.prog w = .ok (.string z2) w := fun z0 z1 z2 z3 w => by simp [part, go_sem]
    have p3 : ∀ (z0 : Int) (z1 : Int) (z2 : ByteArray) (z3 : Int) (w : World), (part 2 #[.int .i64 z0, .int .i64 z1, .string z2, .int .i64 z3] 3).run Try.prog w = .ok (.int .i64 z3) w := fun z0 z1 z2 z3 w => by simp [part, go_sem]
    have q0 : ∀ (x y : Int) (w : World), (Op.equalIn 9999 3 (.int .i64 x) (.int .i64 y)).run Try.prog w = .ok (decide (x = y)) w := fun x y w => by rw [run_equalIn_int w 9998 3 .i64 _ x y Try.underlying3]; congr 1
    have q2 : ∀ (x y : ByteArray) (w : World), (Op.equalIn 9999 9 (.string x) (.string y)).run Try.prog w = .ok (decide (x = y)) w := fun x y w => by rw [run_equalIn_string w 9998 9 x y Try.underlying9, str_eq]
    have q3 : ∀ (x y : Int) (w : World), (Op.equalIn 9999 2 (.int .i64 x) (.int .i64 y)).run Try.prog w = .ok (decide (x = y)) w := fun x y w => by rw [run_equalIn_int w 9998 2 .i64 _ x y Try.underlying2]; congr 1
    by_cases e0 : x0 = y0 <;> by_cases e1 : x1 = y1 <;> by_cases e2 : x2 = y2 <;> by_cases e3 : x3 = y3 <;> simp [Op.eqFields, hn.1, hn.2.1, hn.2.2.1, hn.2.2.2, a0, b0, a1, b1, a2, b2, a3, b3, p0, e0, p1, e1, p2, e2, p3, e3, q0, q2, q3]
  simp [binOp, h]
theorem eql32 (x0 : Int) (x1 : Int) (x2 : ByteArray) (x3 : Int) (y0 : Int) (y1 : Int) (y2 : ByteArray) (y3 : Int) (w : World) : (binOp .eql 52 (.agg #[.int .i64 x0, .int .i64 x1, .string x2, .int .i64 x3]) (.agg #[.int .i64 y0, .int .i64 y1, .string y2, .int .i64 y3])).run Try.prog w = .ok (.bool (decide (((x0, x1, x2, x3) : Tok) = (y0, y1, y2, y3)))) w := by
  have h : (Op.equal 52 (.agg #[.int .i64 x0, .int .i64 x1, .string x2, .int .i64 x3]) (.agg #[.int .i64 y0, .int .i64 y1, .string y2, .int .i64 y3])).run Try.prog w = .ok (decide (((x0, x1, x2, x3) : Tok) = (y0, y1, y2, y3))) w := by
    have hf : (Try.prog.fieldsOf 52).toList.map (fun f => (f.type, f.offset)) = [(3, 0), (3, 1), (9, 2), (2, 3)] := by kernel_rfl
    have hn : (Try.prog.fieldsOf 52).toList.all (fun f => f.name != "_") = true := by kernel_rfl
    have hu : Try.prog.underlying 52 = some (.struct (Try.prog.fieldsOf 52)) := by kernel_rfl
    have hp : Try.prog.stoodInHeld 52 = false := by kernel_rfl
    simp only [Op.equal]
    rw [show Op.maxDepth = 9999 + 1 from rfl, run_equalIn_struct w 9999 52 _ _ hu hp]
    generalize (Try.prog.fieldsOf 52).toList = fs at hf hn
    have hl : fs.length = 4 := by simpa using congrArg List.length hf
    obtain ⟨f0, f1, f2, f3, rfl⟩ : ∃ f0 f1 f2 f3, fs = [f0, f1, f2, f3] := by
      match fs, hl with
      | [f0, f1, f2, f3], _ => exact ⟨f0, f1, f2, f3, rfl⟩
    simp only [List.map_cons, List.map_nil, List.cons.injEq, Prod.mk.injEq, and_true] at hf
    simp only [List.all_cons, List.all_nil, Bool.and_true, Bool.and_eq_true, bne_iff_ne] at hn
    obtain ⟨⟨a0, b0⟩, ⟨a1, b1⟩, ⟨a2, b2⟩, ⟨a3, b3⟩⟩ := hf
    have p0 : ∀ (z0 : Int) (z1 : Int) (z2 : ByteArray) (z3 : Int) (w : World), (part 3 #[.int .i64 z0, .int .i64 z1, .string z2, .int .i64 z3] 0).run Try.prog w = .ok (.int .i64 z0) w := fun z0 z1 z2 z3 w => by simp [part, go_sem]
    have p1 : ∀ (z0 : Int) (z1 : Int) (z2 : ByteArray) (z3 : Int) (w : World), (part 3 #[.int .i64 z0, .int .i64 z1, .string z2, .int .i64 z3] 1).run Try.prog w = .ok (.int .i64 z1) w := fun z0 z1 z2 z3 w => by simp [part, go_sem]
    have p2 : ∀ (z0 : Int) (z1 : Int) (z2 : ByteArray) (z3 : Int) (w : World), (part 9 #[.int .i64 z0, .int .i64 z1, .string z2, .int .i64 z3] 2).run Try.prog w = .ok (.string z2) w := fun z0 z1 z2 z3 w => by simp [part, go_sem]
    have p3 : ∀ (z0 : Int) (z1 : Int) (z2 : ByteArray) (z3 : Int) (w : World), (part 2 #[.int .i64 z0, .int .i64 z1, .string z2, .int .i64 z3] 3).run Try.prog w = .ok (.int .i64 z3) w := fun z0 z1 z2 z3 w => by simp [part, go_sem]
    have q0 : ∀ (x y : Int) (w : World), (Op.equalIn 9999 3 (.int .i64 x) (.int .i64 y)).run Try.prog w = .ok (decide (x = y)) w := fun x y w => by rw [run_equalIn_int w 9998 3 .i64 _ x y Try.underlying3]; congr 1
    have q2 : ∀ (x y : ByteArray) (w : World), (Op.equalIn 9999 9 (.string x) (.string y)).run Try.prog w = .ok (decide (x = y)) w := fun x y w => by rw [run_equalIn_string w 9998 9 x y Try.underlying9, str_eq]
    have q3 : ∀ (x y : Int) (w : World), (Op.equalIn 9999 2 (.int .i64 x) (.int .i64 y)).run Try.prog w = .ok (decide (x = y)) w := fun x y w => by rw [run_equalIn_int w 9998 2 .i64 _ x y Try.underlying2]; congr 1
    by_cases e0 : x0 = y0 <;> by_cases e1 : x1 = y1 <;> by_cases e2 : x2 = y2 <;> by_cases e3 : x3 = y3 <;> simp [Op.eqFields, hn.1, hn.2.1, hn.2.2.1, hn.2.2.2, a0, b0, a1, b1, a2, b2, a3, b3, p0, e0, p1, e1, p2, e2, p3, e3, q0, q2, q3]
  simp [binOp, h]
end Go.Proofs.Ytnimdngiejcljaa

/- Package parse: a reader in memory; what a call leaves of the world. -/
namespace Go.Proofs.Ytnimdngiejcljaa
open Go.RowKit
set_option linter.unusedVariables false
set_option linter.unusedSimpArgs false
set_option maxRecDepth 20000

/-- A slice: where, how long, how much room. -/
abbrev Sl := Option Addr × Nat × Nat
def slV (s : Sl) : Value := .slice s.1 s.2.1 s.2.2
def matV (m : Mt) : Value := .agg #[.int .i64 m.1, .string m.2.1, .string m.2.2]
def matE : Elem Mt where
  cells m := [.int .i64 m.1, .string m.2.1, .string m.2.2]
  size := 3
  pos := by decide
  len _ := rfl
  one q v h := by
    simp only [List.mem_cons, List.mem_nil_iff, or_false] at h
    rcases h with rfl | rfl | rfl <;> rfl
def strE : Elem ByteArray where
  cells s := [.string s]
  size := 1
  pos := by decide
  len _ := rfl
  one q v h := by
    simp only [List.mem_cons, List.mem_nil_iff, or_false] at h
    rcases h with rfl; rfl
def numE : Elem Int where
  cells s := [.int .i64 s]
  size := 1
  pos := by decide
  len _ := rfl
  one q v h := by
    simp only [List.mem_cons, List.mem_nil_iff, or_false] at h
    rcases h with rfl; rfl
abbrev Row := Nd × Sl × Sl
def ndA (x : Nd) (m n : Sl) : Array Value := #[.int .i64 x.kind, .int .i64 x.op, .string x.text, slV m, .int .i64 x.width, .int .i64 x.back, .int .i64 x.group, slV n, .bool x.bool, .int .i64 x.parts]
def ndE : Elem Row where
  cells q := (ndA q.1 q.2.1 q.2.2).toList
  size := 10
  pos := by decide
  len _ := rfl
  one q v h := by
    simp only [ndA, List.mem_cons, List.mem_nil_iff, or_false] at h
    rcases h with rfl | rfl | rfl | rfl | rfl | rfl | rfl | rfl | rfl | rfl <;> rfl
theorem info34 : (Try.prog.info? 34).map (fun i => (i.zero, i.size, i.bytes)) = some (some (.agg #[.int .i64 0, .int .i64 0, .string ⟨#[]⟩, .slice none 0 0, .int .i64 0, .int .i64 0, .int .i64 0, .slice none 0 0, .bool false, .int .i64 0]), 10, 120) := by kernel_rfl
theorem info44 : (Try.prog.info? 44).map (fun i => (i.zero, i.size, i.bytes)) = some (some (.agg #[.int .i64 0, .string ⟨#[]⟩, .string ⟨#[]⟩]), 3, 40) := by kernel_rfl
theorem info9 : (Try.prog.info? 9).map (fun i => (i.zero, i.size, i.bytes)) = some (some (.string ⟨#[]⟩), 1, 16) := by kernel_rfl
theorem info3 : (Try.prog.info? 3).map (fun i => (i.zero, i.size, i.bytes)) = some (some (.int .i64 0), 1, 8) := by kernel_rfl
theorem ndT : ElemOf ndE Try.prog 22 34 120 := by
  obtain ⟨i0, hi, hz0, hz1, hz2⟩ := info_parts info34
  exact ⟨Try.underlying22, i0, _, hi, hz0, hz1, hz2, rfl⟩
theorem matT : ElemOf matE Try.prog 31 44 40 := by
  obtain ⟨i0, hi, hz0, hz1, hz2⟩ := info_parts info44
  exact ⟨Try.underlying31, i0, _, hi, hz0, hz1, hz2, rfl⟩
theorem strT : ElemOf strE Try.prog 32 9 16 := by
  obtain ⟨i0, hi, hz0, hz1, hz2⟩ := info_parts info9
  exact ⟨Try.underlying32, i0, _, hi, hz0, hz1, hz2, rfl⟩
theorem numT : ElemOf numE Try.prog 72 3 8 := by
  obtain ⟨i0, hi, hz0, hz1, hz2⟩ := info_parts info3
  exact ⟨Try.underlying72, i0, _, hi, hz0, hz1, hz2, rfl⟩

/-- All but those blocks is as it was; there may be more. -/
structure Fr (S : Nat → Prop) (w w' : World) : Prop where
  os : w'.os = w.os
  tape : w'.tape = w.tape
  output : w'.output = w.output
  size : w.heap.size ≤ w'.heap.size
  block : ∀ k, k < w.heap.size → ¬ S k → w'.heap[k]? = w.heap[k]?
theorem Fr.of {S : Nat → Prop} {w w' : World} (h : w.grownBy w' none) : Fr S w w' := ⟨h.os, h.tape, h.output, h.size, fun k hk _ => h.block k hk (by simp)⟩
theorem Fr.row {S : Nat → Prop} {w w' : World} {g : Option Nat} (h : w.grownBy w' g) (hs : ∀ k, g = some k → S k) : Fr S w w' :=
  ⟨h.os, h.tape, h.output, h.size, fun k hk hn => h.block k hk (fun e => hn (hs k e.symm))⟩
theorem Fr.refl (S : Nat → Prop) (w : World) : Fr S w w := .of (World.grownBy.refl _ _)
theorem Fr.trans {S S' : Nat → Prop} {w w1 w2 : World} (h : Fr S w w1) (h' : Fr S' w1 w2) (hs : ∀ k, k < w.heap.size → S' k → S k) : Fr S w w2 :=
  ⟨h'.os.trans h.os, h'.tape.trans h.tape, h'.output.trans h.output, Nat.le_trans h.size h'.size, fun k hk hn => (h'.block k (Nat.lt_of_lt_of_le hk h.size) (fun e => hn (hs k hk e))).trans (h.block k hk hn)⟩
theorem Fr.mono {S S' : Nat → Prop} {w w' : World} (h : Fr S w w') (hs : ∀ k, k < w.heap.size → S k → S' k) : Fr S' w w' :=
  ⟨h.os, h.tape, h.output, h.size, fun k hk hn => h.block k hk (fun e => hn (hs k hk e))⟩
theorem Fr.grown {S : Nat → Prop} {w w' : World} (h : Fr S w w') (hs : ∀ k, k < w.heap.size → ¬ S k) : w.grownBy w' none :=
  ⟨h.os, h.tape, h.output, h.size, fun k hk _ => h.block k hk (hs k hk)⟩
theorem Fr.drew {S : Nat → Prop} {w w' : World} (h : Fr S w w') : Fr S w w'.drew := ⟨h.os, h.tape, h.output, h.size, h.block⟩
theorem sown_same {α : Type} {E : Elem α} {e : TypeId} {w w' : World} {base n : Nat} {v : Value} {l : List α} (h : SOwn E e w base v n l) (hk : ∀ k, v.ownBlock = some k → k < w.heap.size → w'.heap[k]? = w.heap[k]?) : SOwn E e w' base v n l := by
  refine ⟨h.1, ?_⟩
  rcases h.2 with h' | ⟨g, cap, cur, h', h1, h2, r⟩
  · exact .inl h'
  · exact .inr ⟨g, cap, cur, h', h1, by rw [hk g (by rw [h']; rfl) (Array.getElem?_eq_some_iff.1 h2).1]; exact h2, r⟩
theorem srd_same {α : Type} {E : Elem α} {w w' : World} {g : Nat} {off : Nat} {l : List α} (h : SRd E w (some ⟨g, off, none⟩) l) (hk : w'.heap[g]? = w.heap[g]?) : SRd E w' (some ⟨g, off, none⟩) l := by
  rcases h with h | ⟨b, o, e, h⟩
  · exact .inl h
  · cases e
    exact .inr ⟨_, _, rfl, fun j v hj => by rw [← h j v hj]; exact World.cell?_of_block (w := w) (a := ⟨g, off + j, none⟩) hk⟩

/-- A list of nodes that is being made, from base on: its rows; each one's matchers and names lie in rows of their own. -/
structure NdAt (w : World) (b : Nat) (v : Value) (L : List Row) : Prop where
  own : SOwn ndE 34 w b v L.length L
  mat : ∀ q ∈ L, SOwn matE 44 w b (slV q.2.1) q.1.mat.length q.1.mat
  nam : ∀ q ∈ L, SOwn strE 9 w b (slV q.2.2) q.1.names.length q.1.names
  apm : ∀ q ∈ L, ∀ k, (slV q.2.1).ownBlock = some k → v.ownBlock ≠ some k
  apn : ∀ q ∈ L, ∀ k, (slV q.2.2).ownBlock = some k → v.ownBlock ≠ some k
theorem NdAt.nil (w : World) (b : Nat) : NdAt w b (.slice none 0 0) [] :=
  ⟨SOwn.nil _ _ _, by simp, by simp, by simp, by simp⟩
theorem NdAt.same {w w' : World} {b : Nat} {v : Value} {L : List Row} (h : NdAt w b v L) (hk : ∀ k, b ≤ k → k < w.heap.size → w'.heap[k]? = w.heap[k]?) : NdAt w' b v L :=
  ⟨sown_same h.own (fun k e h1 => hk k (SOwn.block h.own k e).1 h1), fun q hq => sown_same (h.mat q hq) (fun k e h1 => hk k (SOwn.block (h.mat q hq) k e).1 h1), fun q hq => sown_same (h.nam q hq) (fun k e h1 => hk k (SOwn.block (h.nam q hq) k e).1 h1), h.apm, h.apn⟩
theorem NdAt.val {w : World} {b : Nat} {v : Value} {L : List Row} (h : NdAt w b v L) : ∃ a c, v = .slice a L.length c := by
  rcases h.own.2 with ⟨e, h0⟩ | ⟨g, c, cur, e, _⟩
  · exact ⟨none, 0, by rw [e, h0]⟩
  · exact ⟨_, c, e⟩

/-- The tokens of a query: where, and which. -/
structure Tk where
  g : Nat
  c : Nat
  T : List Tok
/-- A reader: at a token, so many open, those nodes. -/
structure RdAt (w : World) (b p : Nat) (K : Tk) (k : Nat) (op : Int) (v : Value) (L : List Row) : Prop where
  hp : p < b
  hg : K.g < b
  ne : K.g ≠ p
  hb : b ≤ w.heap.size
  row : w.heap[p]? = some (.cells #[.slice (some ⟨K.g, 0, none⟩) K.T.length K.c, .int .i64 (k : Int), .int .i64 op, v] 48 (0, 0))
  tok : SRd tokE w (some ⟨K.g, 0, none⟩) K.T
  nds : NdAt w b v L
/-- The blocks that a reader writes. -/
def Wr (p : Nat) (v : Value) (k : Nat) : Prop := k = p ∨ v.ownBlock = some k
/-- Only the reader itself. -/
def Me (p : Nat) (k : Nat) : Prop := k = p
theorem RdAt.lt {w : World} {b p : Nat} {K : Tk} {k : Nat} {op : Int} {v : Value} {L : List Row} (h : RdAt w b p K k op v L) : p < w.heap.size := Nat.lt_of_lt_of_le h.hp h.hb
theorem RdAt.cells {w : World} {b p : Nat} {K : Tk} {k : Nat} {op : Int} {v : Value} {L : List Row} (h : RdAt w b p K k op v L) : w.cell? ⟨p, 0, none⟩ = some (.slice (some ⟨K.g, 0, none⟩) K.T.length K.c) ∧ w.cell? ⟨p, 1, none⟩ = some (.int .i64 (k : Int)) ∧ w.cell? ⟨p, 2, none⟩ = some (.int .i64 op) ∧ w.cell? ⟨p, 3, none⟩ = some v := cell4 h.row
theorem RdAt.free {w : World} {b p : Nat} {K : Tk} {k : Nat} {op : Int} {v : Value} {L : List Row} (h : RdAt w b p K k op v L) (j : Nat) : w.frozen? ⟨p, j, none⟩ = false := free_row h.row j
theorem RdAt.grown {w w' : World} {b p : Nat} {K : Tk} {k : Nat} {op : Int} {v : Value} {L : List Row} (h : RdAt w b p K k op v L) (hg : w.grownBy w' none) : RdAt w' b p K k op v L :=
  ⟨h.hp, h.hg, h.ne, Nat.le_trans h.hb hg.size, by rw [hg.block p h.lt (by simp)]; exact h.row, h.tok.grown hg (by simp), h.nds.same (fun j _ hj => hg.block j hj (by simp))⟩
/-- A reader lives through what writes outside of it. -/
theorem RdAt.fr {S : Nat → Prop} {w w' : World} {b p : Nat} {K : Tk} {k : Nat} {op : Int} {v : Value} {L : List Row} (h : RdAt w b p K k op v L) (hg : Fr S w w') (hs : ∀ j, S j → b ≤ j ∧ v.ownBlock ≠ some j ∧ ∀ q ∈ L, (slV q.2.1).ownBlock ≠ some j ∧ (slV q.2.2).ownBlock ≠ some j) : RdAt w' b p K k op v L := by
  have hlow : ∀ j, j < b → w'.heap[j]? = w.heap[j]? := fun j hj => hg.block j (Nat.lt_of_lt_of_le hj h.hb) (fun e => by have := (hs j e).1; omega)
  refine ⟨h.hp, h.hg, h.ne, Nat.le_trans h.hb hg.size, by rw [hlow p h.hp]; exact h.row, srd_same h.tok (hlow _ h.hg), ?_⟩
  exact ⟨sown_same h.nds.own (fun j e h1 => hg.block j h1 (fun e2 => (hs j e2).2.1 e)), fun q hq => sown_same (h.nds.mat q hq) (fun j e h1 => hg.block j h1 (fun e2 => ((hs j e2).2.2 q hq).1 e)), fun q hq => sown_same (h.nds.nam q hq) (fun j e h1 => hg.block j h1 (fun e2 => ((hs j e2).2.2 q hq).2 e)), h.nds.apm, h.nds.apn⟩
theorem row_set {w : World} {p : Nat} {x y z u : Value} {t : TypeId} (h : w.heap[p]? = some (.cells #[x, y, z, u] t (0, 0))) (v : Value) :
    (w.setCell ⟨p, 1, none⟩ v).heap[p]? = some (.cells #[x, v, z, u] t (0, 0)) ∧ (w.setCell ⟨p, 2, none⟩ v).heap[p]? = some (.cells #[x, y, v, u] t (0, 0)) ∧ (w.setCell ⟨p, 3, none⟩ v).heap[p]? = some (.cells #[x, y, z, v] t (0, 0)) := by
  refine ⟨?_, ?_, ?_⟩ <;> simp [World.setCell, Array.getElem?_modify, h]
theorem set_other {w : World} {p j : Nat} {i : Nat} {v : Value} (h : j ≠ p) : (w.setCell ⟨p, i, none⟩ v).heap[j]? = w.heap[j]? := by
  have hg : w.grownBy (w.setCell ⟨p, i, none⟩ v) (some p) := gb_set rfl
  by_cases hj : j < w.heap.size
  · exact hg.block j hj (by simpa using h)
  · have h1 : (w.setCell ⟨p, i, none⟩ v).heap.size = w.heap.size := by simp [World.setCell]
    rw [Array.getElem?_eq_none (by omega), Array.getElem?_eq_none (by omega)]
/-- It goes on to another token. -/
theorem RdAt.at {w : World} {b p : Nat} {K : Tk} {k : Nat} {op : Int} {v : Value} {L : List Row} (h : RdAt w b p K k op v L) (k2 : Nat) : RdAt (w.setCell ⟨p, 1, none⟩ (.int .i64 (k2 : Int))) b p K k2 op v L :=
  ⟨h.hp, h.hg, h.ne, by simp [World.setCell]; exact h.hb, (row_set h.row _).1, srd_same h.tok (set_other h.ne), h.nds.same (fun j hj _ => set_other (by have := h.hp; omega))⟩
theorem RdAt.open {w : World} {b p : Nat} {K : Tk} {k : Nat} {op : Int} {v : Value} {L : List Row} (h : RdAt w b p K k op v L) (op2 : Int) : RdAt (w.setCell ⟨p, 2, none⟩ (.int .i64 op2)) b p K k op2 v L :=
  ⟨h.hp, h.hg, h.ne, by simp [World.setCell]; exact h.hb, (row_set h.row _).2.1, srd_same h.tok (set_other h.ne), h.nds.same (fun j hj _ => set_other (by have := h.hp; omega))⟩
theorem fr_set (p i : Nat) (w : World) (v : Value) : Fr (Me p) w (w.setCell ⟨p, i, none⟩ v) := Fr.row (g := some p) (gb_set rfl) (fun k hk => by cases hk; rfl)
/-- What was thrown. -/
def flt (p c : Int) : List PanicEntry := [{ v := .iface 63 (.agg #[.int .i64 p, .int .i64 c]), recovered := false }]
/-- What a text of tokens must be: the last one is the end. -/
def EndL : List Tok → Prop
  | [] => False
  | [t] => t.1 = 0
  | t :: u :: r => EndL (u :: r)
theorem EndL.ne {ts : List Tok} (h : EndL ts) : ts ≠ [] := by intro e; subst e; exact h
theorem EndL.tail {ts : List Tok} (h : EndL ts) (hk : (hd ts).1 ≠ 0) : EndL ts.tail := by
  match ts with
  | [] => exact h
  | [t] => exact absurd h hk
  | t :: u :: r => exact h
/-- What is ahead of a reader. -/
structure Ahead (K : Tk) (k : Nat) (ts : List Tok) : Prop where
  eq : K.T.drop k = ts
  fin : EndL ts
  small : K.T.length ≤ 4097
theorem Ahead.lt {K : Tk} {k : Nat} {ts : List Tok} (h : Ahead K k ts) : k < K.T.length := by
  by_cases hk : k < K.T.length
  · exact hk
  · exact absurd (by rw [← h.eq]; exact List.drop_eq_nil_of_le (by omega)) h.fin.ne
theorem Ahead.len {K : Tk} {k : Nat} {ts : List Tok} (h : Ahead K k ts) : ts.length + k = K.T.length := by
  have := h.lt
  rw [← h.eq, List.length_drop]; omega
theorem Ahead.get {K : Tk} {k : Nat} {ts : List Tok} (h : Ahead K k ts) : K.T[k]? = some (hd ts) := by
  have h1 := h.eq
  rw [List.drop_eq_getElem_cons h.lt] at h1
  rw [← h1, List.getElem?_eq_getElem h.lt]
  rfl
theorem Ahead.next {K : Tk} {k : Nat} {ts : List Tok} (h : Ahead K k ts) (hk : (hd ts).1 ≠ 0) : Ahead K (k + 1) ts.tail :=
  ⟨by rw [← h.eq, List.tail_drop], h.fin.tail hk, h.small⟩
end Go.Proofs.Ytnimdngiejcljaa

/- What a query's tokens are like. -/
namespace Go.Proofs.Ytnimdngiejcljaa
open Go.RowKit
set_option linter.unusedVariables false
set_option linter.unusedSimpArgs false
set_option maxRecDepth 20000

/-- A token that is no end, within those places. -/
def TokIn (a b : Int) (q : Tok) : Prop := q.1 ≠ 0 ∧ a ≤ q.2.1 ∧ q.2.1 < b
theorem tok_kind {l : List Int} (h : (tokR l).1.2.2.2 ≠ 0) : (tokR l).1.1 ≠ 0 := by
  unfold tokR at h ⊢
  split at h
  · rename_i hd
    rw [if_pos hd]
    unfold numR at h ⊢
    split at h
    · rename_i h1; rw [if_pos h1]; show (2 : Int) ≠ 0; decide
    · rename_i h1
      rw [if_neg h1]
      split at h
      · rename_i h2; rw [if_pos h2]; show (1 : Int) ≠ 0; decide
      · exact absurd rfl h
  · rename_i hd
    rw [if_neg hd]
    split at h
    · rename_i h1; rw [if_pos h1]; show (3 : Int) ≠ 0; decide
    · rename_i h1
      rw [if_neg h1]
      split at h
      · rename_i h2
        rw [if_pos h2]
        unfold txtR at h ⊢
        split at h
        · exact absurd rfl h
        · rename_i h3; rw [if_neg h3]; show (4 : Int) ≠ 0; decide
      · rename_i h2
        rw [if_neg h2]
        unfold sgnR at h ⊢
        split at h
        · exact absurd rfl h
        · rename_i h3; rw [if_neg h3]; show (5 : Int) ≠ 0; decide
theorem tok_code {c : Int} {r : List Int} (h : (tokR (c :: r)).1.2.2.2 = 0) : 171 ≤ (tokR (c :: r)).2 ∧ (tokR (c :: r)).2 ≤ 173 := by
  unfold tokR at h ⊢
  split
  · show (171 : Int) ≤ 171 + 1 ∧ (171 + 1 : Int) ≤ 173; decide
  · rename_i hd
    rw [if_neg hd] at h
    split
    · rename_i h1
      rw [if_pos h1] at h
      exfalso
      unfold wordR runR at h
      have hc : runB 58 c = true := by
        simp only [List.getD_cons_zero] at h1
        unfold runB
        rcases h1 with h1 | h1
        · rw [h1]; simp
        · subst h1; decide
      rw [List.takeWhile_cons, if_pos hc] at h
      simp at h
    · split
      · show (171 : Int) ≤ 173 ∧ (173 : Int) ≤ 173; decide
      · show (171 : Int) ≤ 171 ∧ (171 : Int) ≤ 173; decide
theorem lexL_toks : ∀ (n at_ : Nat) (l : List Int) (ts : List Tok), l.length ≤ n → lexL at_ l = .ok ts → ∃ us, ts = us ++ [(0, ((at_ + l.length : Nat) : Int), ⟨#[]⟩, 0)] ∧ (∀ q ∈ us, TokIn (at_ : Int) ((at_ + l.length : Nat) : Int) q) ∧ us.length ≤ l.length := by
  intro n
  induction n with
  | zero =>
    intro at_ l ts hl h
    obtain rfl : l = [] := List.eq_nil_of_length_eq_zero (by omega)
    rw [lexL] at h
    cases h
    exact ⟨[], rfl, by simp, by simp⟩
  | succ n ih =>
    intro at_ l ts hl h
    cases l with
    | nil =>
      rw [lexL] at h
      cases h
      exact ⟨[], rfl, by simp, by simp⟩
    | cons c r =>
      simp only [List.length_cons] at hl
      rw [lexL] at h
      split at h
      · obtain ⟨us, e, hu, hn⟩ := ih _ r ts (by omega) h
        refine ⟨us, ?_, fun q hq => ?_, by simp only [List.length_cons]; omega⟩
        · rw [e, List.length_cons]; congr 4; omega
        · obtain ⟨h1, h2, h3⟩ := hu q hq
          simp only [List.length_cons]
          exact ⟨h1, by omega, by omega⟩
      · rename_i hb
        split at h
        · cases h
        · rename_i hn0
          cases hx : lexL (at_ + (tokR (c :: r)).1.2.2.2) (r.drop ((tokR (c :: r)).1.2.2.2 - 1)) with
          | bad p q => rw [hx] at h; cases h
          | ok us =>
            rw [hx] at h
            cases h
            have hle := tok_len (c :: r) (by simp)
            simp only [List.length_cons] at hle
            obtain ⟨vs, e, hu, hn⟩ := ih _ _ us (by rw [List.length_drop]; omega) hx
            rw [List.length_drop] at e hu hn
            refine ⟨((tokR (c :: r)).1.1, (at_ : Int), (tokR (c :: r)).1.2.1, (tokR (c :: r)).1.2.2.1) :: vs, ?_, fun q hq => ?_, by simp only [List.length_cons]; omega⟩
            · rw [e, List.cons_append, List.length_cons]; congr 5; omega
            · simp only [List.length_cons]
              rcases List.mem_cons.1 hq with rfl | hq
              · exact ⟨tok_kind hn0, Int.le_refl _, by show (at_ : Int) < _; omega⟩
              · obtain ⟨h1, h2, h3⟩ := hu q hq
                exact ⟨h1, by omega, by omega⟩
theorem lexL_bad : ∀ (n at_ : Nat) (l : List Int) (p : Nat) (c : Int), l.length ≤ n → lexL at_ l = .bad p c → 171 ≤ c ∧ c ≤ 173 := by
  intro n
  induction n with
  | zero =>
    intro at_ l p c hl h
    obtain rfl : l = [] := List.eq_nil_of_length_eq_zero (by omega)
    rw [lexL] at h
    cases h
  | succ n ih =>
    intro at_ l p c hl h
    cases l with
    | nil => rw [lexL] at h; cases h
    | cons d r =>
      simp only [List.length_cons] at hl
      rw [lexL] at h
      split at h
      · exact ih _ r p c (by omega) h
      · split at h
        · rename_i hn
          cases h
          exact tok_code hn
        · cases hx : lexL (at_ + (tokR (d :: r)).1.2.2.2) (r.drop ((tokR (d :: r)).1.2.2.2 - 1)) with
          | ok us => rw [hx] at h; cases h
          | bad p q =>
            rw [hx] at h
            cases h
            exact ih _ _ _ _ (by rw [List.length_drop]; omega) hx
theorem lexR_bad {s : ByteArray} {p : Nat} {c : Int} (h : lexR s = .bad p c) : c ≠ 0 ∧ 170 ≤ c ∧ c ≤ 173 := by
  unfold lexR at h
  split at h
  · cases h; decide
  · have := lexL_bad _ 0 (sInts s) p c (Nat.le_refl _) h
    exact ⟨by omega, by omega, by omega⟩
/-- What the tokens of a text are. -/
structure Toks (s : ByteArray) (ts : List Tok) : Prop where
  ex : ∃ us, ts = us ++ [(0, (s.size : Int), ⟨#[]⟩, 0)] ∧ (∀ q ∈ us, TokIn 0 (s.size : Int) q) ∧ us.length ≤ s.size ∧ s.size ≤ 4096
theorem lexR_toks {s : ByteArray} {ts : List Tok} (h : lexR s = .ok ts) : Toks s ts := by
  unfold lexR at h
  split at h
  · cases h
  · rename_i hs
    obtain ⟨us, e, hu, hn⟩ := lexL_toks _ 0 (sInts s) ts (Nat.le_refl _) h
    rw [sInts_len] at e hu hn
    simp only [Nat.zero_add] at e hu
    exact ⟨us, e, hu, hn, by omega⟩
theorem endL_app (us : List Tok) (z : Tok) (h : z.1 = 0) : EndL (us ++ [z]) := by
  induction us with
  | nil => exact h
  | cons u r ih =>
    cases r with
    | nil => exact h
    | cons v r => exact ih
theorem lexR_end {s : ByteArray} {ts : List Tok} (h : lexR s = .ok ts) : EndL ts ∧ ts.length ≤ 4097 := by
  obtain ⟨us, e, hu, hn, hs⟩ := (lexR_toks h).ex
  subst e
  exact ⟨endL_app us _ rfl, by rw [List.length_append, List.length_singleton]; omega⟩
end Go.Proofs.Ytnimdngiejcljaa

