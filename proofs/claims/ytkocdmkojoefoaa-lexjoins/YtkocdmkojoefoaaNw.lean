/- number: the walk. -/
import Derived.Test.YtkocdmkojoefoaaNn
import Derived.Deep.Cut
namespace Go.Proofs.Ytkocdmkojoefoaa
open Go.RowKit
set_option linter.unusedVariables false
set_option maxRecDepth 20000

theorem wrap64_is (x : Int) : wrap64 x = IntKind.i64.wrap x := by rw [IntKind.wrap_i64]; unfold wrap64; rfl
theorem rb_run (c : Int) : (letB c || digB c || decide (c = 46)) = runB 46 c := by unfold runB; cases letB c <;> cases digB c <;> rfl
def nmT (s : ByteArray) (g k : Nat) (d C S : Int) (u : Nat → Value) : Array Value := #[.string s, undef, .pointer (some ⟨g, 0, none⟩), .int .i64 0, .int .i64 (k : Int), .int .i64 d, .int .i64 C, .int .i64 S, u 8, u 9, u 10, u 11, u 12, u 13, u 14, u 15, u 16, u 17, u 18, u 19, u 20, u 21, u 22, u 23, u 24, u 25, u 26, u 27, u 28, u 29, u 30, u 31, u 32, u 33, u 34, u 35, u 36, u 37, u 38, u 39, u 40, u 41, u 42, u 43, u 44, u 45, u 46, u 47, u 48, u 49, u 50, u 51, u 52, u 53, u 54, u 55, u 56, u 57, u 58, u 59, u 60, u 61, u 62, u 63, u 64, u 65, u 66, u 67, u 68, u 69, u 70, u 71, u 72, u 73, u 74, u 75, u 76, u 77, u 78, u 79, u 80, u 81, u 82, u 83, u 84, u 85, u 86, u 87, u 88, u 89, u 90, u 91, u 92, u 93, u 94, u 95]
/-- The count of the digits ahead of k, cut off. -/
def CntAt (l : List Int) (k : Nat) (C : Int) : Prop := C = min (valL (l.take k)) 2147483648
def NoughtNot (l : List Int) (D : Nat) : Prop := ¬ (l.getD 0 0 = 48 ∧ 1 < D)
def NmJ0 (s : ByteArray) (g : Nat) (W : World) (a' : Act) (w' : World) : Prop := ∃ (k : Nat) (C : Int) (u : Nat → Value), a' = { tmps := nmT s g k 0 C 0 u, defers := [] } ∧ w' = W ∧ k < s.size ∧ RunAt digB (sInts s) k ∧ digB (byteAt s k) = true ∧ CntAt (sInts s) k C ∧ 0 ≤ C ∧ C ≤ 2147483648
def NmJ1 (s : ByteArray) (g : Nat) (W : World) (a' : Act) (w' : World) : Prop := ∃ (k : Nat) (d C S : Int) (u : Nat → Value), a' = { tmps := nmT s g k d C S u, defers := [] } ∧ w' = W ∧ numR (sInts s) = (0, ⟨#[]⟩, 0, 0)
def NmJ2 (s : ByteArray) (g : Nat) (W : World) (a' : Act) (w' : World) : Prop := ∃ (k : Nat) (C : Int) (u : Nat → Value), a' = { tmps := nmT s g k (k : Int) C 0 u, defers := [] } ∧ w' = W ∧ k < s.size ∧ DigAt (sInts s) k ∧ NoughtNot (sInts s) k ∧ byteAt s k = 46
def NmJ3 (s : ByteArray) (g : Nat) (W : World) (a' : Act) (w' : World) : Prop := ∃ (k : Nat) (C : Int) (u : Nat → Value), a' = { tmps := nmT s g k (k : Int) C 0 u, defers := [] } ∧ w' = W ∧ k < s.size ∧ DigAt (sInts s) k ∧ NoughtNot (sInts s) k ∧ letB (byteAt s k) = true ∧ CntAt (sInts s) k C ∧ 0 ≤ C ∧ C ≤ 2147483648
def NmJ4 (s : ByteArray) (g : Nat) (W : World) (a' : Act) (w' : World) : Prop := ∃ (k : Nat) (d C : Int) (u : Nat → Value), a' = { tmps := nmT s g k d C 0 u, defers := [] } ∧ w' = W ∧ k ≤ s.size ∧ numR (sInts s) = if d ≤ 15 ∧ runB 46 (byteAt s k) = false then (1, strOfNums ((sInts s).take k), 0, k) else (0, ⟨#[]⟩, 0, 0)
def NmJ5 (s : ByteArray) (g : Nat) (W : World) (a' : Act) (w' : World) : Prop := ∃ (k D : Nat) (d C : Int) (u : Nat → Value), a' = { tmps := nmT s g k d C 0 u, defers := [] } ∧ w' = W ∧ k < s.size ∧ FracAt (sInts s) D k ∧ NoughtNot (sInts s) D ∧ digB (byteAt s k) = true ∧ d = (k : Int) - 1
section
variable {s : ByteArray} {g : Nat} {W : World} {a' : Act} {w' : World}
theorem nmJ0 (k : Nat) (C : Int) (h : a' = { tmps := nmT s g k 0 C 0 (upon a'), defers := [] }) (h1 : w' = W) (h2 : k < s.size) (h3 : RunAt digB (sInts s) k) (h4 : digB (byteAt s k) = true) (h5 : CntAt (sInts s) k C) (h6 : 0 ≤ C ∧ C ≤ 2147483648) : NmJ0 s g W a' w' := ⟨k, C, _, h, h1, h2, h3, h4, h5, h6⟩
theorem nmJ1 (k : Nat) (d C S : Int) (h : a' = { tmps := nmT s g k d C S (upon a'), defers := [] }) (h1 : w' = W) (h2 : numR (sInts s) = (0, ⟨#[]⟩, 0, 0)) : NmJ1 s g W a' w' := ⟨k, d, C, S, _, h, h1, h2⟩
theorem nmJ2 (k : Nat) (C : Int) (h : a' = { tmps := nmT s g k (k : Int) C 0 (upon a'), defers := [] }) (h1 : w' = W) (h2 : k < s.size) (h3 : DigAt (sInts s) k) (h4 : NoughtNot (sInts s) k) (h5 : byteAt s k = 46) : NmJ2 s g W a' w' := ⟨k, C, _, h, h1, h2, h3, h4, h5⟩
theorem nmJ3 (k : Nat) (C : Int) (h : a' = { tmps := nmT s g k (k : Int) C 0 (upon a'), defers := [] }) (h1 : w' = W) (h2 : k < s.size) (h3 : DigAt (sInts s) k) (h4 : NoughtNot (sInts s) k) (h5 : letB (byteAt s k) = true) (h6 : CntAt (sInts s) k C) (h7 : 0 ≤ C ∧ C ≤ 2147483648) : NmJ3 s g W a' w' := ⟨k, C, _, h, h1, h2, h3, h4, h5, h6, h7⟩
theorem nmJ4 (k : Nat) (d C : Int) (h : a' = { tmps := nmT s g k d C 0 (upon a'), defers := [] }) (h1 : w' = W) (h2 : k ≤ s.size) (h3 : numR (sInts s) = if d ≤ 15 ∧ runB 46 (byteAt s k) = false then (1, strOfNums ((sInts s).take k), 0, k) else (0, ⟨#[]⟩, 0, 0)) : NmJ4 s g W a' w' := ⟨k, d, C, _, h, h1, h2, h3⟩
theorem nmJ5 (k D : Nat) (d C : Int) (h : a' = { tmps := nmT s g k d C 0 (upon a'), defers := [] }) (h1 : w' = W) (h2 : k < s.size) (h3 : FracAt (sInts s) D k) (h4 : NoughtNot (sInts s) D) (h5 : digB (byteAt s k) = true) (h6 : d = (k : Int) - 1) : NmJ5 s g W a' w' := ⟨k, D, d, C, _, h, h1, h2, h3, h4, h5, h6⟩
end
def nmM (s : ByteArray) (a' : Act) (_ : World) : Nat := 1 + (s.size + 2 - (intOf (a'.tmps.getD 4 undef)).toNat)
theorem cnt_next {l : List Int} {k : Nat} {C C2 : Int} (h : CntAt l k C) (hr : RunAt digB l k) (hk : k < l.length) (hd : digB (l.getD k 0) = true) (h2 : C2 = min (C * 10 + (l.getD k 0 - 48)) 2147483648) : CntAt l (k + 1) C2 := by
  unfold CntAt at h ⊢
  rw [val_next l k hk]
  have h0 := val_pos hr k (Nat.le_refl _)
  have h1 := dig_bd hd
  omega
set_option maxHeartbeats 8000000 in
theorem f_number (s : ByteArray) (w : World) (hs : s.size ≤ 4096) (h0 : 1 ≤ s.size) (hd0 : digB (byteAt s 0) = true) : Calls Try.prog 27 #[.string s] w fun e w' => TkOut (numR (sInts s)) w e w' := by
  have HB : Hid (Bx w (w.alloc (.cells #[.int .i64 0, .int .i64 0, .string ⟨#[]⟩, .int .i64 0] 32)) w.heap.size) := Bx.made w
  have HSL : Hid ((sInts s).length = s.size) := sInts_len s
  have HD0 : Hid (digB (byteAt s 0) = true) := hd0
  clear hd0
  generalize hW : (w.alloc (.cells #[.int .i64 0, .int .i64 0, .string ⟨#[]⟩, .int .i64 0] 32)) = W at HB
  have HW : Hid ((w.alloc (.cells #[.int .i64 0, .int .i64 0, .string ⟨#[]⟩, .int .i64 0] 32)) = W) := hW
  clear hW
  generalize hG : w.heap.size = G at HB
  have HG : Hid (w.heap.size = G) := hG
  clear hG
  go_enter Try.func27, Try.ntmps27
  go_wp2_with fail
  rw [HW.out, HG.out]
  refine wp_scope_num (NmJ0 s G W) (NmJ1 s G W) (NmJ2 s G W) (NmJ3 s G W) (NmJ4 s G W) (NmJ5 s G W) (nmM s) (fun _ _ => 0) (nmM s) (nmM s) (nmM s) (nmM s) rfl rfl rfl rfl rfl rfl ?p1 ?p4 ?p3 ?p5 ?p2 ?p0 ?first
  case p1 =>
    rintro a' wr ⟨k, d, C, S, u, rfl, rfl, ht⟩
    unfold nmT
    have HD : Hid (numR (sInts s) = (0, ⟨#[]⟩, 0, 0)) := ht
    obtain ⟨r0, r1, r2, r3⟩ := cell4 HB.out.row
    have f0 := free_row HB.out.row 0
    have f1 := free_row HB.out.row 1
    have f2 := free_row HB.out.row 2
    have f3 := free_row HB.out.row 3
    clear ht
    go_wp2_with fail
    simp only [onto, jumps]
    refine bodyPost_ret (v := .tuple #[tokV 0 0 ⟨#[]⟩ 0, .int .i64 (0 : Int)]) (results_row_tmp Try.results27 _ _ _ G 32 _ (0, 0) _ rfl (row4 HB.out.row (.int .i64 0) (.int .i64 0) (.string ⟨#[]⟩) (.int .i64 0)) Try.underlying32 isz32) rfl ?_
    exact tk_ret (n := 0) HB.out HD.out
  case p4 =>
    rintro on1 a' wr ⟨k, d, C, u, rfl, rfl, hk, ht⟩
    clear on1
    unfold nmT
    have HBA := f_byteAt s k
    have HRB := f_runByte (byteAt s k)
    rw [rb_run] at HRB
    have hsl := sl_hi s k hk
    have HTD : Hid (numR (sInts s) = if d ≤ 15 ∧ runB 46 (byteAt s k) = false then (1, strOfNums ((sInts s).take k), 0, k) else (0, ⟨#[]⟩, 0, 0)) := ht
    clear ht
    generalize strOfNums ((sInts s).take k) = t at hsl HTD
    generalize runB 46 (byteAt s k) = b at HTD HRB
    generalize byteAt s k = c at HBA HRB
    by_cases hd : d ≤ 15
    · have q1 : decide ((15 : Int) < d) = false := by simp; omega
      cases b with
      | true =>
        have HN : Hid (numR (sInts s) = (0, ⟨#[]⟩, 0, 0)) := by show _ = _; rw [HTD.out, if_neg (by simp)]
        clear HTD hd
        go_wp2_with (first | (go_at_call 33; refine (HBA _).mono ?_; rintro e w1 ⟨rfl, rfl⟩) | (go_at_call 35; refine (HRB _).mono ?_; rintro e w1 ⟨rfl, rfl⟩))
        go_step3
        exact ⟨nmJ1 k d C 0 rfl rfl HN.out, by simp [sel6, nmM, intOf] <;> omega⟩
      | false =>
        have HN : Hid (numR (sInts s) = (1, t, 0, k)) := by show _ = _; rw [HTD.out, if_pos ⟨hd, rfl⟩]
        obtain ⟨r0, r1, r2, r3⟩ := cell4 HB.out.row
        have f0 := free_row HB.out.row 0
        have f1 := free_row HB.out.row 1
        have f2 := free_row HB.out.row 2
        have f3 := free_row HB.out.row 3
        clear HTD hd
        go_wp2_with (first | (go_at_call 33; refine (HBA _).mono ?_; rintro e w1 ⟨rfl, rfl⟩) | (go_at_call 35; refine (HRB _).mono ?_; rintro e w1 ⟨rfl, rfl⟩))
        simp only [onto, jumps]
        refine bodyPost_ret (v := .tuple #[tokV 1 0 t 0, .int .i64 (k : Int)]) (results_row_tmp Try.results27 _ _ _ G 32 _ (0, 0) _ rfl (row4 HB.out.row (.int .i64 1) (.int .i64 0) (.string t) (.int .i64 0)) Try.underlying32 isz32) rfl ?_
        exact tk_ret HB.out HN.out
    · have q1 : decide ((15 : Int) < d) = true := by simp; omega
      have HN : Hid (numR (sInts s) = (0, ⟨#[]⟩, 0, 0)) := by show _ = _; rw [HTD.out, if_neg (fun h => hd h.1)]
      clear HTD hd
      go_wp2_with (first | (go_at_call 33; refine (HBA _).mono ?_; rintro e w1 ⟨rfl, rfl⟩) | (go_at_call 35; refine (HRB _).mono ?_; rintro e w1 ⟨rfl, rfl⟩))
      go_step3
      exact ⟨nmJ1 k d C 0 rfl rfl HN.out, by simp [sel6, nmM, intOf] <;> omega⟩
  case p3 =>
    rintro on4 a' wr ⟨k, C, u, rfl, rfl, hk, hd, hnn, hc, hcn, hC0, hC1⟩
    clear on4
    unfold nmT
    have HSE := f_seconds (byteAt s k)
    have HBA := f_byteAt s (k + 1)
    have HRB := f_runByte (byteAt s (k + 1))
    rw [rb_run] at HRB
    have hidx := idx9 s k hk
    have hsl := sl_hi s (k + 1) hk
    rw [show ((k + 1 : Nat) : Int) = (k : Int) + 1 by omega] at hsl
    have hub := unit_bd (byteAt s k)
    have HNU : Hid (∀ v, v = C * unitR (byteAt s k) → numR (sInts s) = if 1 ≤ v ∧ v ≤ 2147483647 ∧ runB 46 (byteAt s (k + 1)) = false then (2, strOfNums ((sInts s).take (k + 1)), v, k + 1) else (0, ⟨#[]⟩, 0, 0)) := fun v hv => num_unit hd hnn hc C v hcn hv
    clear hd hnn hc hcn
    generalize strOfNums ((sInts s).take (k + 1)) = t at hsl HNU
    generalize runB 46 (byteAt s (k + 1)) = b at HNU HRB
    generalize byteAt s (k + 1) = c1 at HBA HRB
    generalize unitR (byteAt s k) = U at HSE HNU hub
    generalize byteAt s k = c at HSE hidx
    have hv : ∃ v, v = C * U ∧ 0 ≤ v ∧ v ≤ 185542587187200 := ⟨_, rfl, by rcases hub with h | h | h | h | h <;> rw [h] <;> omega, by rcases hub with h | h | h | h | h <;> rw [h] <;> omega⟩
    obtain ⟨v, ev, hv0, hv1⟩ := hv
    have HN0 : Hid (numR (sInts s) = if 1 ≤ v ∧ v ≤ 2147483647 ∧ b = false then (2, t, v, k + 1) else (0, ⟨#[]⟩, 0, 0)) := HNU.out v ev
    have HWR : Hid (wrap64 (C * U) = v ∧ IntKind.i64.wrap (C * U) = v) := by
      have hwr : wrap64 (C * U) = v := by rw [← ev]; exact IntWalk.wrap64_in _ (by omega)
      exact ⟨hwr, by rw [← wrap64_is]; exact hwr⟩
    have hk1 : k + 1 ≤ s.size := hk
    clear HNU hub ev hC0 hC1
    go_upto_region 19 with (go_at_call 34; refine (HSE _).mono ?_; rintro e w1 ⟨rfl, rfl⟩)
    first | rw [HWR.out.1] | rw [HWR.out.2]
    clear HWR HSE hidx
    by_cases h1 : v < 1
    · have q1 : decide (v < 1) = true := by simpa using h1
      have HN : Hid (numR (sInts s) = (0, ⟨#[]⟩, 0, 0)) := by show _ = _; rw [HN0.out, if_neg (by omega)]
      clear HN0
      go_wp2_with (first | (go_at_call 33; refine (HBA _).mono ?_; rintro e w1 ⟨rfl, rfl⟩) | (go_at_call 35; refine (HRB _).mono ?_; rintro e w1 ⟨rfl, rfl⟩))
      go_step3
      exact ⟨nmJ1 (k + 1) (k : Int) C v rfl rfl HN.out, by simp [sel6, nmM, intOf] <;> omega⟩
    have q1 : decide (v < 1) = false := by simpa using h1
    by_cases h2 : v ≤ 2147483647
    · have q2 : decide (2147483647 < v) = false := by simp; omega
      cases b with
      | true =>
        have HN : Hid (numR (sInts s) = (0, ⟨#[]⟩, 0, 0)) := by show _ = _; rw [HN0.out, if_neg (by simp)]
        clear HN0
        go_wp2_with (first | (go_at_call 33; refine (HBA _).mono ?_; rintro e w1 ⟨rfl, rfl⟩) | (go_at_call 35; refine (HRB _).mono ?_; rintro e w1 ⟨rfl, rfl⟩))
        go_step3
        exact ⟨nmJ1 (k + 1) (k : Int) C v rfl rfl HN.out, by simp [sel6, nmM, intOf] <;> omega⟩
      | false =>
        have HN : Hid (numR (sInts s) = (2, t, v, k + 1)) := by show _ = _; rw [HN0.out, if_pos ⟨by omega, h2, rfl⟩]
        obtain ⟨r0, r1, r2, r3⟩ := cell4 HB.out.row
        have f0 := free_row HB.out.row 0
        have f1 := free_row HB.out.row 1
        have f2 := free_row HB.out.row 2
        have f3 := free_row HB.out.row 3
        clear HN0
        go_wp2_with (first | (go_at_call 33; refine (HBA _).mono ?_; rintro e w1 ⟨rfl, rfl⟩) | (go_at_call 35; refine (HRB _).mono ?_; rintro e w1 ⟨rfl, rfl⟩))
        simp only [onto, jumps]
        refine bodyPost_ret (v := .tuple #[tokV 2 0 t v, .int .i64 ((k : Int) + 1)]) (results_row_tmp Try.results27 _ _ _ G 32 _ (0, 0) _ rfl (row4 HB.out.row (.int .i64 2) (.int .i64 0) (.string t) (.int .i64 v)) Try.underlying32 isz32) rfl ?_
        have ek : (k : Int) + 1 = ((k + 1 : Nat) : Int) := by omega
        rw [ek]
        exact tk_ret HB.out HN.out
    · have q2 : decide (2147483647 < v) = true := by simp; omega
      have HN : Hid (numR (sInts s) = (0, ⟨#[]⟩, 0, 0)) := by show _ = _; rw [HN0.out, if_neg (by omega)]
      clear HN0
      go_wp2_with (first | (go_at_call 33; refine (HBA _).mono ?_; rintro e w1 ⟨rfl, rfl⟩) | (go_at_call 35; refine (HRB _).mono ?_; rintro e w1 ⟨rfl, rfl⟩))
      go_step3
      exact ⟨nmJ1 (k + 1) (k : Int) C v rfl rfl HN.out, by simp [sel6, nmM, intOf] <;> omega⟩
  case p5 =>
    rintro on3 a' wr ⟨k, D, d, C, u, rfl, rfl, hk, hfr, hnn, hdg, rfl⟩
    clear on3
    unfold nmT
    have HBA := f_byteAt s (k + 1)
    have HDG := fun w => f_digit (byteAt s (k + 1)) _ w rfl
    obtain ⟨hk1, hf1⟩ := hfr.next hdg
    have HNN : Hid (NoughtNot (sInts s) D) := hnn
    have HF : Hid (FracAt (sInts s) D (k + 1)) := hf1
    have HLO : Hid (D + 1 ≤ k) := hfr.lo
    have hk2 : k + 1 ≤ s.size := hk
    clear hfr hdg hf1 hk1 hnn
    cases hb : digB (byteAt s (k + 1)) with
    | true =>
      have hlt : k + 1 < s.size := by
        have h1 := (HF.out.next hb).1
        rw [HSL.out] at h1
        exact h1
      have HBT : Hid (digB (byteAt s (k + 1)) = true) := hb
      rw [hb] at HDG
      clear hb
      go_wp2_with (first | (go_at_call 33; refine (HBA _).mono ?_; rintro e w1 ⟨rfl, rfl⟩) | (go_at_call 24; refine (HDG _).mono ?_; rintro e w1 ⟨rfl, rfl⟩))
      go_step3
      exact ⟨nmJ5 (k + 1) D (k : Int) C (by first | rfl | go_num) rfl hlt HF.out HNN.out HBT.out (by omega), by simp [sel6, nmM, intOf] <;> omega⟩
    | false =>
      have HN : Hid (numR (sInts s) = if (k : Int) ≤ 15 ∧ runB 46 (byteAt s (k + 1)) = false then (1, strOfNums ((sInts s).take (k + 1)), 0, k + 1) else (0, ⟨#[]⟩, 0, 0)) := by
        show _ = _
        have hlo := HLO.out
        cases hr : runB 46 (byteAt s (k + 1)) with
        | true => rw [num_dotX HF.out hb (.inr hr), if_neg (by simp)]
        | false =>
          rw [num_frac HF.out (by omega) HNN.out hr]
          by_cases h16 : k + 1 ≤ 16
          · rw [if_pos h16, if_pos ⟨by omega, rfl⟩]
          · rw [if_neg h16, if_neg (fun h => h16 (by omega))]
      rw [hb] at HDG
      clear hb
      go_wp2_with (first | (go_at_call 33; refine (HBA _).mono ?_; rintro e w1 ⟨rfl, rfl⟩) | (go_at_call 24; refine (HDG _).mono ?_; rintro e w1 ⟨rfl, rfl⟩))
      go_step3
      exact ⟨nmJ4 (k + 1) (k : Int) C (by first | rfl | go_num) rfl hk2 HN.out, by simp [sel6, nmM, intOf] <;> omega⟩
  case p2 =>
    rintro on5 a' wr ⟨k, C, u, rfl, rfl, hk, hdg, hnn, hdot⟩
    have ON : Hid (∀ n a w, NmJ5 s G wr a w → _) := on5
    clear on5
    unfold nmT
    have HBA := f_byteAt s (k + 1)
    have HDG := fun w => f_digit (byteAt s (k + 1)) _ w rfl
    have HNN : Hid (NoughtNot (sInts s) k) := hnn
    have HF : Hid (FracAt (sInts s) k (k + 1)) := FracAt.start hdg hdot
    have hk2 : k + 1 ≤ s.size := hk
    clear hdg hdot hnn
    cases hb : digB (byteAt s (k + 1)) with
    | false =>
      have HN : Hid (numR (sInts s) = (0, ⟨#[]⟩, 0, 0)) := num_dotX HF.out hb (.inl rfl)
      rw [hb] at HDG
      clear hb
      go_wp2_with (first | (go_at_call 33; refine (HBA _).mono ?_; rintro e w1 ⟨rfl, rfl⟩) | (go_at_call 24; refine (HDG _).mono ?_; rintro e w1 ⟨rfl, rfl⟩))
      go_step3
      exact ⟨nmJ1 (k + 1) (k : Int) C 0 rfl rfl HN.out, by simp [sel6, nmM, intOf] <;> omega⟩
    | true =>
      have hlt : k + 1 < s.size := by
        have h1 := (HF.out.next hb).1
        rw [HSL.out] at h1
        exact h1
      have HBT : Hid (digB (byteAt s (k + 1)) = true) := hb
      rw [hb] at HDG
      clear hb
      go_wp2_with (first | (go_at_call 33; refine (HBA _).mono ?_; rintro e w1 ⟨rfl, rfl⟩) | (go_at_call 24; refine (HDG _).mono ?_; rintro e w1 ⟨rfl, rfl⟩))
      go_step3
      refine ‹∀ (a : Act) (w : World), Code.wp Try.prog _ _ a w → _› _ _ (ON.out _ _ _ (nmJ5 (k + 1) k (k : Int) C rfl rfl hlt HF.out HNN.out HBT.out (by omega)) ?_)
      simp [nmM, intOf] <;> omega
  case p0 =>
    rintro on2 a' wr ⟨k, C, u, rfl, rfl, hk, hrun, hdg, hcn, hC0, hC1⟩
    clear on2
    unfold nmT
    have hidx := idx9 s k hk
    have hidx0 : ∀ w, (Instr.index 9 (.string s) (.int .i64 0)).run Try.prog w = .ok (.int .u8 (byteAt s 0)) w := idx9 s 0 (by omega)
    have HBA := f_byteAt s (k + 1)
    have HDG := fun w => f_digit (byteAt s (k + 1)) _ w rfl
    have HLT := fun w => f_letter (byteAt s (k + 1)) _ w rfl
    have hkl : k < (sInts s).length := by rw [HSL.out]; exact hk
    have HCN : Hid (∀ C2, C2 = min (C * 10 + (byteAt s k - 48)) 2147483648 → CntAt (sInts s) (k + 1) C2) := fun C2 h2 => cnt_next hcn hrun hkl hdg h2
    have hr1 := (RunAt.next (by decide) hrun hdg).2
    have HR1 : Hid (RunAt digB (sInts s) (k + 1)) := hr1
    have hbd := dig_bd hdg
    have HDA : Hid (digB (byteAt s (k + 1)) = false → DigAt (sInts s) (k + 1)) := fun h => ⟨hr1, by omega, h⟩
    have HN0 : Hid (¬ (byteAt s 0 = 48 ∧ 1 < k + 1) → NoughtNot (sInts s) (k + 1)) := fun h => h
    have HNX : Hid (digB (byteAt s (k + 1)) = false → (byteAt s 0 = 48 ∧ 1 < k + 1) → numR (sInts s) = (0, ⟨#[]⟩, 0, 0)) := fun h h2 => num_nought ⟨hr1, by omega, h⟩ h2.1 h2.2
    have HPL : Hid (digB (byteAt s (k + 1)) = false → ¬ (byteAt s 0 = 48 ∧ 1 < k + 1) → byteAt s (k + 1) ≠ 46 → letB (byteAt s (k + 1)) = false → numR (sInts s) = if ((k + 1 : Nat) : Int) ≤ 15 ∧ runB 46 (byteAt s (k + 1)) = false then (1, strOfNums ((sInts s).take (k + 1)), 0, k + 1) else (0, ⟨#[]⟩, 0, 0)) := fun h h2 h3 h4 => by
      have hrb : runB 46 (byteAt s (k + 1)) = false := by unfold runB; rw [h, h4, decide_eq_false h3]; rfl
      rw [num_plain ⟨hr1, by omega, h⟩ h2 hrb, hrb]
      by_cases h15 : k + 1 ≤ 15
      · rw [if_pos h15, if_pos ⟨by omega, rfl⟩]
      · rw [if_neg h15, if_neg (fun h => h15 (by omega))]
    clear hrun hdg hcn hr1 hkl
    have hk2 : k + 1 ≤ s.size := hk
    generalize hck : byteAt s k = ck at hidx HCN hbd
    clear hck
    obtain ⟨C2, eC2, hC20, hC21, hmin⟩ : ∃ C2, C2 = min (C * 10 + (ck - 48)) 2147483648 ∧ 0 ≤ C2 ∧ C2 ≤ 2147483648 ∧ (2147483648 < C * 10 + (ck - 48) ∧ C2 = 2147483648 ∨ C * 10 + (ck - 48) ≤ 2147483648 ∧ C2 = C * 10 + (ck - 48)) := ⟨_, rfl, by omega, by omega, by omega⟩
    have HC2 : Hid (CntAt (sInts s) (k + 1) C2) := HCN.out C2 eC2
    clear HCN eC2
    have HIF : Hid ((if 2147483648 < C * 10 + (ck - 48) then (2147483648 : Int) else C * 10 + (ck - 48)) = C2) := by
      show _ = _
      rcases hmin with ⟨h1, h2⟩ | ⟨h1, h2⟩
      · rw [if_pos h1, h2]
      · rw [if_neg (by omega), h2]
    have HK2 : Hid (digB (byteAt s (k + 1)) = true → k + 1 < s.size) := fun h => by
      have h1 := (RunAt.next (by decide) HR1.out h).1
      rw [HSL.out] at h1
      exact h1
    have HC2b : Hid (0 ≤ C2 ∧ C2 ≤ 2147483648) := ⟨hC20, hC21⟩
    clear hmin
    go_upto_region 6 with fail
    rw [HIF.out]
    clear HIF hidx hbd hC20 hC21 hC0 hC1
    generalize hc0 : byteAt s 0 = c0 at hidx0 HN0 HNX HPL
    clear hc0
    have HGB : Hid (∃ i, i = k + 1 ∧ byteAt s i = byteAt s (k + 1)) := ⟨k + 1, rfl, rfl⟩
    generalize hc1 : byteAt s (k + 1) = c1 at HBA HDG HLT HDA HNX HPL HK2 HGB
    have HC1 : Hid (byteAt s (k + 1) = c1) := hc1
    clear hc1
    cases hb : digB c1 with
    | true =>
      have hlt := HK2.out hb
      have HBT : Hid (digB (byteAt s (k + 1)) = true) := by show _ = _; rw [HC1.out, hb]
      rw [hb] at HDG
      clear hb HNX HPL HDA HN0 HK2
      go_wp2_with (first | (go_at_call 33; refine (HBA _).mono ?_; rintro e w1 ⟨rfl, rfl⟩) | (go_at_call 24; refine (HDG _).mono ?_; rintro e w1 ⟨rfl, rfl⟩) | (go_at_call 31; refine (HLT _).mono ?_; rintro e w1 ⟨rfl, rfl⟩))
      go_step3
      exact ⟨nmJ0 (k + 1) C2 rfl rfl hlt HR1.out HBT.out HC2.out HC2b.out, by simp [sel6, nmM, intOf] <;> omega⟩
    | false =>
      have HDD := hid (HDA.out hb)
      by_cases hn : c0 = 48 ∧ 1 < k + 1
      · have HN := hid (HNX.out hb hn)
        obtain ⟨rfl, hk1⟩ := hn
        have q1 : decide ((1 : Int) < (k : Int) + 1) = true := by simp; omega
        rw [hb] at HDG
        clear hb HNX HPL HDA HN0 HK2
        go_wp2_with (first | (go_at_call 33; refine (HBA _).mono ?_; rintro e w1 ⟨rfl, rfl⟩) | (go_at_call 24; refine (HDG _).mono ?_; rintro e w1 ⟨rfl, rfl⟩) | (go_at_call 31; refine (HLT _).mono ?_; rintro e w1 ⟨rfl, rfl⟩))
        go_step3
        exact ⟨nmJ1 (k + 1) 0 C2 0 rfl rfl HN.out, by simp [sel6, nmM, intOf] <;> omega⟩
      · have HNN := hid (HN0.out hn)
        have q1 : (c0 == 48) = true ∧ decide ((1 : Int) < (k : Int) + 1) = false ∨ (c0 == 48) = false := by
          by_cases h48 : c0 = 48
          · exact .inl ⟨by simpa using h48, by simp; omega⟩
          · exact .inr (by simpa using h48)
        by_cases hdot : c1 = 46
        · have HDOT : Hid (byteAt s (k + 1) = 46) := by show _ = _; rw [HC1.out, hdot]
          have hlt : k + 1 < s.size := by have h1 := dot_lt (l := sInts s) (D := k + 1) HDOT.out; rw [HSL.out] at h1; exact h1
          rw [hb] at HDG
          clear hb HNX HPL HDA HN0 HK2 hn HC1 HGB
          subst hdot
          rcases q1 with ⟨q1, q2⟩ | q1
          all_goals
            go_wp2_with (first | (go_at_call 33; refine (HBA _).mono ?_; rintro e w1 ⟨rfl, rfl⟩) | (go_at_call 24; refine (HDG _).mono ?_; rintro e w1 ⟨rfl, rfl⟩) | (go_at_call 31; refine (HLT _).mono ?_; rintro e w1 ⟨rfl, rfl⟩))
            go_step3
            exact ⟨nmJ2 (k + 1) C2 rfl rfl hlt HDD.out HNN.out HDOT.out, by simp [sel6, nmM, intOf] <;> omega⟩
        · have q3 : (c1 == 46) = false := by simpa using hdot
          cases hl : letB c1 with
          | true =>
            have HL : Hid (letB (byteAt s (k + 1)) = true) := by show _ = _; rw [HC1.out, hl]
            have hlt : k + 1 < s.size := by
              have h1 := getD_end (l := sInts s) (k := k + 1) (by show byteAt s (k + 1) ≠ 0; rw [HC1.out]; rintro rfl; revert hl; decide)
              rw [HSL.out] at h1
              exact h1
            rw [hb] at HDG
            rw [hl] at HLT
            clear hb hl HNX HPL HDA HN0 HK2 hn HC1 HGB hdot
            rcases q1 with ⟨q1, q2⟩ | q1
            all_goals
              go_wp2_with (first | (go_at_call 33; refine (HBA _).mono ?_; rintro e w1 ⟨rfl, rfl⟩) | (go_at_call 24; refine (HDG _).mono ?_; rintro e w1 ⟨rfl, rfl⟩) | (go_at_call 31; refine (HLT _).mono ?_; rintro e w1 ⟨rfl, rfl⟩))
              go_step3
              exact ⟨nmJ3 (k + 1) C2 rfl rfl hlt HDD.out HNN.out HL.out HC2.out HC2b.out, by simp [sel6, nmM, intOf] <;> omega⟩
          | false =>
            have HN := HPL.out hb hn hdot hl
            rw [← HC1.out] at HN
            have HNF := hid HN
            rw [hb] at HDG
            rw [hl] at HLT
            clear hb hl HNX HPL HDA HN0 HK2 hn HC1 HGB hdot HN
            rcases q1 with ⟨q1, q2⟩ | q1
            all_goals
              go_wp2_with (first | (go_at_call 33; refine (HBA _).mono ?_; rintro e w1 ⟨rfl, rfl⟩) | (go_at_call 24; refine (HDG _).mono ?_; rintro e w1 ⟨rfl, rfl⟩) | (go_at_call 31; refine (HLT _).mono ?_; rintro e w1 ⟨rfl, rfl⟩))
              go_step3
              exact ⟨nmJ4 (k + 1) ((k + 1 : Nat) : Int) C2 rfl rfl hk2 HNF.out, by simp [sel6, nmM, intOf] <;> omega⟩
  case first =>
    intro go_on
    have GO : Hid (∀ a' w', NmJ0 s G W a' w' → _) := go_on
    clear go_on
    go_wp2
    go_step3
    refine ‹∀ (a : Act) (w : World), Code.wp Try.prog _ _ a w → _› _ _ (GO.out _ _ ?_)
    exact nmJ0 0 0 rfl rfl h0 (RunAt.zero _ _) HD0.out (by show (0 : Int) = min 0 2147483648; decide) (by omega)
end Go.Proofs.Ytkocdmkojoefoaa
