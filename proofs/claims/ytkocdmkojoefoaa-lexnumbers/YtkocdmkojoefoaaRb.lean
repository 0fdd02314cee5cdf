/- The document's Span. -/
import Derived.Test.YtkocdmkojoefoaaRa
namespace Go.Proofs.Ytkocdmkojoefoaa
open Go.RowKit
set_option linter.unusedVariables false
set_option maxRecDepth 20000

theorem val_up {l : List Int} {D : Nat} (h : RunAt digB l D) : ∀ k, k ≤ D → valL (l.take k) < (10 : Int) ^ k := by
  intro k
  induction k with
  | zero => intro _; simp [valL]
  | succ k ih =>
    intro hk
    have h1 := h.1
    rw [val_next l k (by omega), Int.pow_succ]
    have := ih (by omega)
    have := dig_bd (h.at k (by omega))
    omega
theorem pow_le10 {k : Nat} (h : k ≤ 10) : (10 : Int) ^ k ≤ 10000000000 := by
  have : k = 0 ∨ k = 1 ∨ k = 2 ∨ k = 3 ∨ k = 4 ∨ k = 5 ∨ k = 6 ∨ k = 7 ∨ k = 8 ∨ k = 9 ∨ k = 10 := by omega
  rcases this with h | h | h | h | h | h | h | h | h | h | h <;> subst h <;> decide
/-- What Span answers: seconds, and whether it is one. -/
def SpOut (l : List Int) (w : World) (e : Ending) (w' : World) : Prop :=
  ∃ v, e = .returned (.tuple #[.int .i64 v, .bool (decide (1 ≤ spanR l))]) ∧ (1 ≤ spanR l → v = spanR l) ∧ w = w'
set_option maxHeartbeats 4000000 in
theorem r_span (s : ByteArray) (w : World) (hs : s.size ≤ 4096) : Calls Try.prog 18 #[.string s] w fun e w' => SpOut (sInts s) w e w' := by
  have HSL : Hid ((sInts s).length = s.size) := sInts_len s
  by_cases hn : 2 ≤ s.size ∧ s.size ≤ 11
  · obtain ⟨n, en⟩ : ∃ n, s.size = n + 1 := ⟨s.size - 1, by omega⟩
    have hn1 : 1 ≤ n ∧ n ≤ 10 := by omega
    have hsl := sl_hi s n (by omega)
    have q0 : (s.size : Int) - 1 = (n : Int) := by omega
    have q1 : decide ((n : Int) < 1) = false := by simp; omega
    have q2 : decide ((10 : Int) < (n : Int)) = false := by simp; omega
    have HWH : Hid (∀ w, Calls Try.prog 30 #[.string (strOfNums ((sInts s).take n))] w fun e w' => e = .returned (.bool (wholeB ((sInts s).take n))) ∧ w = w') := fun w => by
      have h := r_whole (strOfNums ((sInts s).take n)) w (by rw [strOfNums_size, List.length_take, sInts_len]; omega)
      rwa [sInts_str (fun z hz => sInts_byte s z (List.mem_of_mem_take hz))] at h
    have HX : Hid (spanR (sInts s) = if wholeB ((sInts s).take n) = true then (if 1 ≤ valL ((sInts s).take n) * unitR (byteAt s n) ∧ valL ((sInts s).take n) * unitR (byteAt s n) ≤ 2147483647 then valL ((sInts s).take n) * unitR (byteAt s n) else 0) else 0) := by
      show _ = _
      unfold spanR
      rw [sInts_len, en, show n + 1 - 1 = n by omega]
      by_cases hw : wholeB ((sInts s).take n) = true
      · rw [if_pos ⟨by omega, by omega, hw⟩, if_pos hw]; rfl
      · rw [if_neg (fun h => hw h.2.2), if_neg hw]
    cases hw : wholeB ((sInts s).take n) with
    | false =>
      have HF : Hid (spanR (sInts s) = 0) := by show _ = _; rw [HX.out, hw]; rfl
      have HWC := HWH.out
      rw [hw] at HWC
      clear hw HX HWH
      generalize strOfNums ((sInts s).take n) = t at hsl HWC
      go_enter Try.func18, Try.ntmps18
      go_wp2_with (go_at_call 30; refine (HWC _).mono ?_; rintro e w1 ⟨rfl, rfl⟩)
      refine bodyPost_ret (v := .tuple #[.int .i64 0, .bool false]) (by simp [results, Try.results18, go_sem]) rfl ?_
      exact ⟨0, by rw [HF.out]; rfl, fun h => by rw [HF.out] at h; omega, rfl⟩
    | true =>
      have HRD : Hid (RunAt digB (sInts s) n) := ⟨by rw [sInts_len]; omega, ((whole_iff _).1 hw).1⟩
      have HX2 : Hid (spanR (sInts s) = if 1 ≤ valL ((sInts s).take n) * unitR (byteAt s n) ∧ valL ((sInts s).take n) * unitR (byteAt s n) ≤ 2147483647 then valL ((sInts s).take n) * unitR (byteAt s n) else 0) := by show _ = _; rw [HX.out, hw]; rfl
      have HWC := HWH.out
      rw [hw] at HWC
      clear hw HX HWH
      generalize strOfNums ((sInts s).take n) = t at hsl HWC
      have hidxn := idx9 s n (by omega)
      have hle : n < s.size := by omega
      clear hn en
      go_enter Try.func18, Try.ntmps18
      go_wp2_with (go_at_call 30; refine (HWC _).mono ?_; rintro e w1 ⟨rfl, rfl⟩)
      clear q0
      go_loopw [5, 6] (fun t5 t6 wr => ∃ (k : Nat) (v : Int), k ≤ n ∧ t6 = .int .i64 (k : Int) ∧ t5 = .int .i64 v ∧ v = valL ((sInts s).take k) ∧ wr = w) (fun _ t6 _ => n - (intOf t6).toNat)
      case atStart => exact ⟨0, 0, Nat.zero_le _, rfl, rfl, rfl, rfl⟩
      case round =>
        obtain ⟨k, v, hk, rfl, rfl, hv, rfl⟩ := hrel
        have HV : Hid (v = valL ((sInts s).take k)) := hv
        have hv0 : 0 ≤ v := by rw [hv]; exact val_pos HRD.out k hk
        have hv1 : v < 10000000000 := by
          rw [hv]
          have h1 := val_up HRD.out k hk
          have h2 := pow_le10 (k := k) (by omega)
          omega
        clear hv
        by_cases hlt : k < n
        · have hki : (k : Int) < (n : Int) := by omega
          have hidx := idx9 s k (by omega)
          have hb := dig_bd (HRD.out.at k hlt)
          have HN : Hid (10 * v + (byteAt s k - 48) = valL ((sInts s).take (k + 1))) := by
            show _ = _
            rw [val_next _ k (by rw [HSL.out]; omega), ← HV.out]
            rfl
          have hb2 : 48 ≤ byteAt s k ∧ byteAt s k ≤ 57 := hb
          generalize byteAt s k = c at hidx hb2 HN
          clear hb hidxn
          go_wp2
          go_roundw
          case rel => exact ⟨k + 1, _, by omega, by go_num, rfl, HN.out, trivial⟩
          case measure => simp [intOf]; omega
        · have hki : ¬ (k : Int) < (n : Int) := by omega
          obtain rfl : k = n := by omega
          have HX3 : Hid (spanR (sInts s) = if 1 ≤ v * unitR (byteAt s k) ∧ v * unitR (byteAt s k) ≤ 2147483647 then v * unitR (byteAt s k) else 0) := by show _ = _; rw [HX2.out, ← HV.out]
          clear HX2 HV HRD
          generalize byteAt s k = c at hidxn HX3
          have fin : ∀ (U V : Int), unitR c = U → V = v * U → ∀ (b : Bool), b = (decide (1 ≤ V) && decide (V ≤ 2147483647)) → SpOut (sInts s) wr (Ending.returned (.tuple #[.int .i64 V, .bool b])) wr := by
            intro U V hU hV b hb
            have hX := HX3.out
            rw [hU, ← hV] at hX
            refine ⟨V, ?_, fun h => ?_, rfl⟩
            · rw [hb]
              congr 4
              by_cases h : 1 ≤ V ∧ V ≤ 2147483647
              · rw [if_pos h] at hX
                rw [hX, decide_eq_true h.1, decide_eq_true h.2]; rfl
              · rw [if_neg h] at hX
                rw [hX]
                by_cases h1 : 1 ≤ V
                · rw [decide_eq_true h1, decide_eq_false (by omega)]; rfl
                · rw [decide_eq_false h1]; rfl
            · by_cases h2 : 1 ≤ V ∧ V ≤ 2147483647
              · rw [if_pos h2] at hX; exact hX.symm
              · rw [if_neg h2] at hX; omega
          have FIN := hid fin
          clear fin HX3
          by_cases h115 : c = 115
          · subst h115
            have q9 : -9223372036854775808 ≤ v ∧ v ≤ 9223372036854775807 := by omega
            by_cases h1 : 1 ≤ v
            · have q1 : decide (1 ≤ v) = true := by simpa using h1
              by_cases h2 : v ≤ 2147483647
              · have q2 : decide (v ≤ 2147483647) = true := by simpa using h2
                have HF := hid (FIN.out 1 (v) rfl (by omega) true (by rw [q1, q2]; rfl))
                clear FIN hv0 hv1
                go_wp2
                refine bodyPost_ret (v := .tuple #[.int .i64 (v), .bool true]) (by simp [results, Try.results18, go_sem]) rfl ?_
                exact HF.out
              · have q2 : decide (v ≤ 2147483647) = false := by simpa using h2
                have HF := hid (FIN.out 1 (v) rfl (by omega) false (by rw [q1, q2]; rfl))
                clear FIN hv0 hv1
                go_wp2
                refine bodyPost_ret (v := .tuple #[.int .i64 (v), .bool false]) (by simp [results, Try.results18, go_sem]) rfl ?_
                exact HF.out
            · have q1 : decide (1 ≤ v) = false := by simpa using h1
              have HF := hid (FIN.out 1 (v) rfl (by omega) false (by rw [q1]; rfl))
              clear FIN hv0 hv1
              go_wp2
              refine bodyPost_ret (v := .tuple #[.int .i64 (v), .bool false]) (by simp [results, Try.results18, go_sem]) rfl ?_
              exact HF.out
          by_cases h109 : c = 109
          · subst h109
            have q9 : -9223372036854775808 ≤ v * 60 ∧ v * 60 ≤ 9223372036854775807 := by omega
            by_cases h1 : 1 ≤ v * 60
            · have q1 : decide (1 ≤ v * 60) = true := by simpa using h1
              by_cases h2 : v * 60 ≤ 2147483647
              · have q2 : decide (v * 60 ≤ 2147483647) = true := by simpa using h2
                have HF := hid (FIN.out 60 (v * 60) rfl (by omega) true (by rw [q1, q2]; rfl))
                clear FIN hv0 hv1
                go_wp2
                refine bodyPost_ret (v := .tuple #[.int .i64 (v * 60), .bool true]) (by simp [results, Try.results18, go_sem]) rfl ?_
                exact HF.out
              · have q2 : decide (v * 60 ≤ 2147483647) = false := by simpa using h2
                have HF := hid (FIN.out 60 (v * 60) rfl (by omega) false (by rw [q1, q2]; rfl))
                clear FIN hv0 hv1
                go_wp2
                refine bodyPost_ret (v := .tuple #[.int .i64 (v * 60), .bool false]) (by simp [results, Try.results18, go_sem]) rfl ?_
                exact HF.out
            · have q1 : decide (1 ≤ v * 60) = false := by simpa using h1
              have HF := hid (FIN.out 60 (v * 60) rfl (by omega) false (by rw [q1]; rfl))
              clear FIN hv0 hv1
              go_wp2
              refine bodyPost_ret (v := .tuple #[.int .i64 (v * 60), .bool false]) (by simp [results, Try.results18, go_sem]) rfl ?_
              exact HF.out
          by_cases h104 : c = 104
          · subst h104
            have q9 : -9223372036854775808 ≤ v * 3600 ∧ v * 3600 ≤ 9223372036854775807 := by omega
            by_cases h1 : 1 ≤ v * 3600
            · have q1 : decide (1 ≤ v * 3600) = true := by simpa using h1
              by_cases h2 : v * 3600 ≤ 2147483647
              · have q2 : decide (v * 3600 ≤ 2147483647) = true := by simpa using h2
                have HF := hid (FIN.out 3600 (v * 3600) rfl (by omega) true (by rw [q1, q2]; rfl))
                clear FIN hv0 hv1
                go_wp2
                refine bodyPost_ret (v := .tuple #[.int .i64 (v * 3600), .bool true]) (by simp [results, Try.results18, go_sem]) rfl ?_
                exact HF.out
              · have q2 : decide (v * 3600 ≤ 2147483647) = false := by simpa using h2
                have HF := hid (FIN.out 3600 (v * 3600) rfl (by omega) false (by rw [q1, q2]; rfl))
                clear FIN hv0 hv1
                go_wp2
                refine bodyPost_ret (v := .tuple #[.int .i64 (v * 3600), .bool false]) (by simp [results, Try.results18, go_sem]) rfl ?_
                exact HF.out
            · have q1 : decide (1 ≤ v * 3600) = false := by simpa using h1
              have HF := hid (FIN.out 3600 (v * 3600) rfl (by omega) false (by rw [q1]; rfl))
              clear FIN hv0 hv1
              go_wp2
              refine bodyPost_ret (v := .tuple #[.int .i64 (v * 3600), .bool false]) (by simp [results, Try.results18, go_sem]) rfl ?_
              exact HF.out
          by_cases h100 : c = 100
          · subst h100
            have q9 : -9223372036854775808 ≤ v * 86400 ∧ v * 86400 ≤ 9223372036854775807 := by omega
            by_cases h1 : 1 ≤ v * 86400
            · have q1 : decide (1 ≤ v * 86400) = true := by simpa using h1
              by_cases h2 : v * 86400 ≤ 2147483647
              · have q2 : decide (v * 86400 ≤ 2147483647) = true := by simpa using h2
                have HF := hid (FIN.out 86400 (v * 86400) rfl (by omega) true (by rw [q1, q2]; rfl))
                clear FIN hv0 hv1
                go_wp2
                refine bodyPost_ret (v := .tuple #[.int .i64 (v * 86400), .bool true]) (by simp [results, Try.results18, go_sem]) rfl ?_
                exact HF.out
              · have q2 : decide (v * 86400 ≤ 2147483647) = false := by simpa using h2
                have HF := hid (FIN.out 86400 (v * 86400) rfl (by omega) false (by rw [q1, q2]; rfl))
                clear FIN hv0 hv1
                go_wp2
                refine bodyPost_ret (v := .tuple #[.int .i64 (v * 86400), .bool false]) (by simp [results, Try.results18, go_sem]) rfl ?_
                exact HF.out
            · have q1 : decide (1 ≤ v * 86400) = false := by simpa using h1
              have HF := hid (FIN.out 86400 (v * 86400) rfl (by omega) false (by rw [q1]; rfl))
              clear FIN hv0 hv1
              go_wp2
              refine bodyPost_ret (v := .tuple #[.int .i64 (v * 86400), .bool false]) (by simp [results, Try.results18, go_sem]) rfl ?_
              exact HF.out
          have q1 : (c == 115) = false := by simpa using h115
          have q2 : (c == 109) = false := by simpa using h109
          have q3 : (c == 104) = false := by simpa using h104
          have q4 : (c == 100) = false := by simpa using h100
          have HF := hid (FIN.out 0 0 (by unfold unitR; rw [if_neg h115, if_neg h109, if_neg h104, if_neg h100]) (by omega) false (by decide))
          clear FIN hv0 hv1 h115 h109 h104 h100
          go_wp2
          refine bodyPost_ret (v := .tuple #[.int .i64 0, .bool false]) (by simp [results, Try.results18, go_sem]) rfl ?_
          exact HF.out
  · have HF : Hid (spanR (sInts s) = 0) := by
      show _ = _
      unfold spanR
      rw [HSL.out, if_neg (fun h => hn ⟨h.1, h.2.1⟩)]
    by_cases h1 : s.size < 2
    · have q1 : decide ((s.size : Int) - 1 < 1) = true := by simp; omega
      clear hn
      go_enter Try.func18, Try.ntmps18
      go_wp2
      refine bodyPost_ret (v := .tuple #[.int .i64 0, .bool false]) (by simp [results, Try.results18, go_sem]) rfl ?_
      exact ⟨0, by rw [HF.out]; rfl, fun h => by rw [HF.out] at h; omega, rfl⟩
    · have q1 : decide ((s.size : Int) - 1 < 1) = false := by simp; omega
      have q2 : decide ((10 : Int) < (s.size : Int) - 1) = true := by simp; omega
      clear hn
      go_enter Try.func18, Try.ntmps18
      go_wp2
      refine bodyPost_ret (v := .tuple #[.int .i64 0, .bool false]) (by simp [results, Try.results18, go_sem]) rfl ?_
      exact ⟨0, by rw [HF.out]; rfl, fun h => by rw [HF.out] at h; omega, rfl⟩
end Go.Proofs.Ytkocdmkojoefoaa
