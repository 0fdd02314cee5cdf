/- The program's own writeQuoted. -/
import Derived.Test.YtailaehpgmpaaabEbld
import Derived.Test.YtailaehpgmpaaabRtext
namespace Go.Proofs.Ytailaehpgmpaaab
open Go.RowKit
set_option linter.unusedVariables false

theorem QAt.le {s : ByteArray} {k : Nat} {zk : List Int} (h : QAt s k zk) : zk.length + 1 ≤ (quoteL (sInts s)).length := by
  unfold QAt at h
  have e : (sInts s).flatMap q1 = ((sInts s).take k).flatMap q1 ++ ((sInts s).drop k).flatMap q1 := by rw [← List.flatMap_append, List.take_append_drop]
  unfold quoteL
  rw [h, e]
  simp only [List.length_append, List.length_cons, List.length_nil]
  omega
theorem QAt.done {s : ByteArray} {k : Nat} {zk : List Int} (h : QAt s k zk) (hk : s.size ≤ k) : zk ++ [34] = quoteL (sInts s) := by
  unfold QAt at h
  unfold quoteL
  rw [h, List.take_of_length_le (by rw [sInts_len]; omega)]
theorem nl_cells : Lib.strCells ⟨#[92, 110]⟩ = bs [92, 110] := rfl

set_option maxHeartbeats 2000000 in
theorem g_quoted (B b : Nat) (cs : List Value) (s : ByteArray) (w : World) (h : Lib.IsBuilder 52 5 B b cs w) (hlen : cs.length + (quoteL (sInts s)).length ≤ 140737488355328) (hBw : B ≤ w.heap.size) (hs : s.size ≤ 140737488355328) :
    Calls Try.prog 27 #[.pointer (some ⟨b, 0, none⟩), .string s] w fun e w' => e = .returned (.tuple #[]) ∧ Lib.IsBuilder 52 5 B b (cs ++ bs (quoteL (sInts s))) w' ∧ Bel B b w w' := by
  have HLE : Hid (∀ k zk, QAt s k zk → cs.length + zk.length + 1 ≤ 140737488355328) := fun k zk hq => by have := hq.le; omega
  have HDN : Hid (∀ k zk, QAt s k zk → s.size ≤ k → zk ++ [34] = quoteL (sInts s)) := fun k zk hq hk => hq.done hk
  have H0 : Hid (QAt s 0 [34]) := by show _ = _; simp
  have HC := write_byte B b cs 34 w h (by have := HLE.out 0 _ H0.out; simp at this; omega) hBw
  have HBw : Hid (B ≤ w.heap.size) := hBw
  generalize quoteL (sInts s) = Y at HDN ⊢
  clear h hlen hBw
  go_enter Try.func27, Try.ntmps27
  go_wp2_with fail
  refine HC.mono ?_
  rintro e w1 ⟨rfl, hb1, hbel⟩
  have HB1 : Hid (Lib.IsBuilder 52 5 B b (cs ++ bs [34]) w1) := hb1
  have HE1 : Hid (Bel B b w w1) := hbel
  clear hb1 hbel
  go_wp2
  go_loopw [10] (fun i wr => ∃ (k : Nat) (zk : List Int), k ≤ s.size ∧ i = .int .i64 k ∧ Lib.IsBuilder 52 5 B b (cs ++ bs zk) wr ∧ QAt s k zk ∧ Bel B b w wr) (fun i _ => s.size - (intOf i).toNat)
  case atStart => exact ⟨0, [34], Nat.zero_le _, rfl, HB1.out, H0.out, HE1.out⟩
  case round =>
    obtain ⟨k, zk, hk, rfl, hb, hq, hbel⟩ := hrel
    have HB : Hid (Lib.IsBuilder 52 5 B b (cs ++ bs zk) wr) := hb
    have HQ : Hid (QAt s k zk) := hq
    have HE : Hid (Bel B b w wr) := hbel
    have HS : Hid (B ≤ wr.heap.size) := Nat.le_trans HBw.out hbel.size
    clear hb hq hbel H0 HB1 HE1
    by_cases hlt : k < s.size
    · have hidx := idx9 s k hlt
      have HN : Hid (QAt s (k + 1) (zk ++ q1 (byteAt s k))) := HQ.out.next hlt
      have HL := HLE.out _ _ HN.out
      have hki : (k : Int) < (s.size : Int) := by omega
      generalize byteAt s k = c at hidx HN HL
      unfold q1 at HN HL
      by_cases h1 : c = 34 ∨ c = 92
      · rw [if_pos h1] at HN HL
        simp only [List.length_append, List.length_cons, List.length_nil] at HL
        have HC1 : Hid (Calls Try.prog 25 #[.pointer (some ⟨b, 0, none⟩), .int .u8 92] wr fun e w' => e = .returned .nilIface ∧ Lib.IsBuilder 52 5 B b (cs ++ bs (zk ++ [92])) w' ∧ Bel B b wr w') := by
          have h := write_byte B b (cs ++ bs zk) 92 wr HB.out (by rw [List.length_append, bs_len]; omega) HS.out
          rw [List.append_assoc] at h
          rw [bs_app]
          exact h
        have HC2 : Hid (∀ w1, Lib.IsBuilder 52 5 B b (cs ++ bs (zk ++ [92])) w1 → B ≤ w1.heap.size → Calls Try.prog 25 #[.pointer (some ⟨b, 0, none⟩), .int .u8 c] w1 fun e w' => e = .returned .nilIface ∧ Lib.IsBuilder 52 5 B b (cs ++ bs (zk ++ [92, c])) w' ∧ Bel B b w1 w') := by
          intro w1 hb hB
          have h := write_byte B b (cs ++ bs (zk ++ [92])) c w1 hb (by rw [List.length_append, bs_len, List.length_append]; simp; omega) hB
          rw [List.append_assoc, show bs (zk ++ [92]) ++ [Value.int .u8 c] = bs (zk ++ [92, c]) by simp [bs]] at h
          exact h
        clear HL
        by_cases h2 : c = 92
        · subst h2
          clear h1
          go_wp2_with fail
          refine HC1.out.mono ?_
          rintro e w1 ⟨rfl, hb1, hbel1⟩
          have HB1 : Hid (Lib.IsBuilder 52 5 B b (cs ++ bs (zk ++ [92])) w1) := hb1
          have HE1 : Hid (Bel B b w w1) := HE.out.trans hbel1
          clear hb1 hbel1
          go_wp2_with fail
          refine (HC2.out w1 HB1.out (Nat.le_trans HBw.out HE1.out.size)).mono ?_
          rintro e w2 ⟨rfl, hb2, hbel2⟩
          have HB2 : Hid (Lib.IsBuilder 52 5 B b (cs ++ bs (zk ++ [92, 92])) w2) := hb2
          have HE2 : Hid (Bel B b w w2) := HE1.out.trans hbel2
          clear hb2 hbel2
          go_wp2
          go_roundw
          case rel => exact ⟨k + 1, _, by omega, by go_num, HB2.out, HN.out, HE2.out⟩
          case measure => simp [intOf]; omega
        · have h3 : c = 34 := by omega
          subst h3
          clear h1 h2
          go_wp2_with fail
          refine HC1.out.mono ?_
          rintro e w1 ⟨rfl, hb1, hbel1⟩
          have HB1 : Hid (Lib.IsBuilder 52 5 B b (cs ++ bs (zk ++ [92])) w1) := hb1
          have HE1 : Hid (Bel B b w w1) := HE.out.trans hbel1
          clear hb1 hbel1
          go_wp2_with fail
          refine (HC2.out w1 HB1.out (Nat.le_trans HBw.out HE1.out.size)).mono ?_
          rintro e w2 ⟨rfl, hb2, hbel2⟩
          have HB2 : Hid (Lib.IsBuilder 52 5 B b (cs ++ bs (zk ++ [92, 34])) w2) := hb2
          have HE2 : Hid (Bel B b w w2) := HE1.out.trans hbel2
          clear hb2 hbel2
          go_wp2
          go_roundw
          case rel => exact ⟨k + 1, _, by omega, by go_num, HB2.out, HN.out, HE2.out⟩
          case measure => simp [intOf]; omega
      · rw [if_neg h1] at HN HL
        by_cases h2 : c = 10
        · rw [if_pos h2] at HN HL
          simp only [List.length_append, List.length_cons, List.length_nil] at HL
          have HC1 : Hid (Calls Try.prog 26 #[.pointer (some ⟨b, 0, none⟩), .string ⟨#[92, 110]⟩] wr fun e w' => e = .returned (.tuple #[.int .i64 2, .nilIface]) ∧ Lib.IsBuilder 52 5 B b (cs ++ bs (zk ++ [92, 110])) w' ∧ Bel B b wr w') := by
            have h := write_string B b (cs ++ bs zk) ⟨#[92, 110]⟩ wr HB.out (by rw [List.length_append, bs_len]; show _ + 2 ≤ _; omega) HS.out
            rw [List.append_assoc, nl_cells, ← bs_app] at h
            exact h
          subst h2
          clear h1 HL
          go_wp2_with fail
          refine HC1.out.mono ?_
          rintro e w1 ⟨rfl, hb1, hbel1⟩
          have HB1 : Hid (Lib.IsBuilder 52 5 B b (cs ++ bs (zk ++ [92, 110])) w1) := hb1
          have HE1 : Hid (Bel B b w w1) := HE.out.trans hbel1
          clear hb1 hbel1
          go_wp2
          go_roundw
          case rel => exact ⟨k + 1, _, by omega, by go_num, HB1.out, HN.out, HE1.out⟩
          case measure => simp [intOf]; omega
        · rw [if_neg h2] at HN HL
          simp only [List.length_append, List.length_cons, List.length_nil] at HL
          have HC1 : Hid (Calls Try.prog 25 #[.pointer (some ⟨b, 0, none⟩), .int .u8 c] wr fun e w' => e = .returned .nilIface ∧ Lib.IsBuilder 52 5 B b (cs ++ bs (zk ++ [c])) w' ∧ Bel B b wr w') := by
            have h := write_byte B b (cs ++ bs zk) c wr HB.out (by rw [List.length_append, bs_len]; omega) HS.out
            rw [List.append_assoc] at h
            rw [bs_app]
            exact h
          have q1 : (c == 92) = false := by simp; omega
          have q2 : (c == 34) = false := by simp; omega
          have q3 : (c == 10) = false := by simpa using h2
          clear h1 h2 HL
          go_wp2_with fail
          refine HC1.out.mono ?_
          rintro e w1 ⟨rfl, hb1, hbel1⟩
          have HB1 : Hid (Lib.IsBuilder 52 5 B b (cs ++ bs (zk ++ [c])) w1) := hb1
          have HE1 : Hid (Bel B b w w1) := HE.out.trans hbel1
          clear hb1 hbel1
          go_wp2
          go_roundw
          case rel => exact ⟨k + 1, _, by omega, by go_num, HB1.out, HN.out, HE1.out⟩
          case measure => simp [intOf]; omega
    · have HY : Hid (zk ++ [34] = Y) := HDN.out k zk HQ.out (by omega)
      have HL := HLE.out _ _ HQ.out
      have HC1 : Hid (Calls Try.prog 25 #[.pointer (some ⟨b, 0, none⟩), .int .u8 34] wr fun e w' => e = .returned .nilIface ∧ Lib.IsBuilder 52 5 B b (cs ++ bs Y) w' ∧ Bel B b wr w') := by
        have h := write_byte B b (cs ++ bs zk) 34 wr HB.out (by rw [List.length_append, bs_len]; omega) HS.out
        rw [List.append_assoc] at h
        rw [← HY.out, bs_app]
        exact h
      have hki : ¬ (k : Int) < (s.size : Int) := by omega
      clear HL
      go_wp2_with fail
      refine HC1.out.mono ?_
      rintro e w1 ⟨rfl, hb1, hbel1⟩
      have HB1 : Hid (Lib.IsBuilder 52 5 B b (cs ++ bs Y) w1) := hb1
      have HE1 : Hid (Bel B b w w1) := HE.out.trans hbel1
      clear hb1 hbel1
      go_wp2
      go_end0
      exact ⟨rfl, HB1.out, HE1.out⟩
end Go.Proofs.Ytailaehpgmpaaab
