/- An armed disk does just as many writes as it was armed with, and no more until it is on again. -/
import Derived.Test.YtdnkdopjlobklaaDk14
namespace Go.Proofs.Ytdnkdopjlobklaa
open Go.RowKit Go.Maps
set_option linter.unusedVariables false
set_option maxRecDepth 20000

theorem v_appendArmedLit (w0 : World) (base d mb n : Nat) (ah kp wn : Int) (V : Cont) (B : Nat → Prop) (s : ByteArray) (zs : List Int) (w : World) (h : DV w base d mb n false true ah kp wn V B) (hf : From w0 w B) (hb0 : base = w0.heap.size) (ha : 0 < ah ∧ ah ≤ 9223372036854775807) (hnm : nameB s = true) (hn : n < 1048576) (hw : 0 ≤ wn ∧ wn ≤ 1000000000) (hby : ∀ z ∈ zs, 0 ≤ z ∧ z ≤ 255) (hlen : (oldV V s).1.length + zs.length ≤ 4194304) :
    Calls Try.prog 15 #[.pointer (some ⟨d, 0, none⟩), .string s, .slice (some ⟨w.heap.size, 0, none⟩) zs.length zs.length] (w.alloc (.cells (byteE.flat zs).toArray 5)) fun e w' => e = .returned (.int .i64 0) ∧ ∃ n' B', n' ≤ n + 1 ∧ DV w' base d mb n' false true (ah - 1) kp (wn + 1) (setV V s (some ((oldV V s).1 ++ zs, (oldV V s).2))) B' ∧ From w0 w' B' := by
  have hg := World.grownBy_alloc w (.cells (byteE.flat zs).toArray 5) none
  obtain ⟨h1, h2⟩ := h.lts
  refine (v_appendArmed base d mb n ah kp wn V B s ⟨w.heap.size, 0, none⟩ zs zs.length zs.length _ (h.kept hg) ha hnm hn hw (blit w zs) rfl hby hlen (by rw [hb0]; exact Nat.le_trans hf.1.size hg.size) (by show w.heap.size ≠ mb; omega) (by show w.heap.size ≠ d; omega)).mono ?_
  rintro e w' ⟨rfl, n', B', hn', hd', hst⟩
  exact ⟨rfl, n', B', hn', hd', (hf.grown hg).step hst⟩
def nmF : ByteArray := ⟨#[102]⟩
def nmG : ByteArray := ⟨#[103]⟩
theorem nameF : nameB nmF = true := by decide
theorem nameG : nameB nmG = true := by decide
theorem neGF : nmG ≠ nmF := by decide
/-- After k writes of the loop. -/
def ArmedAt (w0 w : World) (d mb : Nat) (N keep : Int) (k : Nat) : Prop := ∃ n V B, n ≤ k ∧ DV w w0.heap.size d mb n false true (N - k) keep k V B ∧ From w0 w B ∧ (oldV V nmF).1.length = k ∧ (0 < k → ∃ Z Y, V nmF = some (Z, Y)) ∧ V nmG = none
set_option maxHeartbeats 4000000 in
theorem diskArmed_walk (writes keep : Int) (W : World) (w0 : (Lit.int .i64 writes).wf = true) (w1 : (Lit.int .i64 keep).wf = true) :
    Calls Try.prog 6 #[.int .i64 writes, .int .i64 keep] W fun e w' => e = .returned (.bool true) ∧ Below W.heap.size W w' := by
  have hk : -9223372036854775808 ≤ keep ∧ keep ≤ 9223372036854775807 := by
    simp only [Lit.wf, Bool.and_eq_true, decide_eq_true_eq] at w1
    exact w1
  clear w0 w1
  have HN : Hid (Calls Try.prog 8 #[] W fun e w' => ∃ d mb B, e = .returned (.pointer (some ⟨d, 0, none⟩)) ∧ DV w' W.heap.size d mb 0 false false 0 0 0 V0 B ∧ From W w' B) := by
    refine (v_new W).mono ?_
    rintro e w' ⟨d, mb, B, rfl, h1, h2, h3⟩
    exact ⟨d, mb, B, rfl, h1, h2, fun k hk hb => by have := h3 k hb; omega⟩
  have HAR : Hid (∀ (d mb : Nat) (B : Nat → Prop) (N : Int) (w1 : World), 0 ≤ N → DV w1 W.heap.size d mb 0 false false 0 0 0 V0 B → From W w1 B → Calls Try.prog 18 #[.pointer (some ⟨d, 0, none⟩), .int .i64 N, .int .i64 keep] w1 fun e w' => e = .returned (.tuple #[]) ∧ ArmedAt W w' d mb N keep 0) := by
    intro d mb B N w1 h0 h hf
    refine (v_arm W.heap.size d mb 0 false false 0 0 0 N keep V0 B w1 h h0).mono ?_
    rintro e w' ⟨rfl, h1, h2⟩
    exact ⟨rfl, 0, V0, B, Nat.le_refl _, by simpa using h1, hf.step h2, rfl, fun h => by omega, rfl⟩
  have HAP : Hid (∀ (d mb : Nat) (N : Int) (k : Nat) (w1 : World), (k : Int) < N → N ≤ 20 → ArmedAt W w1 d mb N keep k → Calls Try.prog 15 #[.pointer (some ⟨d, 0, none⟩), .string ⟨#[102]⟩, .slice (some ⟨w1.heap.size, 0, none⟩) 1 1] (w1.alloc (.cells #[.int .u8 (k : Int)] 5)) fun e w' => e = .returned (.int .i64 0) ∧ ArmedAt W w' d mb N keep (k + 1) ∧ w'.cell? ⟨d, 1, none⟩ = some (.bool false)) := by
    rintro d mb N k w1 hkN hN ⟨n, V, B, hn, h, hf, hlen, hV, hG⟩
    refine (v_appendArmedLit W W.heap.size d mb n (N - k) keep k V B nmF [(k : Int)] w1 h hf rfl (by omega) nameF (by omega) (by omega) (by simp; omega) (by rw [hlen]; simp; omega)).mono ?_
    rintro e w' ⟨rfl, n', B', hn', hd', hf'⟩
    refine ⟨rfl, ⟨n', setV V nmF (some ((oldV V nmF).1 ++ [(k : Int)], (oldV V nmF).2)), B', by omega, ?_, hf', ?_, fun _ => ⟨_, _, setV_same _ _ _⟩, by rw [setV_other V _ neGF]; exact hG⟩, hd'.row.cells.2.1⟩
    · have e1 : N - ((k + 1 : Nat) : Int) = N - k - 1 := by omega
      have e2 : ((k + 1 : Nat) : Int) = (k : Int) + 1 := by omega
      rw [e1, e2]
      exact hd'
    · unfold oldV
      rw [setV_same]
      show (_ ++ [(k : Int)]).length = k + 1
      rw [List.length_append]
      unfold oldV at hlen
      rw [hlen]
      rfl
  have HSY : Hid (∀ (d mb : Nat) (N : Nat) (w1 : World), 1 ≤ N → N ≤ 20 → ArmedAt W w1 d mb N keep N → Calls Try.prog 17 #[.pointer (some ⟨d, 0, none⟩), .string ⟨#[102]⟩] w1 fun e w' => e = .returned (.int .i64 60) ∧ ∃ n V B, n ≤ 20 ∧ DV w' W.heap.size d mb n true false 0 0 ((N : Int) + 1) V B ∧ From W w' B ∧ V nmG = none) := by
    rintro d mb N w1 h1 h20 ⟨n, V, B, hn, h, hf, hlen, hV, hG⟩
    obtain ⟨Z, Y, hZ⟩ := hV (by omega)
    rw [Int.sub_self] at h
    refine (v_syncLost W.heap.size d mb n keep N V B nmF Z Y w1 h nameF hZ (by omega) hk).mono ?_
    rintro e w' ⟨rfl, hd', hst⟩
    exact ⟨rfl, n, _, B, by omega, hd', hf.step hst, by show (V nmG).map _ = none; rw [hG]; rfl⟩
  have HOFF : Hid (∀ (d mb n : Nat) (N : Int) (V : Cont) (B : Nat → Prop) (w1 : World), DV w1 W.heap.size d mb n true false 0 0 N V B → From W w1 B → Calls Try.prog 15 #[.pointer (some ⟨d, 0, none⟩), .string ⟨#[102]⟩, .slice none 0 0] w1 fun e w' => e = .returned (.int .i64 60) ∧ DV w' W.heap.size d mb n true false 0 0 N V B ∧ From W w' B) := by
    intro d mb n N V B w1 h hf
    refine (v_appendOff W.heap.size d mb n false 0 0 N V B nmF none 0 0 w1 h (by decide)).mono ?_
    rintro e w' ⟨rfl, hg⟩
    exact ⟨rfl, h.kept hg, hf.grown hg⟩
  have HON : Hid (∀ (d mb n : Nat) (N : Int) (V : Cont) (B : Nat → Prop) (w1 : World), DV w1 W.heap.size d mb n true false 0 0 N V B → From W w1 B → Calls Try.prog 21 #[.pointer (some ⟨d, 0, none⟩)] w1 fun e w' => e = .returned (.tuple #[]) ∧ DV w' W.heap.size d mb n false false 0 0 N V B ∧ From W w' B) := by
    intro d mb n N V B w1 h hf
    refine (v_on W.heap.size d mb n true false 0 0 N V B w1 h).mono ?_
    rintro e w' ⟨rfl, h1, h2⟩
    exact ⟨rfl, h1, hf.step h2⟩
  have HAG : Hid (∀ (d mb n : Nat) (N : Int) (V : Cont) (B : Nat → Prop) (w1 : World), n ≤ 20 → 0 ≤ N ∧ N ≤ 100 → V nmG = none → DV w1 W.heap.size d mb n false false 0 0 N V B → From W w1 B → Calls Try.prog 15 #[.pointer (some ⟨d, 0, none⟩), .string ⟨#[103]⟩, .slice (some ⟨w1.heap.size, 0, none⟩) 1 1] (w1.alloc (.cells #[.int .u8 1] 5)) fun e w' => e = .returned (.int .i64 0) ∧ W.grownBy w' none ∧ ∃ mb ah kp wn, DRow w' d mb false false ah kp wn) := by
    intro d mb n N V B w1 hn hN hG h hf
    have e0 : oldV V nmG = ([], 0) := by unfold oldV; rw [hG]; rfl
    refine (v_appendLit W W.heap.size d mb n 0 0 N V B nmG [1] w1 h hf rfl nameG (by omega) (by omega) (by simp) (by rw [e0]; decide)).mono ?_
    rintro e w' ⟨rfl, n', B', hn', hd', hf'⟩
    exact ⟨rfl, hf'.1, mb, _, _, _, hd'.row⟩
  clear hk
  go_enter Try.func6, Try.ntmps6
  go_wp2_with fail
  refine HN.out.mono ?_
  rintro e w1 ⟨d, mb, B1, rfl, hd1, hf1⟩
  have HD1 : Hid (DV w1 W.heap.size d mb 0 false false 0 0 0 V0 B1) := hd1
  have HF1 : Hid (From W w1 B1) := hf1
  clear hd1 hf1 HN
  go_wp2_with fail
  refine (Low_any _ _).mono ?_
  rintro e w2 ⟨r, rfl, hr0, hr1, rfl⟩
  have hq0 := Int.emod_nonneg r (show (20 : Int) ≠ 0 by omega)
  have hq1 := Int.emod_lt_of_pos r (show (0 : Int) < 20 by omega)
  go_wp2_with fail
  obtain ⟨N, hN⟩ : ∃ N : Nat, 1 + r % 20 = (N : Int) := ⟨(1 + r % 20).toNat, by omega⟩
  have hNb : 1 ≤ N ∧ N ≤ 20 := by omega
  rw [hN]
  clear hq0 hq1 hr0 hr1 hN
  refine (HAR.out d mb B1 N w1 (by omega) HD1.out HF1.out).mono ?_
  rintro e w3 ⟨rfl, hA⟩
  have HA : Hid (ArmedAt W w3 d mb N keep 0) := hA
  clear hA HAR HD1 HF1
  go_wp2
  go_loopw [7] (fun i wr => ∃ k : Nat, k ≤ N ∧ i = .int .i64 k ∧ ArmedAt W wr d mb N keep k) (fun i _ => N - (intOf i).toNat)
  case atStart => exact ⟨0, Nat.zero_le _, rfl, HA.out⟩
  case round =>
    obtain ⟨k, hk, rfl, hA⟩ := hrel
    have HAK : Hid (ArmedAt W wr d mb N keep k) := hA
    clear hA HA
    by_cases hlt : k < N
    · have hi : (k : Int) < (N : Int) := by omega
      have hku : (0 : Int) ≤ (k : Int) ∧ (k : Int) ≤ 255 := by omega
      have hwr : IntKind.u8.wrap (k : Int) = (k : Int) := by rw [IntKind.wrap_u8]; omega
      go_wp2_with fail
      refine (HAP.out d mb N k wr hi (by omega) HAK.out).mono ?_
      rintro e w4 ⟨rfl, hA4, c4⟩
      have HA4 : Hid (ArmedAt W w4 d mb N keep (k + 1)) := hA4
      clear hA4
      go_wp2_with fail
      obtain ⟨n, V, B, _, hdv, _⟩ := HA4.out
      refine (d_up d mb false true _ _ _ w4 hdv.row).mono ?_
      rintro e w5 ⟨rfl, rfl⟩
      clear hdv
      go_wp2
      go_roundw
      case rel => exact ⟨k + 1, by omega, by go_num, HA4.out⟩
      case measure => simp [intOf]; omega
    · obtain rfl : k = N := by omega
      go_wp2_with fail
      refine (HSY.out d mb k wr hNb.1 hNb.2 HAK.out).mono ?_
      rintro e w4 ⟨rfl, n, V, B, hn, hd4, hf4, hG⟩
      have HD4 : Hid (DV w4 W.heap.size d mb n true false 0 0 ((k : Int) + 1) V B) := hd4
      have HF4 : Hid (From W w4 B) := hf4
      have HG : Hid (V nmG = none) := hG
      clear hd4 hf4 hG HSY HAP
      go_wp2_with fail
      refine (d_up d mb true false _ _ _ w4 HD4.out.row).mono ?_
      rintro e w5 ⟨rfl, rfl⟩
      go_wp2_with fail
      refine (HOFF.out d mb n _ V B w4 HD4.out HF4.out).mono ?_
      rintro e w6 ⟨rfl, hd6, hf6⟩
      have HD6 : Hid (DV w6 W.heap.size d mb n true false 0 0 ((k : Int) + 1) V B) := hd6
      have HF6 : Hid (From W w6 B) := hf6
      clear hd6 hf6 HOFF HD4 HF4
      have hku : IntKind.u64.wrap (k : Int) = (k : Int) := by rw [IntKind.wrap_u64]; omega
      have hqq : ((k : Int) + 1 != (k : Int) + 1) = false := by simp
      go_wp2_with fail
      refine (d_writes d mb true false _ _ _ w6 HD6.out.row).mono ?_
      rintro e w7 ⟨rfl, rfl⟩
      go_wp2_with fail
      refine (HON.out d mb n _ V B w6 HD6.out HF6.out).mono ?_
      rintro e w8 ⟨rfl, hd8, hf8⟩
      have HD8 : Hid (DV w8 W.heap.size d mb n false false 0 0 ((k : Int) + 1) V B) := hd8
      have HF8 : Hid (From W w8 B) := hf8
      clear hd8 hf8 HON HD6 HF6
      go_wp2_with fail
      refine (HAG.out d mb n _ V B w8 hn (by omega) HG.out HD8.out HF8.out).mono ?_
      rintro e w9 ⟨rfl, hg9, mb9, ah9, kp9, wn9, hr9⟩
      have HG9 : Hid (W.grownBy w9 none) := hg9
      have HR9 : Hid (DRow w9 d mb9 false false ah9 kp9 wn9) := hr9
      clear hg9 hr9 HAG HD8 HF8
      go_wp2_with fail
      refine (d_up d mb9 false false _ _ _ w9 HR9.out).mono ?_
      rintro e w10 ⟨rfl, rfl⟩
      go_wp2_with fail
      refine (awake_disk w9).mono ?_
      rintro e w11 ⟨rfl, hg11⟩
      have HG11 : Hid (W.grownBy w11 none) := HG9.out.trans hg11
      clear hg11
      go_wp2
      go_ret
      exact ⟨rfl, gb_below HG11.out⟩
end Go.Proofs.Ytdnkdopjlobklaa
