/- raw: a token's bytes. -/
import Derived.Test.YtkocdmkojoefoaaBn
import Derived.Test.YtkocdmkojoefoaaOw
import Derived.Test.YtkocdmkojoefoaaRf
namespace Go.Proofs.Ytkocdmkojoefoaa
open Go.RowKit
set_option linter.unusedVariables false
set_option maxRecDepth 20000

set_option maxHeartbeats 4000000 in
theorem r_raw (s : ByteArray) (ts : List Tok) (g m cp i p n q : Nat) (kd sp c : Int) (t : ByteArray) (u : Tok) (w : World) (hs : s.size ≤ 4096) (hr : SRd tokE w (some ⟨g, 0, none⟩) ts) (hm : ts.length = m) (hi : i + 1 < m) (hmb : m ≤ 4097) (h : ChAt (sInts s) ts i p n q kd sp c t u) :
    Calls Try.prog 13 #[.string s, .slice (some ⟨g, 0, none⟩) m cp, .int .i64 (i : Int)] w fun e w' => e = .returned (.string (strOfNums (((sInts s).drop p).take n))) ∧ w = w' := by
  have hne := h.ne
  have hle := h.le
  have hlq : q ≤ s.size := by have := h.lq; rw [sInts_len] at this; exact this
  obtain ⟨a0, a1, a2, a3⟩ := tok_cells hr h.eq
  obtain ⟨b0, b1, b2, b3⟩ := tok_cells hr h.nx
  rw [h.uq] at b1
  simp only [Nat.zero_add] at a1 b1
  have HB : Hid (∀ e, p + n ≤ e → e < q → blankB (byteAt s e) = true) := h.bl
  have HL : Hid (blankB (byteAt s (p + n - 1)) = false) := h.raw.2.2.2
  have hsl := sl_lh s p (p + n) (by omega) (by omega)
  rw [show p + n - p = n by omega] at hsl
  generalize strOfNums (((sInts s).drop p).take n) = R at hsl ⊢
  clear a0 a2 a3 b0 b2 b3 h hr hm
  have hii : (i : Int) + 1 < (m : Int) := by omega
  have hii2 : (i : Int) < (m : Int) := by omega
  obtain ⟨E, hE⟩ : ∃ E, E = p + n := ⟨_, rfl⟩
  have HE : Hid (E = p + n) := hE
  rw [← hE] at hsl
  have hpE : p < E := by omega
  have hEq : E ≤ q := by omega
  clear hE hle
  go_enter Try.func13, Try.ntmps13
  go_wp2
  go_loopw [7] (fun t7 wr => ∃ e : Nat, E ≤ e ∧ e ≤ q ∧ t7 = .int .i64 (e : Int) ∧ wr = w) (fun t7 _ => (intOf t7).toNat)
  case atStart => exact ⟨q, hEq, Nat.le_refl _, rfl, rfl⟩
  case round =>
    obtain ⟨e, he1, he2, rfl, rfl⟩ := hrel
    obtain ⟨f, hf⟩ : ∃ f, f = e - 1 := ⟨_, rfl⟩
    have hfs : f < s.size := by omega
    have hidx := idx9 s f hfs
    have hpe : (p : Int) < (e : Int) := by omega
    have HBL : Hid (E < e → blankB (byteAt s f) = true) := fun h => HB.out f (by have := HE.out; omega) (by omega)
    have HBN : Hid (e = E → blankB (byteAt s f) = false) := fun h => by
      have h2 := HL.out
      rwa [show p + n - 1 = f by have := HE.out; omega] at h2
    rw [show (f : Int) = (e : Int) - 1 by omega] at hidx
    clear hf
    generalize byteAt s f = x at hidx HBL HBN
    cases hb : blankB x with
    | true =>
      have hlt : E < e := by
        rcases Nat.lt_or_ge E e with h | h
        · exact h
        · have := HBN.out (by omega); rw [hb] at this; cases this
      clear HBL HBN
      rcases blank_in hb with rfl | rfl | rfl | rfl
      · clear hb
        go_wp2
        go_roundw
        case rel => exact ⟨e - 1, by omega, by omega, by rw [show ((e - 1 : Nat) : Int) = (e : Int) - 1 by omega], trivial⟩
        case measure => simp [intOf]; omega
      · clear hb
        go_wp2
        go_roundw
        case rel => exact ⟨e - 1, by omega, by omega, by rw [show ((e - 1 : Nat) : Int) = (e : Int) - 1 by omega], trivial⟩
        case measure => simp [intOf]; omega
      · clear hb
        go_wp2
        go_roundw
        case rel => exact ⟨e - 1, by omega, by omega, by rw [show ((e - 1 : Nat) : Int) = (e : Int) - 1 by omega], trivial⟩
        case measure => simp [intOf]; omega
      · clear hb
        go_wp2
        go_roundw
        case rel => exact ⟨e - 1, by omega, by omega, by rw [show ((e - 1 : Nat) : Int) = (e : Int) - 1 by omega], trivial⟩
        case measure => simp [intOf]; omega
    | false =>
      have heq : e = E := by
        rcases Nat.lt_or_ge E e with h | h
        · have := HBL.out h; rw [hb] at this; cases this
        · omega
      obtain ⟨q1, q2, q3, q4⟩ := blank_ne hb
      clear HBL HBN hb
      subst heq
      go_wp2
      go_ret
      exact ⟨rfl, rfl⟩
end Go.Proofs.Ytkocdmkojoefoaa
