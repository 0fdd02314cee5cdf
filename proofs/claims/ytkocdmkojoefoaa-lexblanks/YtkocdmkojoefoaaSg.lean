/- sign: the longest sign of a row. -/
import Derived.Test.YtkocdmkojoefoaaTx
namespace Go.Proofs.Ytkocdmkojoefoaa
open Go.RowKit
set_option linter.unusedVariables false
set_option maxRecDepth 20000

/-- Whether a text begins with another one. -/
def preB (s t : ByteArray) : Bool := decide ((sInts s).take t.size = sInts t)
theorem sInts_inj {s t : ByteArray} (h : sInts s = sInts t) : s = t := str_inj h
theorem g_prefix (s t : ByteArray) (w : World) (hs : s.size ≤ 4096) (ht : t.size ≤ 4096) : Calls Try.prog 36 #[.string s, .string t] w fun e w' => e = .returned (.bool (preB s t)) ∧ w = w' := by
  by_cases h : t.size ≤ s.size
  · have hi : (t.size : Int) ≤ (s.size : Int) := by omega
    have q1 : decide ((t.size : Int) ≤ (s.size : Int)) = true := by simpa using hi
    have hsl := sl_hi s t.size h
    have HE : Hid (((strOfNums ((sInts s).take t.size)).toList == t.toList) = preB s t) := by
      show _ = _
      rw [str_eq]
      unfold preB
      congr 1
      rw [eq_iff_iff]
      constructor
      · intro e
        have h2 := congrArg sInts e
        rw [sInts_str (fun z hz => sInts_byte s z (List.mem_of_mem_take hz))] at h2
        exact h2
      · intro e
        rw [e, str_self]
    have he := HE.out
    generalize strOfNums ((sInts s).take t.size) = u at hsl he HE
    generalize preB s t = b at HE he
    clear h
    go_enter Try.func36, Try.ntmps36
    go_wp2
    go_ret
    exact ⟨rfl, rfl⟩
  · have q1 : decide ((t.size : Int) ≤ (s.size : Int)) = false := by simp; omega
    have hp : preB s t = false := by
      unfold preB
      rw [decide_eq_false_iff_not]
      intro e
      have := congrArg List.length e
      rw [List.length_take, sInts_len, sInts_len] at this
      omega
    rw [hp]
    have hi : ¬ (t.size : Int) ≤ (s.size : Int) := by omega
    go_enter Try.func36, Try.ntmps36
    go_wp2
    go_ret
    exact ⟨rfl, rfl⟩
theorem g_hasPrefix (s t : ByteArray) (w : World) (hs : s.size ≤ 4096) (ht : t.size ≤ 4096) : Calls Try.prog 32 #[.string s, .string t] w fun e w' => e = .returned (.bool (preB s t)) ∧ w = w' := by
  have HC := g_prefix s t w hs ht
  go_enter Try.func32, Try.ntmps32
  go_wp2_with (refine HC.mono ?_; rintro e w1 ⟨rfl, rfl⟩)
  go_ret
  exact ⟨rfl, rfl⟩
def bOf (l : List UInt8) : ByteArray := ⟨l.toArray⟩
/-- The row of signs. -/
def sgs : List ByteArray := [⟨#[61, 61]⟩, ⟨#[33, 61]⟩, ⟨#[60, 61]⟩, ⟨#[62, 61]⟩, ⟨#[61, 126]⟩, ⟨#[33, 126]⟩, ⟨#[60]⟩, ⟨#[62]⟩, ⟨#[61]⟩, ⟨#[43]⟩, ⟨#[45]⟩, ⟨#[42]⟩, ⟨#[47]⟩, ⟨#[40]⟩, ⟨#[41]⟩, ⟨#[123]⟩, ⟨#[125]⟩, ⟨#[91]⟩, ⟨#[93]⟩, ⟨#[44]⟩]
/-- What the row tells from a place on. -/
def sgFrom (s : ByteArray) : List ByteArray → Int × ByteArray × Int × Nat
  | [] => (0, ⟨#[]⟩, 0, 0)
  | x :: r => if preB s x = true then (5, x, 0, x.size) else sgFrom s r
theorem pre1 (s : ByteArray) (c d : Int) (r : List Int) (hs : sInts s = c :: d :: r) (x : ByteArray) (a : Int) (hx : sInts x = [a]) : preB s x = decide (c = a) := by
  have hn : x.size = 1 := by rw [← sInts_len, hx]; rfl
  unfold preB
  rw [hs, hx, hn]
  simp
theorem pre1' (s : ByteArray) (c : Int) (hs : sInts s = [c]) (x : ByteArray) (a : Int) (hx : sInts x = [a]) : preB s x = decide (c = a) := by
  have hn : x.size = 1 := by rw [← sInts_len, hx]; rfl
  unfold preB
  rw [hs, hx, hn]
  simp
theorem pre2 (s : ByteArray) (c d : Int) (r : List Int) (hs : sInts s = c :: d :: r) (x : ByteArray) (a b : Int) (hx : sInts x = [a, b]) : preB s x = decide (c = a ∧ d = b) := by
  have hn : x.size = 2 := by rw [← sInts_len, hx]; rfl
  unfold preB
  rw [hs, hx, hn]
  simp
theorem pre2' (s : ByteArray) (c : Int) (hs : sInts s = [c]) (x : ByteArray) (a b : Int) (hx : sInts x = [a, b]) : preB s x = false := by
  have hn : x.size = 2 := by rw [← sInts_len, hx]; rfl
  unfold preB
  rw [hs, hx, hn]
  simp
theorem sg_eq (s : ByteArray) (h0 : 1 ≤ s.size) : sgFrom s sgs = sgnR (sInts s) := by
  match hs : sInts s with
  | [] => have := sInts_len s; rw [hs] at this; simp at this; omega
  | [c] =>
    unfold sgs
    have g0 := pre2' s c hs ⟨#[61, 61]⟩ 61 61 rfl
    have g1 := pre2' s c hs ⟨#[33, 61]⟩ 33 61 rfl
    have g2 := pre2' s c hs ⟨#[60, 61]⟩ 60 61 rfl
    have g3 := pre2' s c hs ⟨#[62, 61]⟩ 62 61 rfl
    have g4 := pre2' s c hs ⟨#[61, 126]⟩ 61 126 rfl
    have g5 := pre2' s c hs ⟨#[33, 126]⟩ 33 126 rfl
    have k0 := pre1' s c hs ⟨#[60]⟩ 60 rfl
    have k1 := pre1' s c hs ⟨#[62]⟩ 62 rfl
    have k2 := pre1' s c hs ⟨#[61]⟩ 61 rfl
    have k3 := pre1' s c hs ⟨#[43]⟩ 43 rfl
    have k4 := pre1' s c hs ⟨#[45]⟩ 45 rfl
    have k5 := pre1' s c hs ⟨#[42]⟩ 42 rfl
    have k6 := pre1' s c hs ⟨#[47]⟩ 47 rfl
    have k7 := pre1' s c hs ⟨#[40]⟩ 40 rfl
    have k8 := pre1' s c hs ⟨#[41]⟩ 41 rfl
    have k9 := pre1' s c hs ⟨#[123]⟩ 123 rfl
    have k10 := pre1' s c hs ⟨#[125]⟩ 125 rfl
    have k11 := pre1' s c hs ⟨#[91]⟩ 91 rfl
    have k12 := pre1' s c hs ⟨#[93]⟩ 93 rfl
    have k13 := pre1' s c hs ⟨#[44]⟩ 44 rfl
    simp only [sgFrom, g0, g1, g2, g3, g4, g5, k0, k1, k2, k3, k4, k5, k6, k7, k8, k9, k10, k11, k12, k13]
    clear g0 g1 g2 g3 g4 g5 k0 k1 k2 k3 k4 k5 k6 k7 k8 k9 k10 k11 k12 k13
    unfold sgnR signN sign1
    simp only [Bool.false_eq_true, if_false, decide_eq_true_eq, Bool.or_eq_true, or_assoc]
    by_cases h1 : c = 60; · subst h1; rfl
    by_cases h2 : c = 62; · subst h2; rfl
    by_cases h3 : c = 61; · subst h3; rfl
    by_cases h4 : c = 43; · subst h4; rfl
    by_cases h5 : c = 45; · subst h5; rfl
    by_cases h6 : c = 42; · subst h6; rfl
    by_cases h7 : c = 47; · subst h7; rfl
    by_cases h8 : c = 40; · subst h8; rfl
    by_cases h9 : c = 41; · subst h9; rfl
    by_cases h10 : c = 123; · subst h10; rfl
    by_cases h11 : c = 125; · subst h11; rfl
    by_cases h12 : c = 91; · subst h12; rfl
    by_cases h13 : c = 93; · subst h13; rfl
    by_cases h14 : c = 44; · subst h14; rfl
    simp [h1, h2, h3, h4, h5, h6, h7, h8, h9, h10, h11, h12, h13, h14]
  | c :: d :: r =>
    unfold sgs
    have g0 := pre2 s c d r hs ⟨#[61, 61]⟩ 61 61 rfl
    have g1 := pre2 s c d r hs ⟨#[33, 61]⟩ 33 61 rfl
    have g2 := pre2 s c d r hs ⟨#[60, 61]⟩ 60 61 rfl
    have g3 := pre2 s c d r hs ⟨#[62, 61]⟩ 62 61 rfl
    have g4 := pre2 s c d r hs ⟨#[61, 126]⟩ 61 126 rfl
    have g5 := pre2 s c d r hs ⟨#[33, 126]⟩ 33 126 rfl
    have k0 := pre1 s c d r hs ⟨#[60]⟩ 60 rfl
    have k1 := pre1 s c d r hs ⟨#[62]⟩ 62 rfl
    have k2 := pre1 s c d r hs ⟨#[61]⟩ 61 rfl
    have k3 := pre1 s c d r hs ⟨#[43]⟩ 43 rfl
    have k4 := pre1 s c d r hs ⟨#[45]⟩ 45 rfl
    have k5 := pre1 s c d r hs ⟨#[42]⟩ 42 rfl
    have k6 := pre1 s c d r hs ⟨#[47]⟩ 47 rfl
    have k7 := pre1 s c d r hs ⟨#[40]⟩ 40 rfl
    have k8 := pre1 s c d r hs ⟨#[41]⟩ 41 rfl
    have k9 := pre1 s c d r hs ⟨#[123]⟩ 123 rfl
    have k10 := pre1 s c d r hs ⟨#[125]⟩ 125 rfl
    have k11 := pre1 s c d r hs ⟨#[91]⟩ 91 rfl
    have k12 := pre1 s c d r hs ⟨#[93]⟩ 93 rfl
    have k13 := pre1 s c d r hs ⟨#[44]⟩ 44 rfl
    simp only [sgFrom, g0, g1, g2, g3, g4, g5, k0, k1, k2, k3, k4, k5, k6, k7, k8, k9, k10, k11, k12, k13]
    clear g0 g1 g2 g3 g4 g5 k0 k1 k2 k3 k4 k5 k6 k7 k8 k9 k10 k11 k12 k13
    unfold sgnR signN
    by_cases ha : sign2 c d = true
    · simp only [if_pos ha]
      unfold sign2 at ha
      simp only [Bool.or_eq_true, decide_eq_true_eq, or_assoc] at ha
      rcases ha with ⟨rfl, rfl⟩ | ⟨rfl, rfl⟩ | ⟨rfl, rfl⟩ | ⟨rfl, rfl⟩ | ⟨rfl, rfl⟩ | ⟨rfl, rfl⟩ <;> rfl
    · simp only [if_neg ha]
      unfold sign2 at ha
      simp only [Bool.or_eq_true, decide_eq_true_eq, or_assoc, not_or] at ha
      obtain ⟨a1, a2, a3, a4, a5, a6⟩ := ha
      simp only [if_neg a1, if_neg a2, if_neg a3, if_neg a4, if_neg a5, if_neg a6, decide_eq_true_eq]
      unfold sign1
      simp only [decide_eq_true_eq, Bool.or_eq_true, or_assoc]
      clear a1 a2 a3 a4 a5 a6
      by_cases h1 : c = 60; · subst h1; rfl
      by_cases h2 : c = 62; · subst h2; rfl
      by_cases h3 : c = 61; · subst h3; rfl
      by_cases h4 : c = 43; · subst h4; rfl
      by_cases h5 : c = 45; · subst h5; rfl
      by_cases h6 : c = 42; · subst h6; rfl
      by_cases h7 : c = 47; · subst h7; rfl
      by_cases h8 : c = 40; · subst h8; rfl
      by_cases h9 : c = 41; · subst h9; rfl
      by_cases h10 : c = 123; · subst h10; rfl
      by_cases h11 : c = 125; · subst h11; rfl
      by_cases h12 : c = 91; · subst h12; rfl
      by_cases h13 : c = 93; · subst h13; rfl
      by_cases h14 : c = 44; · subst h14; rfl
      simp [h1, h2, h3, h4, h5, h6, h7, h8, h9, h10, h11, h12, h13, h14]
end Go.Proofs.Ytkocdmkojoefoaa
