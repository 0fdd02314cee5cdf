/- Several texts in one: Crest, Cframe, Ctext. -/
import Derived.Test.YtboamjhlaehoaaaGreatMe
import Derived.Laws.BytesArg
import Derived.Laws.IdiomStrings
import Derived.Lib.AppendStr
import Derived.Lib.Bytes
/- The document's own calls of layer 2: texts, frames. -/
namespace Go.Proofs.YtboamjhlaehoaaaGreat
open Go.RowKit

theorem conv_rd (w : World) (a : Option Addr) (zs : List Int) (L cap : Nat) (hr : Rd w a zs) (hL : zs.length = L) : (convert 49 9 (.slice a L cap)).run Tryz.prog w = .ok (.string (strOfNums zs)) w := by
  subst hL
  cases a with
  | none =>
    obtain rfl := hr.none
    rw [run_convert_bytes_nil w 49 5 Tryz.underlying49 Tryz.underlying5 _ _ 9 Tryz.underlying9]
    rfl
  | some ad =>
    rcases hr.1 with rfl | ⟨b, off, e, hc⟩
    · rw [show ([] : List Int).length = ([] : List UInt8).length from rfl, run_convert_bytes_back w 49 9 5 ad cap [] Tryz.underlying49 Tryz.underlying5 Tryz.underlying9 (by intro j hj; simp at hj)]
      rfl
    · obtain rfl := Option.some.inj e
      exact run_convert_bytes_arg w 49 5 Tryz.underlying49 Tryz.underlying5 b off zs.length cap zs rfl hc 9 Tryz.underlying9

theorem strOfNums_inj {xs ys : List Int} (hx : ∀ z ∈ xs, 0 ≤ z ∧ z ≤ 255) (hy : ∀ z ∈ ys, 0 ≤ z ∧ z ≤ 255) (h : (strOfNums xs).data.toList = (strOfNums ys).data.toList) : xs = ys := by
  rw [strOfNums_data, strOfNums_data] at h
  have hl : xs.length = ys.length := by simpa using congrArg List.length h
  refine List.ext_getElem hl fun i h1 h2 => ?_
  have e := congrArg (fun l => l[i]?) h
  simp only [List.getElem?_map, List.getElem?_eq_getElem h1, List.getElem?_eq_getElem h2, Option.map_some, Option.some.injEq] at e
  have e2 := congrArg UInt8.toNat e
  have bx := hx _ (List.getElem_mem h1)
  have bY := hy _ (List.getElem_mem h2)
  simp only [UInt8.toNat_ofNat'] at e2
  omega

/-- A text's bytes, as numbers. -/
theorem sInts_cells (s : ByteArray) : bs (sInts s) = Go.Lib.strCells s := by
  unfold bs sInts Go.Lib.strCells
  rw [List.map_map]
  rfl
/-- append(out, s...): out is the call's own, s a text. -/
theorem wpList_append_text {w : World} {ops : Array Oper} {rest : List Oper} {o : Oper} {a : Act} {Q : Exit → Act → World → Prop} (hgd : o.guard = none) (sl x : Operand)
    (ho : o.op = .call { callee := .builtin .append, args := #[sl, x], argTypes := #[49, 9] }) (base g0 n c0 : Nat) (xs : List Int) (hs : a.eval sl = .slice (some ⟨g0, 0, none⟩) n c0) (hown : Own w base g0 n c0 xs)
    (s : ByteArray) (m : Nat) (hm : s.size = m) (hx : a.eval x = .string s) (hlen : n + m ≤ 140737488355328)
    (h : ∀ g c w', Own w' base g (n + m) c (xs ++ sInts s) → w.grownBy w' (some g0) → wpList Tryz.prog ops Q rest (a.put o.dst (.slice (some ⟨g, 0, none⟩) (n + m) c)) w') : wpList Tryz.prog ops Q (o :: rest) a w := by
  obtain ⟨i0, hi, hz0, hz1, hz2⟩ := info_parts info5
  subst hm
  have hge := hown.ge
  refine Go.Lib.wpList_append_own_string _ hgd sl x 49 9 ho base 5 i0 Tryz.underlying49 Tryz.underlying9 hi hz0 hz1 hz2 _ n (bs xs) hs hown.1 s hx (by unfold maxLen; omega) (by omega) (by omega) ?_
  intro v' w' hown' hg hne
  rw [← sInts_cells, ← bs_app] at hown'
  obtain ⟨g, c, rfl, ho'⟩ := Own.of hown' (fun h => by simpa using hne.1 h) (fun z hz => by
    rcases List.mem_append.1 hz with h1 | h1
    · exact hown.2 z h1
    · exact sInts_byte s z h1)
  exact h g c w' ho' hg

def four (c : Int) : List Int := [c / 16777216, c / 65536 % 256, c / 256 % 256, c % 256]
theorem four_byte (c : Int) (h : 0 ≤ c ∧ c ≤ 4294967295) : ∀ z ∈ four c, 0 ≤ z ∧ z ≤ 255 := by
  intro z hz
  simp [four] at hz
  omega

end Go.Proofs.YtboamjhlaehoaaaGreat

/- The document's own Frame, Int, Text. -/
namespace Go.Proofs.YtboamjhlaehoaaaGreat
open Go.RowKit
set_option linter.unusedVariables false

def frameR (zs : List Int) : List Int := enc zs.length ++ four (sumR zs) ++ zs

/-- What a number that is read is good for. -/
theorem URel.ok {zs : List Int} {p : Nat} {r1 r2 : Int} (hz : ∀ k, 0 ≤ zs.getD k 0 ∧ zs.getD k 0 ≤ 255) : ∀ (n i : Nat) (v : Int), 9 - i = n → i ≤ 9 → 0 ≤ v → v < 2 ^ (7 * i) → URel zs p i v r1 r2 0 → (p : Int) + i < r2 ∧ r2 ≤ zs.length ∧ 0 ≤ r1 ∧ r1 ≤ 18446744073709551615 := by
  intro n
  induction n with
  | zero =>
    intro i v hn hi hv0 hv h
    have hl : p + i < zs.length := by
      by_cases hl : p + i < zs.length
      · exact hl
      · have := h.over hi (by omega); omega
    by_cases hf : i = 9 ∧ 1 < zs.getD (p + i) 0 ∨ 0 < i ∧ zs.getD (p + i) 0 = 0
    · have := h.form hi hl hf; omega
    · have hc : zs.getD (p + i) 0 < 128 := by omega
      have hd := h.done hi hl hf hc
      have ho := or7 v (zs.getD (p + i) 0) i hv0 hv hi (hz _) (fun h9 => by omega)
      have hp : (0 : Int) < 2 ^ (7 * i) := Int.pow_pos (by decide)
      have hm := Int.mul_nonneg (show 0 ≤ zs.getD (p + i) 0 % 128 by omega) (Int.le_of_lt hp)
      omega
  | succ n ih =>
    intro i v hn hi hv0 hv h
    have hl : p + i < zs.length := by
      by_cases hl : p + i < zs.length
      · exact hl
      · have := h.over hi (by omega); omega
    by_cases hf : i = 9 ∧ 1 < zs.getD (p + i) 0 ∨ 0 < i ∧ zs.getD (p + i) 0 = 0
    · have := h.form hi hl hf; omega
    · have ho := or7 v (zs.getD (p + i) 0) i hv0 hv hi (hz _) (fun h9 => by omega)
      have hp : (0 : Int) < 2 ^ (7 * i) := Int.pow_pos (by decide)
      have hm := Int.mul_nonneg (show 0 ≤ zs.getD (p + i) 0 % 128 by omega) (Int.le_of_lt hp)
      by_cases hc : zs.getD (p + i) 0 < 128
      · have hd := h.done hi hl hf hc
        omega
      · have hs := h.step hi hl hf hc
        have := ih (i + 1) _ (by omega) (by omega) (by omega) (ho.2.2 (by omega)) hs
        omega
theorem ud_ok {zs : List Int} {p : Nat} {r1 r2 : Int} (hz : ∀ k, 0 ≤ zs.getD k 0 ∧ zs.getD k 0 ≤ 255) (h : ud zs p 10 0 0 = (r1, r2, 0)) : (p : Int) < r2 ∧ r2 ≤ zs.length ∧ 0 ≤ r1 ∧ r1 ≤ 18446744073709551615 := by
  have := URel.ok (p := p) hz 9 0 0 rfl (by omega) (by omega) (by decide) h
  simpa using this

set_option maxHeartbeats 400000 in
theorem ruint_out (a : Option Addr) (L cap : Nat) (p : Int) (w : World) (hz : (L : Int) ≤ 140737488355000) (hp : p < 0 ∨ (L : Int) < p) :
    Calls Tryz.prog 82 #[.slice a L cap, .int .i64 p] w fun e w' => e = .returned (.tuple #[.int .u64 0, .int .i64 0, .int .i64 20]) ∧ w = w' := by
  by_cases h : p < 0
  · have d1 : decide (p < 0) = true := by simpa using h
    go_enter Tryz.func82, Tryz.ntmps82
    go_wp2
    go_ret3
    exact ⟨rfl, rfl⟩
  · have d1 : decide (p < 0) = false := by simpa using h
    have d2 : decide ((L : Int) < p) = true := by simp; omega
    go_enter Tryz.func82, Tryz.ntmps82
    go_wp2
    go_ret3
    exact ⟨rfl, rfl⟩

/-- The document's Uint, at any place. -/
theorem ruint (a : Option Addr) (zs : List Int) (L cap : Nat) (p r1 r2 r3 : Int) (w : World) (hr : Rd w a zs) (hL : zs.length = L) (hz : (L : Int) ≤ 140737488355000) (hR : uintR zs p = (r1, r2, r3)) :
    Calls Tryz.prog 82 #[.slice a L cap, .int .i64 p] w fun e w' => e = .returned (.tuple #[.int .u64 r1, .int .i64 r2, .int .i64 r3]) ∧ w = w' := by
  unfold uintR at hR
  by_cases h : p < 0 ∨ (zs.length : Int) < p
  · rw [if_pos h] at hR
    simp only [Prod.mk.injEq] at hR
    obtain ⟨rfl, rfl, rfl⟩ := hR
    exact ruint_out a L cap p w hz (by omega)
  · rw [if_neg h] at hR
    obtain ⟨q, rfl⟩ := Int.eq_ofNat_of_zero_le (show 0 ≤ p by omega)
    exact ruint_in a zs L cap q r1 r2 r3 w hr hL hz (by omega) hR
theorem uintR_ok {zs : List Int} {p r1 r2 : Int} (hz : ∀ k, 0 ≤ zs.getD k 0 ∧ zs.getD k 0 ≤ 255) (h : uintR zs p = (r1, r2, 0)) : 0 ≤ p ∧ p < r2 ∧ r2 ≤ zs.length ∧ 0 ≤ r1 ∧ r1 ≤ 18446744073709551615 := by
  unfold uintR at h
  split at h
  · simp at h
  · have := ud_ok hz h
    omega

/-- The signed number that a number stands for. -/
def unzz (v : Int) : Int := if v % 2 = 0 then v / 2 else -(v / 2) - 1
def intR (zs : List Int) (p : Int) : Int × Int × Int := if (uintR zs p).2.2 = 0 then (unzz (uintR zs p).1, (uintR zs p).2.1, 0) else (0, 0, (uintR zs p).2.2)

theorem and_one_64 (a : Int) (h0 : 0 ≤ a) (h1 : a ≤ 18446744073709551615) : bits .and .u64 a 1 = a % 2 := by
  rw [u64_and _ _ h0 (by omega) (by decide) (by decide)]
  have : (1 : Int).toNat = 1 := rfl
  rw [this, nat_mask1]
  omega

end Go.Proofs.YtboamjhlaehoaaaGreat

/- The document's own Text and Unframe. -/
namespace Go.Proofs.YtboamjhlaehoaaaGreat
open Go.RowKit

theorem rd_window {w : World} {b off : Nat} {zs : List Int} (hc : ∀ i, i < zs.length → w.cell? ⟨b, off + i, none⟩ = some (.int .u8 (zs.getD i 0))) (hz : ∀ z ∈ zs, 0 ≤ z ∧ z ≤ 255) (k n : Nat) (h : k + n ≤ zs.length) :
    Rd w (some ⟨b, off + k, none⟩) ((zs.drop k).take n) ∧ ((zs.drop k).take n).length = n := by
  have hl : ((zs.drop k).take n).length = n := by simp; omega
  refine ⟨⟨.inr ⟨b, off + k, rfl, fun i hi => ?_⟩, fun z hm => hz z (List.mem_of_mem_drop (List.mem_of_mem_take hm))⟩, hl⟩
  rw [hl] at hi
  rw [Nat.add_assoc, hc (k + i) (by omega)]
  simp [List.getD_eq_getElem?_getD, hi]

def textR (zs : List Int) (p : Int) : ByteArray × Int × Int :=
  if (uintR zs p).2.2 = 0 then
    if (zs.length : Int) - (uintR zs p).2.1 < (uintR zs p).1 then (⟨#[]⟩, 0, 20)
    else (strOfNums ((zs.drop (uintR zs p).2.1.toNat).take (uintR zs p).1.toNat), (uintR zs p).2.1 + (uintR zs p).1, 0)
  else (⟨#[]⟩, 0, (uintR zs p).2.2)

end Go.Proofs.YtboamjhlaehoaaaGreat

