/- ParseRows: its maths; Row, Ops, Low. -/
import Derived.Test.YtnimdngiejcljaaQj
namespace Go.Proofs.Ytnimdngiejcljaa
open Go.RowKit
set_option linter.unusedVariables false
set_option linter.unusedSimpArgs false
set_option maxRecDepth 20000

theorem sInts_cat (a b : ByteArray) : sInts (a ++ b) = sInts a ++ sInts b := by
  unfold sInts
  rw [ByteArray.data_append, Array.toList_append, List.map_append]
def opsL : List ByteArray := [⟨#[43]⟩, ⟨#[45]⟩, ⟨#[42]⟩, ⟨#[47]⟩, ⟨#[61, 61]⟩, ⟨#[33, 61]⟩, ⟨#[60]⟩, ⟨#[60, 61]⟩, ⟨#[62]⟩, ⟨#[62, 61]⟩, ⟨#[97, 110, 100]⟩, ⟨#[111, 114]⟩, ⟨#[117, 110, 108, 101, 115, 115]⟩]
def opI (i : Nat) : ByteArray := opsL.getD i ⟨#[]⟩
def rowN (n : Int) : Int := if n = 12 then 1 else if n = 11 ∨ n = 13 then 2 else if 5 ≤ n ∧ n ≤ 10 then 3 else if n = 1 ∨ n = 2 then 4 else 5
def rowTxt (i k : Nat) : List Int := [97, 32] ++ sInts (opI i) ++ [32, 98, 32] ++ sInts (opI k) ++ [32, 99]
def rowS (i k : Nat) : ByteArray := ⟨#[97, 32]⟩ ++ opI i ++ ⟨#[32, 98, 32]⟩ ++ opI k ++ ⟨#[32, 99]⟩
def rowRes (i k : Nat) : Pr := match lexF 51 0 (rowTxt i k) with
  | .ok ts => parseT ts
  | .bad p c => .bad (p : Int) c
def rowGood (i k : Nat) : Bool := match rowRes i k with
  | .ok [n0, n1, n2, n3, n4] => if rowN (i + 1) < rowN (k + 1) then decide (n3.op = k + 1) && (decide (n4.op = i + 1) && decide (n2.kind = 2)) else decide (n2.op = i + 1) && (decide (n4.op = k + 1) && decide (n3.kind = 2))
  | _ => false
theorem rows_all : ((List.range 13).all fun i => (List.range 13).all fun k => rowGood i k) = true := by kernel_rfl
theorem rows_good {i k : Nat} (hi : i < 13) (hk : k < 13) : rowGood i k = true := by
  have h := rows_all
  rw [List.all_eq_true] at h
  have h1 := h i (List.mem_range.2 hi)
  rw [List.all_eq_true] at h1
  exact h1 k (List.mem_range.2 hk)
theorem opI_size : ((List.range 13).all fun i => decide ((opI i).size ≤ 6)) = true := by kernel_rfl
theorem opI_le {i : Nat} (hi : i < 13) : (opI i).size ≤ 6 := by
  have h := opI_size
  rw [List.all_eq_true] at h
  simpa using h i (List.mem_range.2 hi)
theorem row_parse {i k : Nat} (hi : i < 13) (hk : k < 13) : ∃ n0 n1 n2 n3 n4, parseR (rowS i k) = .ok [n0, n1, n2, n3, n4] ∧ (rowN (i + 1) < rowN (k + 1) → n3.op = k + 1 ∧ n4.op = i + 1 ∧ n2.kind = 2) ∧ (¬ rowN (i + 1) < rowN (k + 1) → n2.op = i + 1 ∧ n4.op = k + 1 ∧ n3.kind = 2) := by
  have hg := rows_good hi hk
  have e : sInts (rowS i k) = rowTxt i k := by
    unfold rowS rowTxt
    rw [sInts_cat, sInts_cat, sInts_cat, sInts_cat]
    rfl
  have hl : (rowTxt i k).length ≤ 50 := by
    have h1 := opI_le hi
    have h2 := opI_le hk
    unfold rowTxt
    simp only [List.length_append, sInts_len, List.length_cons, List.length_nil]
    omega
  have hp : parseR (rowS i k) = rowRes i k := by
    unfold parseR rowRes
    rw [lex_lit (rowS i k) _ _ e hl rfl]
    cases lexF 51 0 (rowTxt i k) <;> rfl
  unfold rowGood at hg
  rw [← hp] at hg
  cases hx : parseR (rowS i k) with
  | bad p c => rw [hx] at hg; cases hg
  | ok ns =>
    rw [hx] at hg
    match ns with
    | [] => cases hg
    | [_] => cases hg
    | [_, _] => cases hg
    | [_, _, _] => cases hg
    | [_, _, _, _] => cases hg
    | _ :: _ :: _ :: _ :: _ :: _ :: _ => cases hg
    | [n0, n1, n2, n3, n4] =>
      refine ⟨n0, n1, n2, n3, n4, rfl, fun h => ?_, fun h => ?_⟩
      · simp only [if_pos h, Bool.and_eq_true, decide_eq_true_eq] at hg
        exact hg
      · simp only [if_neg h, Bool.and_eq_true, decide_eq_true_eq] at hg
        exact hg
theorem r_low (x : Int) (w : World) : Calls Try.prog 12 #[.int .i64 x] w fun e w' => e = .returned (.int .i64 (bits .and .i64 x 9223372036854775807)) ∧ w = w' := by
  go_enter Try.func12, Try.ntmps12
  go_wp2
  go_ret
  exact ⟨rfl, rfl⟩
theorem low_rem (x : Int) (m : Nat) (hm : 0 < m) : ∃ k : Nat, k < m ∧ (bits .and .i64 x 9223372036854775807).tmod (m : Int) = (k : Int) := by
  have h := and_low x
  generalize bits .and .i64 x 9223372036854775807 = X at h
  have h2 := Int.tmod_nonneg (m : Int) h.1
  have h3 := Int.tmod_lt_of_pos X (by omega : (0 : Int) < (m : Int))
  exact ⟨(X.tmod (m : Int)).toNat, by omega, by omega⟩
theorem r_ops (w : World) : Calls Try.prog 14 #[] w fun e w' => e = .returned (.slice (some ⟨w.heap.size, 0, none⟩) 13 13) ∧ (∀ i, i < 13 → w'.cell? ⟨w.heap.size, i, none⟩ = some (.string (opI i))) ∧ w.grownBy w' none := by
  have HL := hid (row_lit w opsL)
  have HG := hid (World.grownBy_alloc w (.cells (opsL.map (fun s => Value.string s)).toArray 9) none)
  go_enter Try.func14, Try.ntmps14
  go_wp2
  go_ret
  refine ⟨rfl, fun i hi => ?_, HG.out⟩
  have := str_cell (i := i) (s := opI i) HL.out (by
    unfold opI
    rw [List.getD_eq_getElem?_getD]
    have : i < opsL.length := hi
    rw [List.getElem?_eq_getElem this]
    rfl)
  rw [Nat.zero_add] at this
  exact this
theorem r_row (n : Nat) (hn : n < 13) (w : World) : Calls Try.prog 16 #[.int .i64 ((n : Int) + 1)] w fun e w' => e = .returned (.int .i64 (rowN ((n : Int) + 1))) ∧ w = w' := by
  have h : n = 0 ∨ n = 1 ∨ n = 2 ∨ n = 3 ∨ n = 4 ∨ n = 5 ∨ n = 6 ∨ n = 7 ∨ n = 8 ∨ n = 9 ∨ n = 10 ∨ n = 11 ∨ n = 12 := by omega
  rcases h with rfl | rfl | rfl | rfl | rfl | rfl | rfl | rfl | rfl | rfl | rfl | rfl | rfl
  all_goals
    go_enter Try.func16, Try.ntmps16
    go_wp2
    go_ret
    exact ⟨rfl, rfl⟩
end Go.Proofs.Ytnimdngiejcljaa
