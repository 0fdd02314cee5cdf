/- Several texts in one: Yg, Zm, Qn. -/
import Derived.Test.YtekejnjaiccnbaaGreatDoorXg
/- What the bulk says of WalTorn's arguments. -/
namespace Go.Proofs.YtekejnjaiccnbaaGreatDoor
open Go.ChangeShapes Go.WideShapes Go.ChangeAt Go.RowKit
set_option linter.unusedVariables false

section
variable {H : Type} {enc : TypeId × Value → H} {W : World}
theorem bulk_recs {P : Program} {t e : TypeId} (ht : P.underlying t = some (.slice e)) {a0 : Option Addr} {len0 cap0 : Nat} {d0 : DataW H} {p0 : List MemPlace} (h0 : DataW.Trod enc P W 0 (fun _ => true) true t (.slice a0 len0 cap0) d0 p0) : len0 + 1 ≤ Rows.uptoBulk d0 := by
  obtain ⟨fuel, hf⟩ := h0
  rcases Go.Deep.open_slice ht hf with ⟨hcs, _⟩ | ⟨x, l, c, m, k, D, Pl, hcs, _, hl, hm, hmm, hx, hall⟩
  · simp [Value.cells] at hcs
    obtain ⟨rfl, rfl, rfl⟩ := hcs
    have := bulk_pos d0
    omega
  · simp [Value.cells] at hcs
    obtain ⟨rfl, rfl, rfl⟩ := hcs
    simp only [Prod.mk.injEq] at hx
    obtain ⟨rfl, rfl⟩ := hx
    have h1 := bulk_len ((List.range len0).map D)
    rw [Rows.uptoBulk]
    simp only [List.length_map, List.length_range] at h1
    omega
theorem bulk3 {a0 : Option Addr} {len0 cap0 : Nat} {d0 d1 d2 : DataW H} {p0 : List MemPlace} (h0 : DataW.Trod enc Tryz.prog W 0 (fun _ => true) true 28 (.slice a0 len0 cap0) d0 p0) (hb : Rows.uptoBulkAll [d0, d1, d2] ≤ 1048576) : len0 ≤ 1048573 := by
  have h1 := bulk_recs Tryz.underlying28 h0
  have h2 := bulk_pos d1
  have h3 := bulk_pos d2
  simp only [Rows.uptoBulkAll] at hb
  omega
theorem cap_of {P : Program} {t e : TypeId} (ht : P.underlying t = some (.slice e)) {a0 : Option Addr} {len0 cap0 : Nat} {d0 : DataW H} {p0 : List MemPlace} (h0 : DataW.Trod enc P W 0 (fun _ => true) true t (.slice a0 len0 cap0) d0 p0) : len0 ≤ cap0 ∧ cap0 ≤ 9223372036854775807 := by
  obtain ⟨fuel, hf⟩ := h0
  rcases Go.Deep.open_slice ht hf with ⟨hcs, _⟩ | ⟨x, l, c, m, k, D, Pl, hcs, _, hl, hm, hmm, hx, hall⟩
  · simp [Value.cells] at hcs
    obtain ⟨rfl, rfl, rfl⟩ := hcs
    omega
  · simp [Value.cells] at hcs
    obtain ⟨rfl, rfl, rfl⟩ := hcs
    unfold maxLen at hm
    omega
theorem cap_bytes {a0 : Option Addr} {len0 cap0 : Nat} {d0 : DataW H} {p0 : List MemPlace} (h0 : DataW.Trod enc Tryz.prog W 0 (fun _ => true) true 27 (.slice a0 len0 cap0) d0 p0) : len0 ≤ cap0 ∧ cap0 ≤ 9223372036854775807 := cap_of Tryz.underlying27 h0
end
end Go.Proofs.YtekejnjaiccnbaaGreatDoor

/- What the bulk says of WalKeeps' arguments. -/
namespace Go.Proofs.YtekejnjaiccnbaaGreatDoor
open Go.ChangeShapes Go.WideShapes Go.ChangeAt Go.RowKit
set_option linter.unusedVariables false

theorem ok_i64 {n : Int} (h : (Lit.int .i64 n).wf = true) : -9223372036854775808 ≤ n ∧ n ≤ 9223372036854775807 := by
  simp only [Lit.wf, Bool.and_eq_true, decide_eq_true_eq] at h
  have h1 : IntKind.i64.min = -9223372036854775808 := by decide
  have h2 : IntKind.i64.max = 9223372036854775807 := by decide
  omega
section
variable {H : Type} {enc : TypeId × Value → H} {W : World}
theorem bulk4 {a0 : Option Addr} {len0 cap0 : Nat} {d0 d1 d2 d3 : DataW H} {p0 : List MemPlace} (h0 : DataW.Trod enc Tryz.prog W 0 (fun _ => true) true 28 (.slice a0 len0 cap0) d0 p0) (hb : Rows.uptoBulkAll [d0, d1, d2, d3] ≤ 1048576) : len0 ≤ 1048573 := by
  have h1 := bulk_recs Tryz.underlying28 h0
  have h2 := bulk_pos d1
  have h3 := bulk_pos d2
  simp only [Rows.uptoBulkAll] at hb
  omega
end
end Go.Proofs.YtekejnjaiccnbaaGreatDoor

/- What the bulk says of WalCuts' arguments. -/
namespace Go.Proofs.YtekejnjaiccnbaaGreatDoor
open Go.ChangeShapes Go.WideShapes Go.ChangeAt Go.RowKit
set_option linter.unusedVariables false

section
variable {H : Type} {enc : TypeId × Value → H} {W : World}
theorem bulkC {a0 a1 : Option Addr} {len0 cap0 len1 cap1 : Nat} {d0 d1 d2 d3 : DataW H} {p0 p1 : List MemPlace} (h0 : DataW.Trod enc Tryz.prog W 0 (fun _ => true) true 28 (.slice a0 len0 cap0) d0 p0) (h1 : DataW.Trod enc Tryz.prog W 0 (fun _ => true) true 28 (.slice a1 len1 cap1) d1 p1) (hb : Rows.uptoBulkAll [d0, d1, d2, d3] ≤ 1048576) : len0 + len1 ≤ 1048572 := by
  have k1 := bulk_recs Tryz.underlying28 h0
  have k2 := bulk_recs Tryz.underlying28 h1
  have k3 := bulk_pos d2
  have k4 := bulk_pos d3
  simp only [Rows.uptoBulkAll] at hb
  omega
end
end Go.Proofs.YtekejnjaiccnbaaGreatDoor

