/- The document's type of a node over its parts' types. (Printed by mk_yf.py.) -/
import Derived.Test.YthbodkgcbfplgaaGreatYb
import Derived.Test.YthbodkgcbfplgaaGreatXj
namespace Go.Proofs.YthbodkgcbfplgaaGreat
open Go.RowKit
set_option linter.unusedVariables false
set_option linter.unusedSimpArgs false
set_option maxRecDepth 20000

def of4 (p : Int) (o11 o12 : Bool) : Int × Int := if (o11 = true ∨ o12 = true) then (if p = 2 then (2, 0) else (0, 191)) else (if p = 3 then (2, 0) else (0, 191))
def of5 (p : Int) : Int × Int := if p = 2 then (2, 0) else (0, 191)
def of7 (p : Int) : Int × Int := if p = 3 then (0, 191) else (p, 0)
def of6 (x y : Int) (s1 g1 c1 c2 bo : Bool) : Int × Int :=
  if x = 3 ∨ y = 3 ∨ (s1 = true ∧ ¬ (x = 2 ∧ y = 2)) ∨ (g1 = true ∧ ¬ (x = 2 ∧ y = 2)) then (0, 192) else if c1 = true ∧ c2 = true ∧ x = 1 ∧ y = 1 ∧ bo = false then (0, 192) else if x = 1 ∧ y = 1 then (1, 0) else (2, 0)
set_option maxHeartbeats 32000000 in
theorem ro_1 (op wi ba gr pa : Int) (tx : ByteArray) (ma na : Option Addr) (mn mc nn nc : Nat) (bo : Bool) (pv : Option Addr) (pn pc : Nat) (w : World)  :
    Calls Tryz.prog 17 #[.agg #[.int .i64 1, .int .i64 op, .string tx, .slice ma mn mc, .int .i64 wi, .int .i64 ba, .int .i64 gr, .slice na nn nc, .bool bo, .int .i64 pa], .slice pv pn pc] w fun e w' => e = .returned (.tuple #[.int .i64 1, .int .i64 0]) ∧ w.grownBy w' none := by
  have g0 := World.grownBy_alloc w (.cells #[.int .i64 1, .int .i64 op, .string tx, .slice ma mn mc, .int .i64 wi, .int .i64 ba, .int .i64 gr, .slice na nn nc, .bool bo, .int .i64 pa] 37) none
  have G0 := hid g0
  obtain ⟨c0, c1', c2', c3, c4, c5, c6, c7, c8, c9⟩ := nx_cells (heap_alloc_new w (.cells #[.int .i64 1, .int .i64 op, .string tx, .slice ma mn mc, .int .i64 wi, .int .i64 ba, .int .i64 gr, .slice na nn nc, .bool bo, .int .i64 pa] 37))
  clear g0
  go_enter Tryz.func17, Tryz.ntmps17
  go_wp2
  go_ret2
  exact ⟨rfl, G0.out⟩
set_option maxHeartbeats 32000000 in
theorem ro_2 (op wi ba gr pa : Int) (tx : ByteArray) (ma na : Option Addr) (mn mc nn nc : Nat) (bo : Bool) (pv : Option Addr) (pn pc : Nat) (w : World)  :
    Calls Tryz.prog 17 #[.agg #[.int .i64 2, .int .i64 op, .string tx, .slice ma mn mc, .int .i64 wi, .int .i64 ba, .int .i64 gr, .slice na nn nc, .bool bo, .int .i64 pa], .slice pv pn pc] w fun e w' => e = .returned (.tuple #[.int .i64 2, .int .i64 0]) ∧ w.grownBy w' none := by
  have g0 := World.grownBy_alloc w (.cells #[.int .i64 2, .int .i64 op, .string tx, .slice ma mn mc, .int .i64 wi, .int .i64 ba, .int .i64 gr, .slice na nn nc, .bool bo, .int .i64 pa] 37) none
  have G0 := hid g0
  obtain ⟨c0, c1', c2', c3, c4, c5, c6, c7, c8, c9⟩ := nx_cells (heap_alloc_new w (.cells #[.int .i64 2, .int .i64 op, .string tx, .slice ma mn mc, .int .i64 wi, .int .i64 ba, .int .i64 gr, .slice na nn nc, .bool bo, .int .i64 pa] 37))
  clear g0
  go_enter Tryz.func17, Tryz.ntmps17
  go_wp2
  go_ret2
  exact ⟨rfl, G0.out⟩
set_option maxHeartbeats 32000000 in
theorem ro_3 (op wi ba gr pa : Int) (tx : ByteArray) (ma na : Option Addr) (mn mc nn nc : Nat) (bo : Bool) (pv : Option Addr) (pn pc : Nat) (w : World)  :
    Calls Tryz.prog 17 #[.agg #[.int .i64 3, .int .i64 op, .string tx, .slice ma mn mc, .int .i64 wi, .int .i64 ba, .int .i64 gr, .slice na nn nc, .bool bo, .int .i64 pa], .slice pv pn pc] w fun e w' => e = .returned (.tuple #[.int .i64 3, .int .i64 0]) ∧ w.grownBy w' none := by
  have g0 := World.grownBy_alloc w (.cells #[.int .i64 3, .int .i64 op, .string tx, .slice ma mn mc, .int .i64 wi, .int .i64 ba, .int .i64 gr, .slice na nn nc, .bool bo, .int .i64 pa] 37) none
  have G0 := hid g0
  obtain ⟨c0, c1', c2', c3, c4, c5, c6, c7, c8, c9⟩ := nx_cells (heap_alloc_new w (.cells #[.int .i64 3, .int .i64 op, .string tx, .slice ma mn mc, .int .i64 wi, .int .i64 ba, .int .i64 gr, .slice na nn nc, .bool bo, .int .i64 pa] 37))
  clear g0
  go_enter Tryz.func17, Tryz.ntmps17
  go_wp2
  go_ret2
  exact ⟨rfl, G0.out⟩
set_option maxHeartbeats 32000000 in
theorem ro_4 (op wi ba gr pa : Int) (tx : ByteArray) (ma na : Option Addr) (mn mc nn nc : Nat) (bo : Bool) (pb po pn pc : Nat) (p0 : Int) (o11 o12 : Bool) (w : World) (hp : w.cell? ⟨pb, po, none⟩ = some (.int .i64 p0)) (hn : 1 ≤ pn) (ht : TyB p0) (h11 : (op == 11) = o11) (h12 : (op == 12) = o12) :
    Calls Tryz.prog 17 #[.agg #[.int .i64 4, .int .i64 op, .string tx, .slice ma mn mc, .int .i64 wi, .int .i64 ba, .int .i64 gr, .slice na nn nc, .bool bo, .int .i64 pa], .slice (some ⟨pb, po, none⟩) pn pc] w fun e w' => e = .returned (.tuple #[.int .i64 (of4 p0 o11 o12).1, .int .i64 (of4 p0 o11 o12).2]) ∧ w.grownBy w' none := by
  have g0 := World.grownBy_alloc w (.cells #[.int .i64 4, .int .i64 op, .string tx, .slice ma mn mc, .int .i64 wi, .int .i64 ba, .int .i64 gr, .slice na nn nc, .bool bo, .int .i64 pa] 37) none
  have G0 := hid g0
  obtain ⟨c0, c1', c2', c3, c4, c5, c6, c7, c8, c9⟩ := nx_cells (heap_alloc_new w (.cells #[.int .i64 4, .int .i64 op, .string tx, .slice ma mn mc, .int .i64 wi, .int .i64 ba, .int .i64 gr, .slice na nn nc, .bool bo, .int .i64 pa] 37))
  have hp2 := g0.cell hp (by simp)
  have hi : (0 : Int) < (pn : Int) := by omega
  clear g0 hp hn
  rcases ht with rfl | rfl | rfl
  · cases o11 with
    | false =>
      cases o12 with
      | false =>
        go_enter Tryz.func17, Tryz.ntmps17
        go_wp2
        go_ret2
        exact ⟨rfl, G0.out⟩
      | true =>
        go_enter Tryz.func17, Tryz.ntmps17
        go_wp2
        go_ret2
        exact ⟨rfl, G0.out⟩
    | true =>
      go_enter Tryz.func17, Tryz.ntmps17
      go_wp2
      go_ret2
      exact ⟨rfl, G0.out⟩
  · cases o11 with
    | false =>
      cases o12 with
      | false =>
        go_enter Tryz.func17, Tryz.ntmps17
        go_wp2
        go_ret2
        exact ⟨rfl, G0.out⟩
      | true =>
        go_enter Tryz.func17, Tryz.ntmps17
        go_wp2
        go_ret2
        exact ⟨rfl, G0.out⟩
    | true =>
      go_enter Tryz.func17, Tryz.ntmps17
      go_wp2
      go_ret2
      exact ⟨rfl, G0.out⟩
  · cases o11 with
    | false =>
      cases o12 with
      | false =>
        go_enter Tryz.func17, Tryz.ntmps17
        go_wp2
        go_ret2
        exact ⟨rfl, G0.out⟩
      | true =>
        go_enter Tryz.func17, Tryz.ntmps17
        go_wp2
        go_ret2
        exact ⟨rfl, G0.out⟩
    | true =>
      go_enter Tryz.func17, Tryz.ntmps17
      go_wp2
      go_ret2
      exact ⟨rfl, G0.out⟩
set_option maxHeartbeats 32000000 in
theorem ro_5 (op wi ba gr pa : Int) (tx : ByteArray) (ma na : Option Addr) (mn mc nn nc : Nat) (bo : Bool) (pb po pn pc : Nat) (p0 : Int) (w : World) (hp : w.cell? ⟨pb, po, none⟩ = some (.int .i64 p0)) (hn : 1 ≤ pn) (ht : TyB p0) :
    Calls Tryz.prog 17 #[.agg #[.int .i64 5, .int .i64 op, .string tx, .slice ma mn mc, .int .i64 wi, .int .i64 ba, .int .i64 gr, .slice na nn nc, .bool bo, .int .i64 pa], .slice (some ⟨pb, po, none⟩) pn pc] w fun e w' => e = .returned (.tuple #[.int .i64 (of5 p0).1, .int .i64 (of5 p0).2]) ∧ w.grownBy w' none := by
  have g0 := World.grownBy_alloc w (.cells #[.int .i64 5, .int .i64 op, .string tx, .slice ma mn mc, .int .i64 wi, .int .i64 ba, .int .i64 gr, .slice na nn nc, .bool bo, .int .i64 pa] 37) none
  have G0 := hid g0
  obtain ⟨c0, c1', c2', c3, c4, c5, c6, c7, c8, c9⟩ := nx_cells (heap_alloc_new w (.cells #[.int .i64 5, .int .i64 op, .string tx, .slice ma mn mc, .int .i64 wi, .int .i64 ba, .int .i64 gr, .slice na nn nc, .bool bo, .int .i64 pa] 37))
  have hp2 := g0.cell hp (by simp)
  have hi : (0 : Int) < (pn : Int) := by omega
  clear g0 hp hn
  rcases ht with rfl | rfl | rfl
  · go_enter Tryz.func17, Tryz.ntmps17
    go_wp2
    go_ret2
    exact ⟨rfl, G0.out⟩
  · go_enter Tryz.func17, Tryz.ntmps17
    go_wp2
    go_ret2
    exact ⟨rfl, G0.out⟩
  · go_enter Tryz.func17, Tryz.ntmps17
    go_wp2
    go_ret2
    exact ⟨rfl, G0.out⟩
set_option maxHeartbeats 32000000 in
theorem ro_7 (op wi ba gr pa : Int) (tx : ByteArray) (ma na : Option Addr) (mn mc nn nc : Nat) (bo : Bool) (pb po pn pc : Nat) (p0 : Int) (w : World) (hp : w.cell? ⟨pb, po, none⟩ = some (.int .i64 p0)) (hn : 1 ≤ pn) (ht : TyB p0) :
    Calls Tryz.prog 17 #[.agg #[.int .i64 7, .int .i64 op, .string tx, .slice ma mn mc, .int .i64 wi, .int .i64 ba, .int .i64 gr, .slice na nn nc, .bool bo, .int .i64 pa], .slice (some ⟨pb, po, none⟩) pn pc] w fun e w' => e = .returned (.tuple #[.int .i64 (of7 p0).1, .int .i64 (of7 p0).2]) ∧ w.grownBy w' none := by
  have g0 := World.grownBy_alloc w (.cells #[.int .i64 7, .int .i64 op, .string tx, .slice ma mn mc, .int .i64 wi, .int .i64 ba, .int .i64 gr, .slice na nn nc, .bool bo, .int .i64 pa] 37) none
  have G0 := hid g0
  obtain ⟨c0, c1', c2', c3, c4, c5, c6, c7, c8, c9⟩ := nx_cells (heap_alloc_new w (.cells #[.int .i64 7, .int .i64 op, .string tx, .slice ma mn mc, .int .i64 wi, .int .i64 ba, .int .i64 gr, .slice na nn nc, .bool bo, .int .i64 pa] 37))
  have hp2 := g0.cell hp (by simp)
  have hi : (0 : Int) < (pn : Int) := by omega
  clear g0 hp hn
  rcases ht with rfl | rfl | rfl
  · go_enter Tryz.func17, Tryz.ntmps17
    go_wp2
    go_ret2
    exact ⟨rfl, G0.out⟩
  · go_enter Tryz.func17, Tryz.ntmps17
    go_wp2
    go_ret2
    exact ⟨rfl, G0.out⟩
  · go_enter Tryz.func17, Tryz.ntmps17
    go_wp2
    go_ret2
    exact ⟨rfl, G0.out⟩
set_option maxHeartbeats 32000000 in
theorem ro_6 (op wi ba gr pa : Int) (tx : ByteArray) (ma na : Option Addr) (mn mc nn nc : Nat) (bo : Bool) (pb po pn pc : Nat) (p0 p1 : Int) (s1 g1 c1 c2 : Bool) (w : World) (hp : w.cell? ⟨pb, po, none⟩ = some (.int .i64 p0)) (hq : w.cell? ⟨pb, po + 1, none⟩ = some (.int .i64 p1)) (hn : 2 ≤ pn) (ht : TyB p0) (hu : TyB p1) (hs1 : decide (11 ≤ op) = s1) (hg1 : (gr != 0) = g1) (hc1 : decide (5 ≤ op) = c1) (hc2 : decide (op ≤ 10) = c2) :
    Calls Tryz.prog 17 #[.agg #[.int .i64 6, .int .i64 op, .string tx, .slice ma mn mc, .int .i64 wi, .int .i64 ba, .int .i64 gr, .slice na nn nc, .bool bo, .int .i64 pa], .slice (some ⟨pb, po, none⟩) pn pc] w fun e w' => e = .returned (.tuple #[.int .i64 (of6 p0 p1 s1 g1 c1 c2 bo).1, .int .i64 (of6 p0 p1 s1 g1 c1 c2 bo).2]) ∧ w.grownBy w' none := by
  have g0 := World.grownBy_alloc w (.cells #[.int .i64 6, .int .i64 op, .string tx, .slice ma mn mc, .int .i64 wi, .int .i64 ba, .int .i64 gr, .slice na nn nc, .bool bo, .int .i64 pa] 37) none
  have G0 := hid g0
  obtain ⟨c0, c1', c2', c3, c4, c5, c6, c7, c8, c9⟩ := nx_cells (heap_alloc_new w (.cells #[.int .i64 6, .int .i64 op, .string tx, .slice ma mn mc, .int .i64 wi, .int .i64 ba, .int .i64 gr, .slice na nn nc, .bool bo, .int .i64 pa] 37))
  have hp2 := g0.cell hp (by simp)
  have hq2 := g0.cell hq (by simp)
  have hi : (0 : Int) < (pn : Int) := by omega
  have hi1 : (1 : Int) < (pn : Int) := by omega
  clear g0 hp hq hn
  rcases ht with rfl | rfl | rfl
  · rcases hu with rfl | rfl | rfl
    · cases s1 with
      | false =>
        cases g1 with
        | false =>
          cases c1 with
          | false =>
            cases bo with
            | false =>
              go_enter Tryz.func17, Tryz.ntmps17
              go_wp2
              go_ret2
              exact ⟨rfl, G0.out⟩
            | true =>
              go_enter Tryz.func17, Tryz.ntmps17
              go_wp2
              go_ret2
              exact ⟨rfl, G0.out⟩
          | true =>
            cases c2 with
            | false =>
              cases bo with
              | false =>
                go_enter Tryz.func17, Tryz.ntmps17
                go_wp2
                go_ret2
                exact ⟨rfl, G0.out⟩
              | true =>
                go_enter Tryz.func17, Tryz.ntmps17
                go_wp2
                go_ret2
                exact ⟨rfl, G0.out⟩
            | true =>
              cases bo with
              | false =>
                go_enter Tryz.func17, Tryz.ntmps17
                go_wp2
                go_ret2
                exact ⟨rfl, G0.out⟩
              | true =>
                go_enter Tryz.func17, Tryz.ntmps17
                go_wp2
                go_ret2
                exact ⟨rfl, G0.out⟩
        | true =>
          go_enter Tryz.func17, Tryz.ntmps17
          go_wp2
          go_ret2
          exact ⟨rfl, G0.out⟩
      | true =>
        go_enter Tryz.func17, Tryz.ntmps17
        go_wp2
        go_ret2
        exact ⟨rfl, G0.out⟩
    · cases s1 with
      | false =>
        cases g1 with
        | false =>
          cases c1 with
          | false =>
            cases bo with
            | false =>
              go_enter Tryz.func17, Tryz.ntmps17
              go_wp2
              go_ret2
              exact ⟨rfl, G0.out⟩
            | true =>
              go_enter Tryz.func17, Tryz.ntmps17
              go_wp2
              go_ret2
              exact ⟨rfl, G0.out⟩
          | true =>
            cases c2 with
            | false =>
              cases bo with
              | false =>
                go_enter Tryz.func17, Tryz.ntmps17
                go_wp2
                go_ret2
                exact ⟨rfl, G0.out⟩
              | true =>
                go_enter Tryz.func17, Tryz.ntmps17
                go_wp2
                go_ret2
                exact ⟨rfl, G0.out⟩
            | true =>
              cases bo with
              | false =>
                go_enter Tryz.func17, Tryz.ntmps17
                go_wp2
                go_ret2
                exact ⟨rfl, G0.out⟩
              | true =>
                go_enter Tryz.func17, Tryz.ntmps17
                go_wp2
                go_ret2
                exact ⟨rfl, G0.out⟩
        | true =>
          go_enter Tryz.func17, Tryz.ntmps17
          go_wp2
          go_ret2
          exact ⟨rfl, G0.out⟩
      | true =>
        go_enter Tryz.func17, Tryz.ntmps17
        go_wp2
        go_ret2
        exact ⟨rfl, G0.out⟩
    · go_enter Tryz.func17, Tryz.ntmps17
      go_wp2
      go_ret2
      exact ⟨rfl, G0.out⟩
  · rcases hu with rfl | rfl | rfl
    · cases s1 with
      | false =>
        cases g1 with
        | false =>
          cases c1 with
          | false =>
            cases bo with
            | false =>
              go_enter Tryz.func17, Tryz.ntmps17
              go_wp2
              go_ret2
              exact ⟨rfl, G0.out⟩
            | true =>
              go_enter Tryz.func17, Tryz.ntmps17
              go_wp2
              go_ret2
              exact ⟨rfl, G0.out⟩
          | true =>
            cases c2 with
            | false =>
              cases bo with
              | false =>
                go_enter Tryz.func17, Tryz.ntmps17
                go_wp2
                go_ret2
                exact ⟨rfl, G0.out⟩
              | true =>
                go_enter Tryz.func17, Tryz.ntmps17
                go_wp2
                go_ret2
                exact ⟨rfl, G0.out⟩
            | true =>
              cases bo with
              | false =>
                go_enter Tryz.func17, Tryz.ntmps17
                go_wp2
                go_ret2
                exact ⟨rfl, G0.out⟩
              | true =>
                go_enter Tryz.func17, Tryz.ntmps17
                go_wp2
                go_ret2
                exact ⟨rfl, G0.out⟩
        | true =>
          go_enter Tryz.func17, Tryz.ntmps17
          go_wp2
          go_ret2
          exact ⟨rfl, G0.out⟩
      | true =>
        go_enter Tryz.func17, Tryz.ntmps17
        go_wp2
        go_ret2
        exact ⟨rfl, G0.out⟩
    · cases s1 with
      | false =>
        cases g1 with
        | false =>
          cases c1 with
          | false =>
            cases bo with
            | false =>
              go_enter Tryz.func17, Tryz.ntmps17
              go_wp2
              go_ret2
              exact ⟨rfl, G0.out⟩
            | true =>
              go_enter Tryz.func17, Tryz.ntmps17
              go_wp2
              go_ret2
              exact ⟨rfl, G0.out⟩
          | true =>
            cases c2 with
            | false =>
              cases bo with
              | false =>
                go_enter Tryz.func17, Tryz.ntmps17
                go_wp2
                go_ret2
                exact ⟨rfl, G0.out⟩
              | true =>
                go_enter Tryz.func17, Tryz.ntmps17
                go_wp2
                go_ret2
                exact ⟨rfl, G0.out⟩
            | true =>
              cases bo with
              | false =>
                go_enter Tryz.func17, Tryz.ntmps17
                go_wp2
                go_ret2
                exact ⟨rfl, G0.out⟩
              | true =>
                go_enter Tryz.func17, Tryz.ntmps17
                go_wp2
                go_ret2
                exact ⟨rfl, G0.out⟩
        | true =>
          cases c1 with
          | false =>
            cases bo with
            | false =>
              go_enter Tryz.func17, Tryz.ntmps17
              go_wp2
              go_ret2
              exact ⟨rfl, G0.out⟩
            | true =>
              go_enter Tryz.func17, Tryz.ntmps17
              go_wp2
              go_ret2
              exact ⟨rfl, G0.out⟩
          | true =>
            cases c2 with
            | false =>
              cases bo with
              | false =>
                go_enter Tryz.func17, Tryz.ntmps17
                go_wp2
                go_ret2
                exact ⟨rfl, G0.out⟩
              | true =>
                go_enter Tryz.func17, Tryz.ntmps17
                go_wp2
                go_ret2
                exact ⟨rfl, G0.out⟩
            | true =>
              cases bo with
              | false =>
                go_enter Tryz.func17, Tryz.ntmps17
                go_wp2
                go_ret2
                exact ⟨rfl, G0.out⟩
              | true =>
                go_enter Tryz.func17, Tryz.ntmps17
                go_wp2
                go_ret2
                exact ⟨rfl, G0.out⟩
      | true =>
        cases g1 with
        | false =>
          cases c1 with
          | false =>
            cases bo with
            | false =>
              go_enter Tryz.func17, Tryz.ntmps17
              go_wp2
              go_ret2
              exact ⟨rfl, G0.out⟩
            | true =>
              go_enter Tryz.func17, Tryz.ntmps17
              go_wp2
              go_ret2
              exact ⟨rfl, G0.out⟩
          | true =>
            cases c2 with
            | false =>
              cases bo with
              | false =>
                go_enter Tryz.func17, Tryz.ntmps17
                go_wp2
                go_ret2
                exact ⟨rfl, G0.out⟩
              | true =>
                go_enter Tryz.func17, Tryz.ntmps17
                go_wp2
                go_ret2
                exact ⟨rfl, G0.out⟩
            | true =>
              cases bo with
              | false =>
                go_enter Tryz.func17, Tryz.ntmps17
                go_wp2
                go_ret2
                exact ⟨rfl, G0.out⟩
              | true =>
                go_enter Tryz.func17, Tryz.ntmps17
                go_wp2
                go_ret2
                exact ⟨rfl, G0.out⟩
        | true =>
          cases c1 with
          | false =>
            cases bo with
            | false =>
              go_enter Tryz.func17, Tryz.ntmps17
              go_wp2
              go_ret2
              exact ⟨rfl, G0.out⟩
            | true =>
              go_enter Tryz.func17, Tryz.ntmps17
              go_wp2
              go_ret2
              exact ⟨rfl, G0.out⟩
          | true =>
            cases c2 with
            | false =>
              cases bo with
              | false =>
                go_enter Tryz.func17, Tryz.ntmps17
                go_wp2
                go_ret2
                exact ⟨rfl, G0.out⟩
              | true =>
                go_enter Tryz.func17, Tryz.ntmps17
                go_wp2
                go_ret2
                exact ⟨rfl, G0.out⟩
            | true =>
              cases bo with
              | false =>
                go_enter Tryz.func17, Tryz.ntmps17
                go_wp2
                go_ret2
                exact ⟨rfl, G0.out⟩
              | true =>
                go_enter Tryz.func17, Tryz.ntmps17
                go_wp2
                go_ret2
                exact ⟨rfl, G0.out⟩
    · go_enter Tryz.func17, Tryz.ntmps17
      go_wp2
      go_ret2
      exact ⟨rfl, G0.out⟩
  · rcases hu with rfl | rfl | rfl
    · go_enter Tryz.func17, Tryz.ntmps17
      go_wp2
      go_ret2
      exact ⟨rfl, G0.out⟩
    · go_enter Tryz.func17, Tryz.ntmps17
      go_wp2
      go_ret2
      exact ⟨rfl, G0.out⟩
    · go_enter Tryz.func17, Tryz.ntmps17
      go_wp2
      go_ret2
      exact ⟨rfl, G0.out⟩
end Go.Proofs.YthbodkgcbfplgaaGreat
