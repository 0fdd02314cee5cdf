/- Several texts in one: Sr, Ss. -/
import Derived.Test.YtaljjemickonaaaGreatMt
/- Rings: the life of a member, walked. -/
namespace Go.Proofs.YtaljjemickonaaaGreat
open Go.RowKit
set_option linter.unusedVariables false
set_option maxRecDepth 20000

theorem set20 {w : World} {g : Nat} {x y : Value} {t : TypeId} (h : w.heap[g]? = some (.cells #[x, y] t (0, 0))) (v : Value) : (w.setCell ⟨g, 0, none⟩ v).heap[g]? = some (.cells #[v, y] t (0, 0)) := by
  simp [World.setCell, Array.getElem?_modify, h]
theorem chg0_of {E id : Int} {ms : List Mem} (h : chgE 0 E ms id = 0) : ringOk ms = true ∧ E ≠ 18446744073709551615 ∧ idOk id = true ∧ hasI ms id = false := by
  unfold chgE at h
  split at h
  · rename_i hx
    refine ⟨hx.1, hx.2.1, hx.2.2, ?_⟩
    have h : (if hasI ms id = true then (131 : Int) else 0) = 0 := h
    cases hh : hasI ms id with
    | false => rfl
    | true => rw [hh] at h; simp at h
  · cases h
set_option maxHeartbeats 8000000 in
theorem rounds_not (E : Int) (a : Option Addr) (n c : Nat) (raw : List MRow) (ms : List Mem) (id : Int) (w : World) (hr : MsRd w a ms raw) (hnil : a = none → c = 0) (hE : 0 ≤ E ∧ E ≤ 18446744073709551615) (hn : ms.length = n) (hz : n ≤ 3518437208800) (hz2 : ∀ s ∈ ms, s.2.2.length ≤ 35184372088832) (hq : chgE 0 E ms id ≠ 0 ∨ 4611686018427387904 < E) :
    Calls Tryz.prog 8 #[.agg #[.int .u64 E, .slice a n c], .int .i64 id] w fun e w' => e = .returned (.bool true) ∧ w.grownBy w' none := by
  have AW : Hid (∀ u, Calls Tryz.prog 24 #[] u fun e w' => e = .returned (.bool true) ∧ u.grownBy w' none) := r_awake
  have CP : Hid (∀ u a c raw, MsRd u a ms raw → Calls Tryz.prog 9 #[.agg #[.int .u64 E, .slice a n c]] u fun e w' => CpOut E ms n u e w') := fun u a c raw h => cp_any h hn hz hz2
  have JO : Hid (∀ u a c raw, MsRd u a ms raw → (a = none → c = 0) → Calls Tryz.prog 10 #[.agg #[.int .u64 E, .slice a n c], .int .i64 id] u fun e w' => NoOut (chgE 0 E ms id) u e w') := fun u a c raw h h1 => (f_chg0 E ms raw id a n c u h hn h1 hE hz hz2).mono fun e w' h => rg_no rfl h
  have hq' : (chgE 0 E ms id != 0) = true ∨ 4611686018427387904 < E := by
    rcases hq with h | h
    · exact .inl (by simp [h])
    · exact .inr h
  generalize chgE 0 E ms id = q at JO hq'
  have HBr : Hid (RgBox (w.alloc (.cells #[.int .u64 E, .slice a n c] 25)) w.heap.size E a n c ms raw) := RgBox.made hr hnil hn
  have HG : Hid (w.grownBy (w.alloc (.cells #[.int .u64 E, .slice a n c] 25)) none) := World.grownBy_alloc _ _ none
  have HQ : Hid ((q != 0) = true ∨ 4611686018427387904 < E) := hq'
  clear hr hnil hE hn hz hz2 hq hq'
  obtain ⟨B, eB⟩ : ∃ B, w.heap.size = B := ⟨_, rfl⟩
  have EB : Hid (w.heap.size = B) := eB
  rw [eB] at HBr
  clear eB
  go_enter Tryz.func8, Tryz.ntmps8
  obtain ⟨x0r, x1r⟩ := HBr.out.cells
  have C0 := CP.out _ a c _ HBr.out.rd
  go_wp2_with fail
  try rw [EB.out]
  generalize w.alloc (.cells #[.int .u64 E, .slice a n c] 25) = W at *
  clear x0r x1r
  refine C0.mono ?_
  clear C0
  rintro e u1 ⟨a1, c1, raw1, rfl, m9, nl9, g9⟩
  replace HG : Hid (w.grownBy (u1) none) := HG.out.trans g9
  replace HBr : Hid (RgBox (u1) B (E) a n c ms raw) := HBr.out.grown g9
  have C1 := JO.out _ _ _ _ m9 nl9
  clear g9  m9 nl9
  go_wp2_with fail
  refine C1.mono ?_
  clear C1
  rintro e u2 ⟨ej, aj, nj, cj, rfl, g9⟩
  have gA := g9.trans (World.grownBy_alloc u2 (.cells #[.int .u64 ej, .slice aj nj cj] 25) none)
  replace HG : Hid (w.grownBy (u2.alloc (.cells #[.int .u64 ej, .slice aj nj cj] 25)) none) := HG.out.trans gA
  replace HBr : Hid (RgBox (u2.alloc (.cells #[.int .u64 ej, .slice aj nj cj] 25)) B (E) a n c ms raw) := HBr.out.grown gA
  clear gA g9
  have HCL := AW.out (u2.alloc (.cells #[.int .u64 ej, .slice aj nj cj] 25))
  obtain ⟨x0, x1⟩ := HBr.out.cells
  have hq8 : (q != 0) = true ∨ (q != 0) = false ∧ 4611686018427387904 < E := by
    cases h : (q != 0) with
    | true => exact .inl rfl
    | false => exact .inr ⟨rfl, by have := HQ.out; rw [h] at this; simpa using this⟩
  rcases hq8 with hq9 | ⟨hq9, hq7⟩
  · go_wp2_with fail
    refine HCL.mono ?_
    rintro e w9 ⟨rfl, hg9⟩
    have HG9 : Hid (w.grownBy w9 none) := HG.out.trans hg9
    clear hg9
    go_wp2
    go_ret
    exact ⟨rfl, HG9.out⟩
  · go_wp2_with fail
    refine HCL.mono ?_
    rintro e w9 ⟨rfl, hg9⟩
    have HG9 : Hid (w.grownBy w9 none) := HG.out.trans hg9
    clear hg9
    go_wp2
    go_ret
    exact ⟨rfl, HG9.out⟩
end Go.Proofs.YtaljjemickonaaaGreat

/- Rings: over a whole life a ring comes back to what it was. -/
namespace Go.Proofs.YtaljjemickonaaaGreat
open Go.RowKit
set_option linter.unusedVariables false
set_option maxRecDepth 20000

theorem RgBox.from {w w' : World} {B : Nat} {E : Int} {a : Option Addr} {n c : Nat} {ms : List Mem} {raw : List MRow} (h : RgBox w B E a n c ms raw) (hg : w.grownBy w' none) : RgBox w' B E a n c ms raw := h.grown hg
set_option maxHeartbeats 16000000 in
theorem rounds_yes (E : Int) (a : Option Addr) (n c : Nat) (raw : List MRow) (ms : List Mem) (id : Int) (w : World) (hr : MsRd w a ms raw) (hnil : a = none → c = 0) (hE : 0 ≤ E ∧ E ≤ 4611686018427387904) (hn : ms.length = n) (hq : chgE 0 E ms id = 0) :
    Calls Tryz.prog 8 #[.agg #[.int .u64 E, .slice a n c], .int .i64 id] w fun e w' => e = .returned (.bool true) ∧ w.grownBy w' none := by
  obtain ⟨ho, hE9, hid, hh⟩ := chg0_of hq
  have l1 := life ms id 1 ho hid hh rfl
  have l2 := life ms id 2 ho hid hh rfl
  have l3 := life ms id 3 ho hid hh rfl
  have k1 := life_chg l1 (E + 1) (by omega) hid
  have k2 := life_chg l2 (E + 2) (by omega) hid
  have k3 := life_chg l3 (E + 3) (by omega) hid
  have k4 := life_end ho hh (E + 4) (by omega) hid
  have AW : Hid (∀ u, Calls Tryz.prog 24 #[] u fun e w' => e = .returned (.bool true) ∧ u.grownBy w' none) := r_awake
  have L1 : Hid ((withM ms id 1).length = n + 1) := by show _ = _; rw [l1.len, hn]
  have L2 : Hid ((withM ms id 2).length = n + 1) := by show _ = _; rw [l2.len, hn]
  have L3 : Hid ((withM ms id 3).length = n + 1) := by show _ = _; rw [l3.len, hn]
  have L0 : Hid (ms.length = n) := hn
  have CP0 : Hid (∀ E u a c raw, MsRd u a ms raw → Calls Tryz.prog 9 #[.agg #[.int .u64 E, .slice a n c]] u fun e w' => CpOut E ms n u e w') := fun E u a c raw h => cp_ok h hn ho
  have CP1 : Hid (∀ E u a c raw, MsRd u a (withM ms id 1) raw → Calls Tryz.prog 9 #[.agg #[.int .u64 E, .slice a (n + 1 : Nat) c]] u fun e w' => CpOut E (withM ms id 1) (n + 1) u e w') := fun E u a c raw h => cp_ok h L1.out l1.ok
  have CP2 : Hid (∀ E u a c raw, MsRd u a (withM ms id 2) raw → Calls Tryz.prog 9 #[.agg #[.int .u64 E, .slice a (n + 1 : Nat) c]] u fun e w' => CpOut E (withM ms id 2) (n + 1) u e w') := fun E u a c raw h => cp_ok h L2.out l2.ok
  have CP3 : Hid (∀ E u a c raw, MsRd u a (withM ms id 3) raw → Calls Tryz.prog 9 #[.agg #[.int .u64 E, .slice a (n + 1 : Nat) c]] u fun e w' => CpOut E (withM ms id 3) (n + 1) u e w') := fun E u a c raw h => cp_ok h L3.out l3.ok
  have J0 : Hid (∀ u a c raw, MsRd u a ms raw → (a = none → c = 0) → Calls Tryz.prog 10 #[.agg #[.int .u64 E, .slice a n c], .int .i64 id] u fun e w' => YesOut (E + 1) (withM ms id 1) (n + 1) u e w') := fun u a c raw h h1 => (ch0 h hn h1 (by omega) ho).mono fun e w' h => rg_yes hq rfl rfl L1.out h
  have J1 : Hid (∀ u a c raw, MsRd u a (withM ms id 1) raw → (a = none → c = 0) → Calls Tryz.prog 10 #[.agg #[.int .u64 (E + 1), .slice a (n + 1 : Nat) c], .int .i64 id] u fun e w' => NoOut 131 u e w') := fun u a c raw h h1 => (ch0 h L1.out h1 (by omega) l1.ok).mono fun e w' h => rg_no k1.1 h
  have V1 : Hid (∀ u a c raw, MsRd u a (withM ms id 1) raw → (a = none → c = 0) → Calls Tryz.prog 12 #[.agg #[.int .u64 (E + 1), .slice a (n + 1 : Nat) c], .int .i64 id] u fun e w' => NoOut 132 u e w') := fun u a c raw h h1 => (ch2 h L1.out h1 (by omega) l1.ok).mono fun e w' h => rg_no k1.2.2.1 h
  have A1 : Hid (∀ u a c raw, MsRd u a (withM ms id 1) raw → (a = none → c = 0) → Calls Tryz.prog 11 #[.agg #[.int .u64 (E + 1), .slice a (n + 1 : Nat) c], .int .i64 id] u fun e w' => YesOut (E + 2) (withM ms id 2) (n + 1) u e w') := fun u a c raw h h1 => (ch1 h L1.out h1 (by omega) l1.ok).mono fun e w' h => rg_yes k1.2.1 (by omega) k1.2.2.2.2.1 L2.out h
  have A2 : Hid (∀ u a c raw, MsRd u a (withM ms id 2) raw → (a = none → c = 0) → Calls Tryz.prog 11 #[.agg #[.int .u64 (E + 2), .slice a (n + 1 : Nat) c], .int .i64 id] u fun e w' => NoOut 132 u e w') := fun u a c raw h h1 => (ch1 h L2.out h1 (by omega) l2.ok).mono fun e w' h => rg_no k2.2.1 h
  have G2 : Hid (∀ u a c raw, MsRd u a (withM ms id 2) raw → (a = none → c = 0) → Calls Tryz.prog 13 #[.agg #[.int .u64 (E + 2), .slice a (n + 1 : Nat) c], .int .i64 id] u fun e w' => NoOut 132 u e w') := fun u a c raw h h1 => (ch3 h L2.out h1 (by omega) l2.ok).mono fun e w' h => rg_no k2.2.2.2.1 h
  have V2 : Hid (∀ u a c raw, MsRd u a (withM ms id 2) raw → (a = none → c = 0) → Calls Tryz.prog 12 #[.agg #[.int .u64 (E + 2), .slice a (n + 1 : Nat) c], .int .i64 id] u fun e w' => YesOut (E + 3) (withM ms id 3) (n + 1) u e w') := fun u a c raw h h1 => (ch2 h L2.out h1 (by omega) l2.ok).mono fun e w' h => rg_yes k2.2.2.1 (by omega) k2.2.2.2.2.2.1 L3.out h
  have G3 : Hid (∀ u a c raw, MsRd u a (withM ms id 3) raw → (a = none → c = 0) → Calls Tryz.prog 13 #[.agg #[.int .u64 (E + 3), .slice a (n + 1 : Nat) c], .int .i64 id] u fun e w' => YesOut (E + 4) ms n u e w') := fun u a c raw h h1 => (ch3 h L3.out h1 (by omega) l3.ok).mono fun e w' h => rg_yes k3.2.2.2.1 (by omega) k3.2.2.2.2.2.2 hn h
  have G4 : Hid (∀ u a c raw, MsRd u a ms raw → (a = none → c = 0) → Calls Tryz.prog 13 #[.agg #[.int .u64 (E + 4), .slice a n c], .int .i64 id] u fun e w' => NoOut 131 u e w') := fun u a c raw h h1 => (ch3 h hn h1 (by omega) ho).mono fun e w' h => rg_no k4 h
  have SM : Hid (∀ u a b c d ra rb, MsRd u a ms ra → MsRd u b ms rb → Calls Tryz.prog 14 #[.agg #[.int .u64 E, .slice a n c], .agg #[.int .u64 E, .slice b n d]] u fun e w' => e = .returned (.bool true) ∧ u.grownBy w' none) := fun u a b c d ra rb h1 h2 => by
    refine (rsame E E a b ra rb ms ms n n c d u h1 h2 hn hn (by have := (ok_small ho).1; omega) (fun s hs => by have := (ok_small ho).2 s hs; omega)).mono ?_
    rintro e w' ⟨rfl, h⟩
    exact ⟨by simp, h⟩
  have S1 : Hid (∀ u a c raw, MsRd u a (withM ms id 1) raw → Calls Tryz.prog 17 #[.agg #[.int .u64 (E + 1), .slice a (n + 1 : Nat) c], .int .i64 id] u fun e w' => e = .returned (.int .i64 1) ∧ u.grownBy w' none) := fun u a c raw h => st_ok h L1.out l1.ok (by unfold stOf; rw [l1.ok, l1.has, l1.st]; rfl)
  have S2 : Hid (∀ u a c raw, MsRd u a (withM ms id 2) raw → Calls Tryz.prog 17 #[.agg #[.int .u64 (E + 2), .slice a (n + 1 : Nat) c], .int .i64 id] u fun e w' => e = .returned (.int .i64 2) ∧ u.grownBy w' none) := fun u a c raw h => st_ok h L2.out l2.ok (by unfold stOf; rw [l2.ok, l2.has, l2.st]; rfl)
  have S3 : Hid (∀ u a c raw, MsRd u a (withM ms id 3) raw → Calls Tryz.prog 17 #[.agg #[.int .u64 (E + 3), .slice a (n + 1 : Nat) c], .int .i64 id] u fun e w' => e = .returned (.int .i64 3) ∧ u.grownBy w' none) := fun u a c raw h => st_ok h L3.out l3.ok (by unfold stOf; rw [l3.ok, l3.has, l3.st]; rfl)
  have HBr : Hid (RgBox (w.alloc (.cells #[.int .u64 E, .slice a n c] 25)) w.heap.size E a n c ms raw) := RgBox.made hr hnil hn
  have HG : Hid (w.grownBy (w.alloc (.cells #[.int .u64 E, .slice a n c] 25)) none) := World.grownBy_alloc _ _ none
  have hbig : ¬ (4611686018427387904 < E) := by omega
  have hsub : IntKind.u64.wrap E = E := by
    have : IntKind.u64.wrap E = E % 18446744073709551616 := by simp [IntKind.wrap, IntKind.bits, IntKind.signed]
    omega
  clear hr hnil hE hn hq k1 k2 k3 k4 l1 l2 l3 ho hE9 hid hh
  obtain ⟨n1, en1⟩ : ∃ n1 : Nat, n + 1 = n1 := ⟨_, rfl⟩
  rw [en1] at L1 L2 L3 CP1 CP2 CP3 J0 J1 V1 A1 A2 G2 V2 G3 S1 S2 S3
  clear en1
  generalize withM ms id 1 = M1 at *
  generalize withM ms id 2 = M2 at *
  generalize withM ms id 3 = M3 at *
  obtain ⟨B, eB⟩ : ∃ B, w.heap.size = B := ⟨_, rfl⟩
  have EB : Hid (w.heap.size = B) := eB
  rw [eB] at HBr
  clear eB
  go_enter Tryz.func8, Tryz.ntmps8
  obtain ⟨x0r, x1r⟩ := HBr.out.cells
  have C0 := CP0.out (E) _ a c _ HBr.out.rd
  go_wp2_with fail
  try rw [EB.out]
  generalize w.alloc (.cells #[.int .u64 E, .slice a n c] 25) = W at *
  clear x0r x1r
  refine C0.mono ?_
  clear C0
  rintro e u1 ⟨a1, c1, raw1, rfl, m9, nl9, g9⟩
  replace HG : Hid (w.grownBy (u1) none) := HG.out.trans g9
  replace HBr : Hid (RgBox (u1) B (E) a n c ms raw) := HBr.out.grown g9
  have C9 := J0.out _ _ _ _ m9 nl9
  clear g9  m9 nl9
  go_wp2_with fail
  refine C9.mono ?_
  clear C9
  rintro e u2 ⟨aa, ca, rawa, rfl, m9, nl9, g9⟩
  obtain ⟨Ba, eBa⟩ : ∃ B, u2.heap.size = B := ⟨_, rfl⟩
  have EBa : Hid (u2.heap.size = Ba) := eBa
  have hx := RgBox.made (E := E + 1) m9 nl9 L1.out
  rw [eBa] at hx
  have gA := g9.trans (World.grownBy_alloc u2 (.cells #[.int .u64 (E + 1), .slice aa n1 ca] 25) none)
  replace HG : Hid (w.grownBy (u2.alloc (.cells #[.int .u64 (E + 1), .slice aa n1 ca] 25)) none) := HG.out.trans gA
  replace HBr : Hid (RgBox (u2.alloc (.cells #[.int .u64 (E + 1), .slice aa n1 ca] 25)) B (E) a n c ms raw) := HBr.out.grown gA
  have HBa : Hid (RgBox (u2.alloc (.cells #[.int .u64 (E + 1), .slice aa n1 ca] 25)) Ba (E + 1) aa n1 ca M1 rawa) := hx
  clear hx gA m9 nl9 g9 eBa
  obtain ⟨x0a, x1a⟩ := HBa.out.cells
  obtain ⟨x0r, x1r⟩ := HBr.out.cells
  have C3 := CP1.out (E + 1) _ aa ca _ HBa.out.rd
  go_wp2_with fail
  try rw [EBa.out]
  generalize u2.alloc (.cells #[.int .u64 (E + 1), .slice aa n1 ca] 25) = W2 at *
  clear x0a x1a
  clear x0r x1r
  refine C3.mono ?_
  clear C3
  rintro e u4 ⟨a1, c1, raw1, rfl, m9, nl9, g9⟩
  replace HG : Hid (w.grownBy (u4) none) := HG.out.trans g9
  replace HBr : Hid (RgBox (u4) B (E) a n c ms raw) := HBr.out.grown g9
  replace HBa : Hid (RgBox (u4) Ba (E + 1) aa n1 ca M1 rawa) := HBa.out.grown g9
  have C9 := J1.out _ _ _ _ m9 nl9
  clear g9  m9 nl9
  go_wp2_with fail
  refine C9.mono ?_
  clear C9
  rintro e u5 ⟨ep, ap, np, cp, rfl, g9⟩
  have gA := g9.trans (World.grownBy_alloc u5 (.cells #[.int .u64 ep, .slice ap np cp] 25) none)
  replace HG : Hid (w.grownBy (u5.alloc (.cells #[.int .u64 ep, .slice ap np cp] 25)) none) := HG.out.trans gA
  replace HBr : Hid (RgBox (u5.alloc (.cells #[.int .u64 ep, .slice ap np cp] 25)) B (E) a n c ms raw) := HBr.out.grown gA
  replace HBa : Hid (RgBox (u5.alloc (.cells #[.int .u64 ep, .slice ap np cp] 25)) Ba (E + 1) aa n1 ca M1 rawa) := HBa.out.grown gA
  clear gA g9
  obtain ⟨x0a, x1a⟩ := HBa.out.cells
  have C6 := CP1.out (E + 1) _ aa ca _ HBa.out.rd
  go_wp2_with fail
  try rw [HG.out]
  generalize u5.alloc (.cells #[.int .u64 ep, .slice ap np cp] 25) = W5 at *
  clear x0a x1a
  refine C6.mono ?_
  clear C6
  rintro e u7 ⟨a1, c1, raw1, rfl, m9, nl9, g9⟩
  replace HG : Hid (w.grownBy (u7) none) := HG.out.trans g9
  replace HBr : Hid (RgBox (u7) B (E) a n c ms raw) := HBr.out.grown g9
  replace HBa : Hid (RgBox (u7) Ba (E + 1) aa n1 ca M1 rawa) := HBa.out.grown g9
  have C9 := V1.out _ _ _ _ m9 nl9
  clear g9  m9 nl9
  go_wp2_with fail
  refine C9.mono ?_
  clear C9
  rintro e u8 ⟨eq, aq, nq, cq, rfl, g9⟩
  have gA := g9.trans (World.grownBy_alloc u8 (.cells #[.int .u64 eq, .slice aq nq cq] 25) none)
  replace HG : Hid (w.grownBy (u8.alloc (.cells #[.int .u64 eq, .slice aq nq cq] 25)) none) := HG.out.trans gA
  replace HBr : Hid (RgBox (u8.alloc (.cells #[.int .u64 eq, .slice aq nq cq] 25)) B (E) a n c ms raw) := HBr.out.grown gA
  replace HBa : Hid (RgBox (u8.alloc (.cells #[.int .u64 eq, .slice aq nq cq] 25)) Ba (E + 1) aa n1 ca M1 rawa) := HBa.out.grown gA
  clear gA g9
  obtain ⟨x0a, x1a⟩ := HBa.out.cells
  have C9 := CP1.out (E + 1) _ aa ca _ HBa.out.rd
  go_wp2_with fail
  try rw [HG.out]
  generalize u8.alloc (.cells #[.int .u64 eq, .slice aq nq cq] 25) = W8 at *
  clear x0a x1a
  refine C9.mono ?_
  clear C9
  rintro e u10 ⟨a1, c1, raw1, rfl, m9, nl9, g9⟩
  replace HG : Hid (w.grownBy (u10) none) := HG.out.trans g9
  replace HBr : Hid (RgBox (u10) B (E) a n c ms raw) := HBr.out.grown g9
  replace HBa : Hid (RgBox (u10) Ba (E + 1) aa n1 ca M1 rawa) := HBa.out.grown g9
  have C9 := A1.out _ _ _ _ m9 nl9
  clear g9  m9 nl9
  go_wp2_with fail
  refine C9.mono ?_
  clear C9
  rintro e u11 ⟨ab, cb, rawb, rfl, m9, nl9, g9⟩
  obtain ⟨Bb, eBb⟩ : ∃ B, u11.heap.size = B := ⟨_, rfl⟩
  have EBb : Hid (u11.heap.size = Bb) := eBb
  have hx := RgBox.made (E := E + 2) m9 nl9 L2.out
  rw [eBb] at hx
  have gA := g9.trans (World.grownBy_alloc u11 (.cells #[.int .u64 (E + 2), .slice ab n1 cb] 25) none)
  replace HG : Hid (w.grownBy (u11.alloc (.cells #[.int .u64 (E + 2), .slice ab n1 cb] 25)) none) := HG.out.trans gA
  replace HBr : Hid (RgBox (u11.alloc (.cells #[.int .u64 (E + 2), .slice ab n1 cb] 25)) B (E) a n c ms raw) := HBr.out.grown gA
  replace HBa : Hid (RgBox (u11.alloc (.cells #[.int .u64 (E + 2), .slice ab n1 cb] 25)) Ba (E + 1) aa n1 ca M1 rawa) := HBa.out.grown gA
  have HBb : Hid (RgBox (u11.alloc (.cells #[.int .u64 (E + 2), .slice ab n1 cb] 25)) Bb (E + 2) ab n1 cb M2 rawb) := hx
  clear hx gA m9 nl9 g9 eBb
  obtain ⟨x0b, x1b⟩ := HBb.out.cells
  have C12 := CP2.out (E + 2) _ ab cb _ HBb.out.rd
  go_wp2_with fail
  try rw [EBb.out]
  generalize u11.alloc (.cells #[.int .u64 (E + 2), .slice ab n1 cb] 25) = W11 at *
  clear x0b x1b
  refine C12.mono ?_
  clear C12
  rintro e u13 ⟨a1, c1, raw1, rfl, m9, nl9, g9⟩
  replace HG : Hid (w.grownBy (u13) none) := HG.out.trans g9
  replace HBr : Hid (RgBox (u13) B (E) a n c ms raw) := HBr.out.grown g9
  replace HBa : Hid (RgBox (u13) Ba (E + 1) aa n1 ca M1 rawa) := HBa.out.grown g9
  replace HBb : Hid (RgBox (u13) Bb (E + 2) ab n1 cb M2 rawb) := HBb.out.grown g9
  have C9 := A2.out _ _ _ _ m9 nl9
  clear g9  m9 nl9
  go_wp2_with fail
  refine C9.mono ?_
  clear C9
  rintro e u14 ⟨ey, ay, ny, cy, rfl, g9⟩
  have gA := g9.trans (World.grownBy_alloc u14 (.cells #[.int .u64 ey, .slice ay ny cy] 25) none)
  replace HG : Hid (w.grownBy (u14.alloc (.cells #[.int .u64 ey, .slice ay ny cy] 25)) none) := HG.out.trans gA
  replace HBr : Hid (RgBox (u14.alloc (.cells #[.int .u64 ey, .slice ay ny cy] 25)) B (E) a n c ms raw) := HBr.out.grown gA
  replace HBa : Hid (RgBox (u14.alloc (.cells #[.int .u64 ey, .slice ay ny cy] 25)) Ba (E + 1) aa n1 ca M1 rawa) := HBa.out.grown gA
  replace HBb : Hid (RgBox (u14.alloc (.cells #[.int .u64 ey, .slice ay ny cy] 25)) Bb (E + 2) ab n1 cb M2 rawb) := HBb.out.grown gA
  clear gA g9
  obtain ⟨x0b, x1b⟩ := HBb.out.cells
  have C15 := CP2.out (E + 2) _ ab cb _ HBb.out.rd
  go_wp2_with fail
  try rw [HG.out]
  generalize u14.alloc (.cells #[.int .u64 ey, .slice ay ny cy] 25) = W14 at *
  clear x0b x1b
  refine C15.mono ?_
  clear C15
  rintro e u16 ⟨a1, c1, raw1, rfl, m9, nl9, g9⟩
  replace HG : Hid (w.grownBy (u16) none) := HG.out.trans g9
  replace HBr : Hid (RgBox (u16) B (E) a n c ms raw) := HBr.out.grown g9
  replace HBa : Hid (RgBox (u16) Ba (E + 1) aa n1 ca M1 rawa) := HBa.out.grown g9
  replace HBb : Hid (RgBox (u16) Bb (E + 2) ab n1 cb M2 rawb) := HBb.out.grown g9
  have C9 := G2.out _ _ _ _ m9 nl9
  clear g9  m9 nl9
  go_wp2_with fail
  refine C9.mono ?_
  clear C9
  rintro e u17 ⟨ez, az, nz, cz, rfl, g9⟩
  have gA := g9.trans (World.grownBy_alloc u17 (.cells #[.int .u64 ez, .slice az nz cz] 25) none)
  replace HG : Hid (w.grownBy (u17.alloc (.cells #[.int .u64 ez, .slice az nz cz] 25)) none) := HG.out.trans gA
  replace HBr : Hid (RgBox (u17.alloc (.cells #[.int .u64 ez, .slice az nz cz] 25)) B (E) a n c ms raw) := HBr.out.grown gA
  replace HBa : Hid (RgBox (u17.alloc (.cells #[.int .u64 ez, .slice az nz cz] 25)) Ba (E + 1) aa n1 ca M1 rawa) := HBa.out.grown gA
  replace HBb : Hid (RgBox (u17.alloc (.cells #[.int .u64 ez, .slice az nz cz] 25)) Bb (E + 2) ab n1 cb M2 rawb) := HBb.out.grown gA
  clear gA g9
  obtain ⟨x0b, x1b⟩ := HBb.out.cells
  have C18 := CP2.out (E + 2) _ ab cb _ HBb.out.rd
  go_wp2_with fail
  try rw [HG.out]
  generalize u17.alloc (.cells #[.int .u64 ez, .slice az nz cz] 25) = W17 at *
  clear x0b x1b
  refine C18.mono ?_
  clear C18
  rintro e u19 ⟨a1, c1, raw1, rfl, m9, nl9, g9⟩
  replace HG : Hid (w.grownBy (u19) none) := HG.out.trans g9
  replace HBr : Hid (RgBox (u19) B (E) a n c ms raw) := HBr.out.grown g9
  replace HBa : Hid (RgBox (u19) Ba (E + 1) aa n1 ca M1 rawa) := HBa.out.grown g9
  replace HBb : Hid (RgBox (u19) Bb (E + 2) ab n1 cb M2 rawb) := HBb.out.grown g9
  have C9 := V2.out _ _ _ _ m9 nl9
  clear g9  m9 nl9
  go_wp2_with fail
  refine C9.mono ?_
  clear C9
  rintro e u20 ⟨ac, cc, rawc, rfl, m9, nl9, g9⟩
  obtain ⟨Bc, eBc⟩ : ∃ B, u20.heap.size = B := ⟨_, rfl⟩
  have EBc : Hid (u20.heap.size = Bc) := eBc
  have hx := RgBox.made (E := E + 3) m9 nl9 L3.out
  rw [eBc] at hx
  have gA := g9.trans (World.grownBy_alloc u20 (.cells #[.int .u64 (E + 3), .slice ac n1 cc] 25) none)
  replace HG : Hid (w.grownBy (u20.alloc (.cells #[.int .u64 (E + 3), .slice ac n1 cc] 25)) none) := HG.out.trans gA
  replace HBr : Hid (RgBox (u20.alloc (.cells #[.int .u64 (E + 3), .slice ac n1 cc] 25)) B (E) a n c ms raw) := HBr.out.grown gA
  replace HBa : Hid (RgBox (u20.alloc (.cells #[.int .u64 (E + 3), .slice ac n1 cc] 25)) Ba (E + 1) aa n1 ca M1 rawa) := HBa.out.grown gA
  replace HBb : Hid (RgBox (u20.alloc (.cells #[.int .u64 (E + 3), .slice ac n1 cc] 25)) Bb (E + 2) ab n1 cb M2 rawb) := HBb.out.grown gA
  have HBc : Hid (RgBox (u20.alloc (.cells #[.int .u64 (E + 3), .slice ac n1 cc] 25)) Bc (E + 3) ac n1 cc M3 rawc) := hx
  clear hx gA m9 nl9 g9 eBc
  obtain ⟨x0c, x1c⟩ := HBc.out.cells
  have C21 := CP3.out (E + 3) _ ac cc _ HBc.out.rd
  go_wp2_with fail
  try rw [EBc.out]
  generalize u20.alloc (.cells #[.int .u64 (E + 3), .slice ac n1 cc] 25) = W20 at *
  clear x0c x1c
  refine C21.mono ?_
  clear C21
  rintro e u22 ⟨a1, c1, raw1, rfl, m9, nl9, g9⟩
  replace HG : Hid (w.grownBy (u22) none) := HG.out.trans g9
  replace HBr : Hid (RgBox (u22) B (E) a n c ms raw) := HBr.out.grown g9
  replace HBa : Hid (RgBox (u22) Ba (E + 1) aa n1 ca M1 rawa) := HBa.out.grown g9
  replace HBb : Hid (RgBox (u22) Bb (E + 2) ab n1 cb M2 rawb) := HBb.out.grown g9
  replace HBc : Hid (RgBox (u22) Bc (E + 3) ac n1 cc M3 rawc) := HBc.out.grown g9
  have C9 := G3.out _ _ _ _ m9 nl9
  clear g9  m9 nl9
  go_wp2_with fail
  refine C9.mono ?_
  clear C9
  rintro e u23 ⟨ad, cd, rawd, rfl, m9, nl9, g9⟩
  obtain ⟨Bd, eBd⟩ : ∃ B, u23.heap.size = B := ⟨_, rfl⟩
  have EBd : Hid (u23.heap.size = Bd) := eBd
  have HSr : Hid (RgBox (u23) B (E) a n c ms raw) := HBr.out.grown g9
  have HSa : Hid (RgBox (u23) Ba (E + 1) aa n1 ca M1 rawa) := HBa.out.grown g9
  have HSb : Hid (RgBox (u23) Bb (E + 2) ab n1 cb M2 rawb) := HBb.out.grown g9
  have HSc : Hid (RgBox (u23) Bc (E + 3) ac n1 cc M3 rawc) := HBc.out.grown g9
  have HSm : Hid (MsRd u23 ad ms rawd) := m9
  have HSG : Hid (w.grownBy u23 none) := HG.out.trans g9
  have hx := RgBox.made (E := E + 4) m9 nl9 L0.out
  rw [eBd] at hx
  have gA := g9.trans (World.grownBy_alloc u23 (.cells #[.int .u64 (E + 4), .slice ad n cd] 25) none)
  replace HG : Hid (w.grownBy (u23.alloc (.cells #[.int .u64 (E + 4), .slice ad n cd] 25)) none) := HG.out.trans gA
  replace HBr : Hid (RgBox (u23.alloc (.cells #[.int .u64 (E + 4), .slice ad n cd] 25)) B (E) a n c ms raw) := HBr.out.grown gA
  replace HBa : Hid (RgBox (u23.alloc (.cells #[.int .u64 (E + 4), .slice ad n cd] 25)) Ba (E + 1) aa n1 ca M1 rawa) := HBa.out.grown gA
  replace HBb : Hid (RgBox (u23.alloc (.cells #[.int .u64 (E + 4), .slice ad n cd] 25)) Bb (E + 2) ab n1 cb M2 rawb) := HBb.out.grown gA
  replace HBc : Hid (RgBox (u23.alloc (.cells #[.int .u64 (E + 4), .slice ad n cd] 25)) Bc (E + 3) ac n1 cc M3 rawc) := HBc.out.grown gA
  have HBd : Hid (RgBox (u23.alloc (.cells #[.int .u64 (E + 4), .slice ad n cd] 25)) Bd (E + 4) ad n cd ms rawd) := hx
  have HFS : Hid (u23.grownBy (u23.alloc (.cells #[.int .u64 (E + 4), .slice ad n cd] 25)) none) := World.grownBy_alloc _ _ none
  clear hx gA m9 nl9 g9 eBd
  obtain ⟨x0d, x1d⟩ := HBd.out.cells
  have C24 := CP0.out (E + 4) _ ad cd _ HBd.out.rd
  go_wp2_with fail
  try rw [EBd.out]
  generalize u23.alloc (.cells #[.int .u64 (E + 4), .slice ad n cd] 25) = W23 at *
  clear x0d x1d
  refine C24.mono ?_
  clear C24
  rintro e u25 ⟨a1, c1, raw1, rfl, m9, nl9, g9⟩
  replace HG : Hid (w.grownBy (u25) none) := HG.out.trans g9
  replace HBr : Hid (RgBox (u25) B (E) a n c ms raw) := HBr.out.grown g9
  replace HBa : Hid (RgBox (u25) Ba (E + 1) aa n1 ca M1 rawa) := HBa.out.grown g9
  replace HBb : Hid (RgBox (u25) Bb (E + 2) ab n1 cb M2 rawb) := HBb.out.grown g9
  replace HBc : Hid (RgBox (u25) Bc (E + 3) ac n1 cc M3 rawc) := HBc.out.grown g9
  replace HBd : Hid (RgBox (u25) Bd (E + 4) ad n cd ms rawd) := HBd.out.grown g9
  replace HFS : Hid (u23.grownBy (u25) none) := HFS.out.trans g9
  have C9 := G4.out _ _ _ _ m9 nl9
  clear g9  m9 nl9
  go_wp2_with fail
  refine C9.mono ?_
  clear C9
  rintro e u26 ⟨ev, av, nv, cv, rfl, g9⟩
  have gA := g9.trans (World.grownBy_alloc u26 (.cells #[.int .u64 ev, .slice av nv cv] 25) none)
  replace HG : Hid (w.grownBy (u26.alloc (.cells #[.int .u64 ev, .slice av nv cv] 25)) none) := HG.out.trans gA
  replace HBr : Hid (RgBox (u26.alloc (.cells #[.int .u64 ev, .slice av nv cv] 25)) B (E) a n c ms raw) := HBr.out.grown gA
  replace HBa : Hid (RgBox (u26.alloc (.cells #[.int .u64 ev, .slice av nv cv] 25)) Ba (E + 1) aa n1 ca M1 rawa) := HBa.out.grown gA
  replace HBb : Hid (RgBox (u26.alloc (.cells #[.int .u64 ev, .slice av nv cv] 25)) Bb (E + 2) ab n1 cb M2 rawb) := HBb.out.grown gA
  replace HBc : Hid (RgBox (u26.alloc (.cells #[.int .u64 ev, .slice av nv cv] 25)) Bc (E + 3) ac n1 cc M3 rawc) := HBc.out.grown gA
  replace HBd : Hid (RgBox (u26.alloc (.cells #[.int .u64 ev, .slice av nv cv] 25)) Bd (E + 4) ad n cd ms rawd) := HBd.out.grown gA
  replace HFS : Hid (u23.grownBy (u26.alloc (.cells #[.int .u64 ev, .slice av nv cv] 25)) none) := HFS.out.trans gA
  clear gA g9
  obtain ⟨x0d, x1d⟩ := HBd.out.cells
  have f0d := free_row HBd.out.box 0
  have HXG : Hid (u23.grownBy ((u26.alloc (.cells #[.int .u64 ev, .slice av nv cv] 25)).setCell ⟨Bd, 0, none⟩ (.int .u64 E)) none) := gb_trans HFS.out (gb_set (g := Bd) rfl) (fun k hk => .inl (by cases hk; have := EBd.out; omega))
  have HXd : Hid (RgBox ((u26.alloc (.cells #[.int .u64 ev, .slice av nv cv] 25)).setCell ⟨Bd, 0, none⟩ (.int .u64 E)) Bd E ad n cd ms rawd) := ⟨set20 HBd.out.box _, HSm.out.grown HXG.out, HBd.out.nil, HBd.out.len⟩
  replace HG : Hid (w.grownBy ((u26.alloc (.cells #[.int .u64 ev, .slice av nv cv] 25)).setCell ⟨Bd, 0, none⟩ (.int .u64 E)) none) := HSG.out.trans HXG.out
  clear HBd
  replace HBr : Hid (RgBox ((u26.alloc (.cells #[.int .u64 ev, .slice av nv cv] 25)).setCell ⟨Bd, 0, none⟩ (.int .u64 E)) B (E) a n c ms raw) := HSr.out.grown HXG.out
  replace HBa : Hid (RgBox ((u26.alloc (.cells #[.int .u64 ev, .slice av nv cv] 25)).setCell ⟨Bd, 0, none⟩ (.int .u64 E)) Ba (E + 1) aa n1 ca M1 rawa) := HSa.out.grown HXG.out
  replace HBb : Hid (RgBox ((u26.alloc (.cells #[.int .u64 ev, .slice av nv cv] 25)).setCell ⟨Bd, 0, none⟩ (.int .u64 E)) Bb (E + 2) ab n1 cb M2 rawb) := HSb.out.grown HXG.out
  replace HBc : Hid (RgBox ((u26.alloc (.cells #[.int .u64 ev, .slice av nv cv] 25)).setCell ⟨Bd, 0, none⟩ (.int .u64 E)) Bc (E + 3) ac n1 cc M3 rawc) := HSc.out.grown HXG.out
  clear HSr HSa HSb HSc HSm HSG HFS
  have HBd : Hid (RgBox ((u26.alloc (.cells #[.int .u64 ev, .slice av nv cv] 25)).setCell ⟨Bd, 0, none⟩ (.int .u64 E)) Bd E ad n cd ms rawd) := HXd.out
  clear HXG HXd
  go_upto_region 13 with fail
  generalize (u26.alloc (.cells #[.int .u64 ev, .slice av nv cv] 25)).setCell ⟨Bd, 0, none⟩ (.int .u64 E) = X at *
  clear x0d x1d f0d
  obtain ⟨y0d, y1d⟩ := HBd.out.cells
  obtain ⟨y0r, y1r⟩ := HBr.out.cells
  have C90 := SM.out _ ad a cd c _ _ HBd.out.rd HBr.out.rd
  go_wp2_with fail
  clear y0d y1d y0r y1r
  refine C90.mono ?_
  clear C90
  rintro e u91 ⟨rfl, g9⟩
  replace HG : Hid (w.grownBy (u91) none) := HG.out.trans g9
  replace HBr : Hid (RgBox (u91) B (E) a n c ms raw) := HBr.out.grown g9
  replace HBa : Hid (RgBox (u91) Ba (E + 1) aa n1 ca M1 rawa) := HBa.out.grown g9
  replace HBb : Hid (RgBox (u91) Bb (E + 2) ab n1 cb M2 rawb) := HBb.out.grown g9
  replace HBc : Hid (RgBox (u91) Bc (E + 3) ac n1 cc M3 rawc) := HBc.out.grown g9
  replace HBd : Hid (RgBox (u91) Bd (E) ad n cd ms rawd) := HBd.out.grown g9
  clear g9 
  obtain ⟨x0a, x1a⟩ := HBa.out.cells
  have C91 := S1.out _ aa ca _ HBa.out.rd
  go_wp2_with fail
  clear x0a x1a
  refine C91.mono ?_
  clear C91
  rintro e u92 ⟨rfl, g9⟩
  replace HG : Hid (w.grownBy (u92) none) := HG.out.trans g9
  replace HBr : Hid (RgBox (u92) B (E) a n c ms raw) := HBr.out.grown g9
  replace HBa : Hid (RgBox (u92) Ba (E + 1) aa n1 ca M1 rawa) := HBa.out.grown g9
  replace HBb : Hid (RgBox (u92) Bb (E + 2) ab n1 cb M2 rawb) := HBb.out.grown g9
  replace HBc : Hid (RgBox (u92) Bc (E + 3) ac n1 cc M3 rawc) := HBc.out.grown g9
  replace HBd : Hid (RgBox (u92) Bd (E) ad n cd ms rawd) := HBd.out.grown g9
  clear g9 
  obtain ⟨x0b, x1b⟩ := HBb.out.cells
  have C92 := S2.out _ ab cb _ HBb.out.rd
  go_wp2_with fail
  clear x0b x1b
  refine C92.mono ?_
  clear C92
  rintro e u93 ⟨rfl, g9⟩
  replace HG : Hid (w.grownBy (u93) none) := HG.out.trans g9
  replace HBr : Hid (RgBox (u93) B (E) a n c ms raw) := HBr.out.grown g9
  replace HBa : Hid (RgBox (u93) Ba (E + 1) aa n1 ca M1 rawa) := HBa.out.grown g9
  replace HBb : Hid (RgBox (u93) Bb (E + 2) ab n1 cb M2 rawb) := HBb.out.grown g9
  replace HBc : Hid (RgBox (u93) Bc (E + 3) ac n1 cc M3 rawc) := HBc.out.grown g9
  replace HBd : Hid (RgBox (u93) Bd (E) ad n cd ms rawd) := HBd.out.grown g9
  clear g9 
  obtain ⟨x0c, x1c⟩ := HBc.out.cells
  have C93 := S3.out _ ac cc _ HBc.out.rd
  go_wp2_with fail
  clear x0c x1c
  refine C93.mono ?_
  clear C93
  rintro e u94 ⟨rfl, g9⟩
  replace HG : Hid (w.grownBy (u94) none) := HG.out.trans g9
  replace HBr : Hid (RgBox (u94) B (E) a n c ms raw) := HBr.out.grown g9
  replace HBa : Hid (RgBox (u94) Ba (E + 1) aa n1 ca M1 rawa) := HBa.out.grown g9
  replace HBb : Hid (RgBox (u94) Bb (E + 2) ab n1 cb M2 rawb) := HBb.out.grown g9
  replace HBc : Hid (RgBox (u94) Bc (E + 3) ac n1 cc M3 rawc) := HBc.out.grown g9
  replace HBd : Hid (RgBox (u94) Bd (E) ad n cd ms rawd) := HBd.out.grown g9
  clear g9 
  have C94 := AW.out u94
  go_wp2_with fail
  refine C94.mono ?_
  clear C94
  rintro e u95 ⟨rfl, g9⟩
  replace HG : Hid (w.grownBy (u95) none) := HG.out.trans g9
  replace HBr : Hid (RgBox (u95) B (E) a n c ms raw) := HBr.out.grown g9
  replace HBa : Hid (RgBox (u95) Ba (E + 1) aa n1 ca M1 rawa) := HBa.out.grown g9
  replace HBb : Hid (RgBox (u95) Bb (E + 2) ab n1 cb M2 rawb) := HBb.out.grown g9
  replace HBc : Hid (RgBox (u95) Bc (E + 3) ac n1 cc M3 rawc) := HBc.out.grown g9
  replace HBd : Hid (RgBox (u95) Bd (E) ad n cd ms rawd) := HBd.out.grown g9
  clear g9 
  go_wp2
  go_ret
  exact ⟨rfl, HG.out⟩
theorem ringRounds_walk (E : Int) (a : Option Addr) (c : Nat) (raw : List MRow) (ms : List Mem) (id : Int) (w : World) (hr : MsRd w a ms raw) (hnil : a = none → c = 0) (hE : 0 ≤ E ∧ E ≤ 18446744073709551615) (hz : ms.length ≤ 3518437208800) (hz2 : ∀ s ∈ ms, s.2.2.length ≤ 35184372088832) :
    Calls Tryz.prog 8 #[.agg #[.int .u64 E, .slice a ms.length c], .int .i64 id] w fun e w' => e = .returned (.bool true) ∧ Below w.heap.size w w' := by
  have h : Calls Tryz.prog 8 #[.agg #[.int .u64 E, .slice a ms.length c], .int .i64 id] w fun e w' => e = .returned (.bool true) ∧ w.grownBy w' none := by
    by_cases hq : chgE 0 E ms id = 0
    · by_cases hb : 4611686018427387904 < E
      · exact rounds_not E a _ c raw ms id w hr hnil hE rfl hz hz2 (.inr hb)
      · exact rounds_yes E a _ c raw ms id w hr hnil (by omega) rfl hq
    · exact rounds_not E a _ c raw ms id w hr hnil hE rfl hz hz2 (.inl hq)
  refine h.mono ?_
  rintro e w' ⟨rfl, hg⟩
  exact ⟨rfl, (Below.refl _ w).grown hg (Nat.le_refl _) (fun k hk => by cases hk)⟩
end Go.Proofs.YtaljjemickonaaaGreat

