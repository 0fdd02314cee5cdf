/- Lists of nodes that are the same. (Printed by mk_xz.py.) -/
import Derived.Test.YtnimdngiejcljaaWa
namespace Go.Proofs.Ytnimdngiejcljaa
open Go.ChangeShapes Go.WideShapes Go.ChangeAt Go.RowKit
set_option linter.unusedVariables false
set_option linter.unusedSimpArgs false
set_option maxRecDepth 20000

set_option maxHeartbeats 8000000 in
theorem f_sameN (a b : Option Addr) (c d : Nat) (QA QB : List Row) (W0 : World) (hA : NsRd W0 a QA) (hB : NsRd W0 b QB) (he : QA.map (·.1) = QB.map (·.1)) (hz : QA.length ≤ 9223372036854775807) :
    Calls Try.prog 13 #[.slice a QA.length c, .slice b QB.length d] W0 fun e w' => e = .returned (.bool true) ∧ W0.grownBy w' none := by
  have hl : QB.length = QA.length := by have := congrArg List.length he; rw [List.length_map, List.length_map] at this; omega
  have HA := hid hA
  have HB := hid hB
  have HE := hid he
  have HLB := hid hl
  rw [hl]
  obtain ⟨L, hL⟩ : ∃ L, L = QA.length := ⟨_, rfl⟩
  have H5 : Hid (L = QA.length) := hL
  rw [← hL] at hz ⊢
  clear hA hB he hl hL
  go_enter Try.func13, Try.ntmps13
  go_wp2
  go_loopw [5] (fun i wr => ∃ k : Nat, k ≤ L ∧ i = .int .i64 k ∧ Hid (W0.grownBy wr none)) (fun i _ => L - (intOf i).toNat)
  case atStart => exact ⟨0, Nat.zero_le _, rfl, World.grownBy.refl _ _⟩
  case round =>
    obtain ⟨k, hk, rfl, HG⟩ := hrel
    by_cases hlt : k < L
    · have h5 := H5.out
      have hi : (k : Int) < (L : Int) := by omega
      obtain ⟨qa, ea⟩ : ∃ x, QA[k]? = some x := ⟨_, List.getElem?_eq_getElem (by omega)⟩
      obtain ⟨qb, eb⟩ : ∃ x, QB[k]? = some x := ⟨_, List.getElem?_eq_getElem (by have := HLB.out; omega)⟩
      have hna := (HA.out.grown HG.out).each qa (List.mem_of_getElem? ea)
      have hnb := (HB.out.grown HG.out).each qb (List.mem_of_getElem? eb)
      have hab : qa.1 = qb.1 := by
        have := congrArg (fun l => l[k]?) HE.out
        simp only [List.getElem?_map, ea, eb, Option.map_some, Option.some.injEq] at this
        exact this
      obtain ⟨ba, oa, e1, _⟩ := HA.out.rd.at (by omega)
      obtain ⟨bb, ob, e2, _⟩ := HB.out.rd.at (by have := HLB.out; omega)
      subst e1
      subst e2
      obtain ⟨u0, u1, u2, u3, u4, u5, u6, u7, u8, u9⟩ := nd_cells (i := k) (HA.out.rd.grown HG.out (by simp)) ea
      obtain ⟨v0, v1, v2, v3, v4, v5, v6, v7, v8, v9⟩ := nd_cells (i := k) (HB.out.rd.grown HG.out (by simp)) eb
      obtain ⟨x, ⟨ma, mal, mac⟩, ⟨na, nal, nac⟩⟩ := qa
      obtain ⟨x', ⟨mb, mbl, mbc⟩, ⟨nb, nbl, nbc⟩⟩ := qb
      simp only at hab
      subst hab
      obtain rfl : mal = x.mat.length := hna.ml
      obtain rfl : nal = x.names.length := hna.nl
      obtain rfl : mbl = x.mat.length := hnb.ml
      obtain rfl : nbl = x.names.length := hnb.nl
      have HSM : Hid (∀ W, wr.grownBy W none → Calls Try.prog 28 #[.slice ma x.mat.length mac, .slice mb x.mat.length mbc] W fun e w' => e = .returned (.bool true) ∧ W.grownBy w' none) := fun W hg => f_sameM ma mb x.mat mac mbc W (hna.mat.grown hg (by simp)) (hnb.mat.grown hg (by simp)) hna.mz
      have HST : Hid (∀ W, wr.grownBy W none → Calls Try.prog 29 #[.slice na x.names.length nac, .slice nb x.names.length nbc] W fun e w' => e = .returned (.bool true) ∧ W.grownBy w' none) := fun W hg => f_sameT na nb x.names nac nbc W (hna.nam.grown hg (by simp)) (hnb.nam.grown hg (by simp)) hna.nz
      have GD := hid (gb_drew (World.grownBy.refl wr none))
      have C0 := hid (And.intro u0 (And.intro u1 (And.intro u2 (And.intro u3 (And.intro u4 (And.intro u5 (And.intro u6 (And.intro u7 (And.intro u8 u9)))))))))
      have C1 := hid (And.intro v0 (And.intro v1 (And.intro v2 (And.intro v3 (And.intro v4 (And.intro v5 (And.intro v6 (And.intro v7 (And.intro v8 v9)))))))))
      have hb1 : (x.text.toList == x.text.toList) = true := by rw [str_eq]; simp
      clear hna hnb ea eb h5 u0 u1 u2 u3 u4 u5 u6 u7 u8 u9 v0 v1 v2 v3 v4 v5 v6 v7 v8 v9
      unfold slV at *
      try dsimp only at *
      go_upto_region 6 with fail
      refine wp_region_held_drew (S := fun V => wr.grownBy V none) (by kernel_rfl) GD.out (fun hHeld => ?_)
      refine wpAnyH_take (i := 0) (v := .slice (some ⟨ba, oa, none⟩) L c) rfl (by kernel_rfl) (by kernel_rfl) (by kernel_rfl) (fun _ _ _ h => h) (Or.inl ⟨by kernel_rfl, fun w hSw => ?_⟩) (by assumption) ?_
      · go_simp
      (try simp (maxSteps := 10000000) only [Act.put, List.getElem_toArray, List.getElem_cons_succ, List.getElem_cons_zero]); (try simp (maxSteps := 10000000) only [List.setIfInBounds_toArray]); (try simp (maxSteps := 10000000) only [List.set_cons_succ]); (try simp (maxSteps := 10000000) only [List.set_cons_zero])
      refine wpAnyH_take (i := 1) (v := .int .i64 (k : Int)) rfl (by kernel_rfl) (by kernel_rfl) (by kernel_rfl) (fun _ _ _ h => h) (Or.inl ⟨by kernel_rfl, fun w hSw => ?_⟩) (by assumption) ?_
      · go_simp
      (try simp (maxSteps := 10000000) only [Act.put, List.getElem_toArray, List.getElem_cons_succ, List.getElem_cons_zero]); (try simp (maxSteps := 10000000) only [List.setIfInBounds_toArray]); (try simp (maxSteps := 10000000) only [List.set_cons_succ]); (try simp (maxSteps := 10000000) only [List.set_cons_zero])
      refine wpAnyH_take (i := 2) (v := .pointer (some ⟨ba, oa + k * 10, none⟩)) rfl (by kernel_rfl) (by kernel_rfl) (by kernel_rfl) (fun _ _ _ h => h) (Or.inl ⟨by kernel_rfl, fun w hSw => ?_⟩) (by assumption) ?_
      · go_simp
      (try simp (maxSteps := 10000000) only [Act.put, List.getElem_toArray, List.getElem_cons_succ, List.getElem_cons_zero]); (try simp (maxSteps := 10000000) only [List.setIfInBounds_toArray]); (try simp (maxSteps := 10000000) only [List.set_cons_succ]); (try simp (maxSteps := 10000000) only [List.set_cons_zero])
      refine wpAnyH_take (i := 3) (v := .agg #[.int .i64 x.kind, .int .i64 x.op, .string x.text, .slice ma x.mat.length mac, .int .i64 x.width, .int .i64 x.back, .int .i64 x.group, .slice na x.names.length nac, .bool x.bool, .int .i64 x.parts]) rfl (by kernel_rfl) (by kernel_rfl) (by kernel_rfl) (fun _ _ _ h => h) (Or.inl ⟨by kernel_rfl, fun w hSw => ?_⟩) (by assumption) ?_
      · obtain ⟨u0, u1, u2, u3, u4, u5, u6, u7, u8, u9⟩ := C0.out; have x0 := hSw.cell u0 (by simp); have x1 := hSw.cell u1 (by simp); have x2 := hSw.cell u2 (by simp); have x3 := hSw.cell u3 (by simp); have x4 := hSw.cell u4 (by simp); have x5 := hSw.cell u5 (by simp); have x6 := hSw.cell u6 (by simp); have x7 := hSw.cell u7 (by simp); have x8 := hSw.cell u8 (by simp); have x9 := hSw.cell u9 (by simp); go_simp
      (try simp (maxSteps := 10000000) only [Act.put, List.getElem_toArray, List.getElem_cons_succ, List.getElem_cons_zero]); (try simp (maxSteps := 10000000) only [List.setIfInBounds_toArray]); (try simp (maxSteps := 10000000) only [List.set_cons_succ]); (try simp (maxSteps := 10000000) only [List.set_cons_zero])
      refine wpAnyH_take (i := 4) (v := .slice (some ⟨bb, ob, none⟩) L d) rfl (by kernel_rfl) (by kernel_rfl) (by kernel_rfl) (fun _ _ _ h => h) (Or.inl ⟨by kernel_rfl, fun w hSw => ?_⟩) (by assumption) ?_
      · go_simp
      (try simp (maxSteps := 10000000) only [Act.put, List.getElem_toArray, List.getElem_cons_succ, List.getElem_cons_zero]); (try simp (maxSteps := 10000000) only [List.setIfInBounds_toArray]); (try simp (maxSteps := 10000000) only [List.set_cons_succ]); (try simp (maxSteps := 10000000) only [List.set_cons_zero])
      refine wpAnyH_take (i := 5) (v := .int .i64 (k : Int)) rfl (by kernel_rfl) (by kernel_rfl) (by kernel_rfl) (fun _ _ _ h => h) (Or.inl ⟨by kernel_rfl, fun w hSw => ?_⟩) (by assumption) ?_
      · go_simp
      (try simp (maxSteps := 10000000) only [Act.put, List.getElem_toArray, List.getElem_cons_succ, List.getElem_cons_zero]); (try simp (maxSteps := 10000000) only [List.setIfInBounds_toArray]); (try simp (maxSteps := 10000000) only [List.set_cons_succ]); (try simp (maxSteps := 10000000) only [List.set_cons_zero])
      refine wpAnyH_take (i := 6) (v := .pointer (some ⟨bb, ob + k * 10, none⟩)) rfl (by kernel_rfl) (by kernel_rfl) (by kernel_rfl) (fun _ _ _ h => h) (Or.inl ⟨by kernel_rfl, fun w hSw => ?_⟩) (by assumption) ?_
      · go_simp
      (try simp (maxSteps := 10000000) only [Act.put, List.getElem_toArray, List.getElem_cons_succ, List.getElem_cons_zero]); (try simp (maxSteps := 10000000) only [List.setIfInBounds_toArray]); (try simp (maxSteps := 10000000) only [List.set_cons_succ]); (try simp (maxSteps := 10000000) only [List.set_cons_zero])
      refine wpAnyH_take (i := 7) (v := .agg #[.int .i64 x.kind, .int .i64 x.op, .string x.text, .slice mb x.mat.length mbc, .int .i64 x.width, .int .i64 x.back, .int .i64 x.group, .slice nb x.names.length nbc, .bool x.bool, .int .i64 x.parts]) rfl (by kernel_rfl) (by kernel_rfl) (by kernel_rfl) (fun _ _ _ h => h) (Or.inl ⟨by kernel_rfl, fun w hSw => ?_⟩) (by assumption) ?_
      · obtain ⟨v0, v1, v2, v3, v4, v5, v6, v7, v8, v9⟩ := C1.out; have x0 := hSw.cell v0 (by simp); have x1 := hSw.cell v1 (by simp); have x2 := hSw.cell v2 (by simp); have x3 := hSw.cell v3 (by simp); have x4 := hSw.cell v4 (by simp); have x5 := hSw.cell v5 (by simp); have x6 := hSw.cell v6 (by simp); have x7 := hSw.cell v7 (by simp); have x8 := hSw.cell v8 (by simp); have x9 := hSw.cell v9 (by simp); go_simp
      (try simp (maxSteps := 10000000) only [Act.put, List.getElem_toArray, List.getElem_cons_succ, List.getElem_cons_zero]); (try simp (maxSteps := 10000000) only [List.setIfInBounds_toArray]); (try simp (maxSteps := 10000000) only [List.set_cons_succ]); (try simp (maxSteps := 10000000) only [List.set_cons_zero])
      refine wpAnyH_ready (rs := [8, 9]) (by kernel_rfl) (by simp) (AllReadyH.cons (i := 8) rfl (fun K9 hK => ?_) (AllReadyH.cons (i := 9) rfl (fun K9 hK => ?_) AllReadyH.nil))
      · go_simp
        refine hK.out _ _ (GD.out.trans (World.grownBy_alloc _ _ none)) (fun hHeld => ?_)
        clear hK K9 hHeld
        (try simp (maxSteps := 10000000) only [Act.put, List.getElem_toArray, List.getElem_cons_succ, List.getElem_cons_zero]); (try simp (maxSteps := 10000000) only [List.setIfInBounds_toArray]); (try simp (maxSteps := 10000000) only [List.set_cons_succ]); (try simp (maxSteps := 10000000) only [List.set_cons_zero])
        refine wpAnyH_ready (rs := [9]) (by kernel_rfl) (by simp) (AllReadyH.cons (i := 9) rfl (fun K9 hK => ?_) AllReadyH.nil)
        go_simp
        refine hK.out _ _ ((GD.out.trans (World.grownBy_alloc _ _ none)).trans (World.grownBy_alloc _ _ none)) (fun hHeld => ?_)
        clear hK K9 hHeld
        (try simp (maxSteps := 10000000) only [Act.put, List.getElem_toArray, List.getElem_cons_succ, List.getElem_cons_zero]); (try simp (maxSteps := 10000000) only [List.setIfInBounds_toArray]); (try simp (maxSteps := 10000000) only [List.set_cons_succ]); (try simp (maxSteps := 10000000) only [List.set_cons_zero])
        refine wpAnyH_ready (rs := [10]) (by kernel_rfl) (by simp) (AllReadyH.cons (i := 10) rfl (fun K9 hK => ?_) AllReadyH.nil)
        go_simp
        refine hK.out _ _ ((GD.out.trans (World.grownBy_alloc _ _ none)).trans (World.grownBy_alloc _ _ none)) (fun hHeld => ?_)
        clear hK K9 hHeld
        (try simp (maxSteps := 10000000) only [Act.put, List.getElem_toArray, List.getElem_cons_succ, List.getElem_cons_zero]); (try simp (maxSteps := 10000000) only [List.setIfInBounds_toArray]); (try simp (maxSteps := 10000000) only [List.set_cons_succ]); (try simp (maxSteps := 10000000) only [List.set_cons_zero])
        refine wpAnyH_ready (rs := [11]) (by kernel_rfl) (by simp) (AllReadyH.cons (i := 11) rfl (fun K9 hK => ?_) AllReadyH.nil)
        go_simp
        refine hK.out _ _ ((GD.out.trans (World.grownBy_alloc _ _ none)).trans (World.grownBy_alloc _ _ none)) (fun hHeld => ?_)
        clear hK K9 hHeld
        (try simp (maxSteps := 10000000) only [Act.put, List.getElem_toArray, List.getElem_cons_succ, List.getElem_cons_zero]); (try simp (maxSteps := 10000000) only [List.setIfInBounds_toArray]); (try simp (maxSteps := 10000000) only [List.set_cons_succ]); (try simp (maxSteps := 10000000) only [List.set_cons_zero])
        refine wpAnyH_done (by kernel_rfl) ?_ _
        have GW := GD.out.trans ((World.grownBy_alloc wr.drew (.cells #[.int .i64 x.kind, .int .i64 x.op, .string x.text, .slice ma x.mat.length mac, .int .i64 x.width, .int .i64 x.back, .int .i64 x.group, .slice na x.names.length nac, .bool x.bool, .int .i64 x.parts] 34) none).trans (World.grownBy_alloc (wr.drew.alloc (.cells #[.int .i64 x.kind, .int .i64 x.op, .string x.text, .slice ma x.mat.length mac, .int .i64 x.width, .int .i64 x.back, .int .i64 x.group, .slice na x.names.length nac, .bool x.bool, .int .i64 x.parts] 34)) (.cells #[.int .i64 x.kind, .int .i64 x.op, .string x.text, .slice mb x.mat.length mbc, .int .i64 x.width, .int .i64 x.back, .int .i64 x.group, .slice nb x.names.length nbc, .bool x.bool, .int .i64 x.parts] 34) none))
        have R1 := heap_alloc_new wr.drew (.cells #[.int .i64 x.kind, .int .i64 x.op, .string x.text, .slice ma x.mat.length mac, .int .i64 x.width, .int .i64 x.back, .int .i64 x.group, .slice na x.names.length nac, .bool x.bool, .int .i64 x.parts] 34)
        have Z1 : (wr.drew.alloc (.cells #[.int .i64 x.kind, .int .i64 x.op, .string x.text, .slice ma x.mat.length mac, .int .i64 x.width, .int .i64 x.back, .int .i64 x.group, .slice na x.names.length nac, .bool x.bool, .int .i64 x.parts] 34)).heap.size = wr.heap.size + 1 := size_alloc _ _
        have R1 := ((World.grownBy_alloc (wr.drew.alloc (.cells #[.int .i64 x.kind, .int .i64 x.op, .string x.text, .slice ma x.mat.length mac, .int .i64 x.width, .int .i64 x.back, .int .i64 x.group, .slice na x.names.length nac, .bool x.bool, .int .i64 x.parts] 34)) (.cells #[.int .i64 x.kind, .int .i64 x.op, .string x.text, .slice mb x.mat.length mbc, .int .i64 x.width, .int .i64 x.back, .int .i64 x.group, .slice nb x.names.length nbc, .bool x.bool, .int .i64 x.parts] 34) none).block wr.heap.size (by rw [Z1]; omega) (by simp)).trans R1
        have R2 := heap_alloc_new (wr.drew.alloc (.cells #[.int .i64 x.kind, .int .i64 x.op, .string x.text, .slice ma x.mat.length mac, .int .i64 x.width, .int .i64 x.back, .int .i64 x.group, .slice na x.names.length nac, .bool x.bool, .int .i64 x.parts] 34)) (.cells #[.int .i64 x.kind, .int .i64 x.op, .string x.text, .slice mb x.mat.length mbc, .int .i64 x.width, .int .i64 x.back, .int .i64 x.group, .slice nb x.names.length nbc, .bool x.bool, .int .i64 x.parts] 34)
        rw [Z1] at R2
        have Z2 : ((wr.drew.alloc (.cells #[.int .i64 x.kind, .int .i64 x.op, .string x.text, .slice ma x.mat.length mac, .int .i64 x.width, .int .i64 x.back, .int .i64 x.group, .slice na x.names.length nac, .bool x.bool, .int .i64 x.parts] 34)).alloc (.cells #[.int .i64 x.kind, .int .i64 x.op, .string x.text, .slice mb x.mat.length mbc, .int .i64 x.width, .int .i64 x.back, .int .i64 x.group, .slice nb x.names.length nbc, .bool x.bool, .int .i64 x.parts] 34)).heap.size = wr.heap.size + 1 + 1 := by rw [size_alloc, Z1]
        change wr.grownBy ((wr.alloc (.cells #[.int .i64 x.kind, .int .i64 x.op, .string x.text, .slice ma x.mat.length mac, .int .i64 x.width, .int .i64 x.back, .int .i64 x.group, .slice na x.names.length nac, .bool x.bool, .int .i64 x.parts] 34)).alloc (.cells #[.int .i64 x.kind, .int .i64 x.op, .string x.text, .slice mb x.mat.length mbc, .int .i64 x.width, .int .i64 x.back, .int .i64 x.group, .slice nb x.names.length nbc, .bool x.bool, .int .i64 x.parts] 34)).drew none at GW
        change ((wr.alloc (.cells #[.int .i64 x.kind, .int .i64 x.op, .string x.text, .slice ma x.mat.length mac, .int .i64 x.width, .int .i64 x.back, .int .i64 x.group, .slice na x.names.length nac, .bool x.bool, .int .i64 x.parts] 34)).alloc (.cells #[.int .i64 x.kind, .int .i64 x.op, .string x.text, .slice mb x.mat.length mbc, .int .i64 x.width, .int .i64 x.back, .int .i64 x.group, .slice nb x.names.length nbc, .bool x.bool, .int .i64 x.parts] 34)).drew.heap[wr.heap.size]? = _ at R1
        change ((wr.alloc (.cells #[.int .i64 x.kind, .int .i64 x.op, .string x.text, .slice ma x.mat.length mac, .int .i64 x.width, .int .i64 x.back, .int .i64 x.group, .slice na x.names.length nac, .bool x.bool, .int .i64 x.parts] 34)).alloc (.cells #[.int .i64 x.kind, .int .i64 x.op, .string x.text, .slice mb x.mat.length mbc, .int .i64 x.width, .int .i64 x.back, .int .i64 x.group, .slice nb x.names.length nbc, .bool x.bool, .int .i64 x.parts] 34)).drew.heap[wr.heap.size + 1]? = _ at R2
        change ((wr.alloc (.cells #[.int .i64 x.kind, .int .i64 x.op, .string x.text, .slice ma x.mat.length mac, .int .i64 x.width, .int .i64 x.back, .int .i64 x.group, .slice na x.names.length nac, .bool x.bool, .int .i64 x.parts] 34)).alloc (.cells #[.int .i64 x.kind, .int .i64 x.op, .string x.text, .slice mb x.mat.length mbc, .int .i64 x.width, .int .i64 x.back, .int .i64 x.group, .slice nb x.names.length nbc, .bool x.bool, .int .i64 x.parts] 34)).drew.heap.size = _ at Z2
        generalize ((wr.alloc (.cells #[.int .i64 x.kind, .int .i64 x.op, .string x.text, .slice ma x.mat.length mac, .int .i64 x.width, .int .i64 x.back, .int .i64 x.group, .slice na x.names.length nac, .bool x.bool, .int .i64 x.parts] 34)).alloc (.cells #[.int .i64 x.kind, .int .i64 x.op, .string x.text, .slice mb x.mat.length mbc, .int .i64 x.width, .int .i64 x.back, .int .i64 x.group, .slice nb x.names.length nbc, .bool x.bool, .int .i64 x.parts] 34)).drew = WW at *
        clear Z1
        have GW := hid GW
        have R1 := hid R1
        have R2 := hid R2
        have Z2 := hid Z2
        go_upto_region 7 with fail
        (try simp only [List.append_eq, List.cons_append, List.nil_append])
        obtain ⟨u0, u1, u2, u3, u4, u5, u6, u7, u8, u9⟩ := nx_cells R1.out
        obtain ⟨v0, v1, v2, v3, v4, v5, v6, v7, v8, v9⟩ := nx_cells R2.out
        go_wp2_with fail
        refine (HSM.out _ GW.out).mono ?_
        rintro e w2 ⟨rfl, g2⟩
        have GW2 := hid (GW.out.trans g2)
        have R1 := hid ((g2.block wr.heap.size (by rw [Z2.out]; omega) (by simp)).trans R1.out)
        have R2 := hid ((g2.block (wr.heap.size + 1) (by rw [Z2.out]; omega) (by simp)).trans R2.out)
        have Z3 : Hid (wr.heap.size + 2 ≤ w2.heap.size) := by have := g2.size; rw [Z2.out] at this; exact this
        clear g2
        clear u0 u1 u2 u3 u4 u5 u6 u7 u8 u9
        clear v0 v1 v2 v3 v4 v5 v6 v7 v8 v9
        obtain ⟨u0, u1, u2, u3, u4, u5, u6, u7, u8, u9⟩ := nx_cells R1.out
        obtain ⟨v0, v1, v2, v3, v4, v5, v6, v7, v8, v9⟩ := nx_cells R2.out
        go_wp2_with fail
        refine (HST.out _ GW2.out).mono ?_
        rintro e w3 ⟨rfl, g3⟩
        have GW3 := hid (GW2.out.trans g3)
        have R1 := hid ((g3.block wr.heap.size (by have := Z3.out; omega) (by simp)).trans R1.out)
        have R2 := hid ((g3.block (wr.heap.size + 1) (by have := Z3.out; omega) (by simp)).trans R2.out)
        clear g3
        clear u0 u1 u2 u3 u4 u5 u6 u7 u8 u9
        clear v0 v1 v2 v3 v4 v5 v6 v7 v8 v9
        obtain ⟨u0, u1, u2, u3, u4, u5, u6, u7, u8, u9⟩ := nx_cells R1.out
        obtain ⟨v0, v1, v2, v3, v4, v5, v6, v7, v8, v9⟩ := nx_cells R2.out
        go_wp2
        go_roundw
        case rel => exact ⟨k + 1, by omega, by go_num, HG.out.trans GW3.out⟩
        case measure => simp [intOf]; omega
      · go_simp
        refine hK.out _ _ (GD.out.trans (World.grownBy_alloc _ _ none)) (fun hHeld => ?_)
        clear hK K9 hHeld
        (try simp (maxSteps := 10000000) only [Act.put, List.getElem_toArray, List.getElem_cons_succ, List.getElem_cons_zero]); (try simp (maxSteps := 10000000) only [List.setIfInBounds_toArray]); (try simp (maxSteps := 10000000) only [List.set_cons_succ]); (try simp (maxSteps := 10000000) only [List.set_cons_zero])
        refine wpAnyH_ready (rs := [8]) (by kernel_rfl) (by simp) (AllReadyH.cons (i := 8) rfl (fun K9 hK => ?_) AllReadyH.nil)
        go_simp
        refine hK.out _ _ ((GD.out.trans (World.grownBy_alloc _ _ none)).trans (World.grownBy_alloc _ _ none)) (fun hHeld => ?_)
        clear hK K9 hHeld
        (try simp (maxSteps := 10000000) only [Act.put, List.getElem_toArray, List.getElem_cons_succ, List.getElem_cons_zero]); (try simp (maxSteps := 10000000) only [List.setIfInBounds_toArray]); (try simp (maxSteps := 10000000) only [List.set_cons_succ]); (try simp (maxSteps := 10000000) only [List.set_cons_zero])
        refine wpAnyH_ready (rs := [10]) (by kernel_rfl) (by simp) (AllReadyH.cons (i := 10) rfl (fun K9 hK => ?_) AllReadyH.nil)
        go_simp
        refine hK.out _ _ ((GD.out.trans (World.grownBy_alloc _ _ none)).trans (World.grownBy_alloc _ _ none)) (fun hHeld => ?_)
        clear hK K9 hHeld
        (try simp (maxSteps := 10000000) only [Act.put, List.getElem_toArray, List.getElem_cons_succ, List.getElem_cons_zero]); (try simp (maxSteps := 10000000) only [List.setIfInBounds_toArray]); (try simp (maxSteps := 10000000) only [List.set_cons_succ]); (try simp (maxSteps := 10000000) only [List.set_cons_zero])
        refine wpAnyH_ready (rs := [11]) (by kernel_rfl) (by simp) (AllReadyH.cons (i := 11) rfl (fun K9 hK => ?_) AllReadyH.nil)
        go_simp
        refine hK.out _ _ ((GD.out.trans (World.grownBy_alloc _ _ none)).trans (World.grownBy_alloc _ _ none)) (fun hHeld => ?_)
        clear hK K9 hHeld
        (try simp (maxSteps := 10000000) only [Act.put, List.getElem_toArray, List.getElem_cons_succ, List.getElem_cons_zero]); (try simp (maxSteps := 10000000) only [List.setIfInBounds_toArray]); (try simp (maxSteps := 10000000) only [List.set_cons_succ]); (try simp (maxSteps := 10000000) only [List.set_cons_zero])
        refine wpAnyH_done (by kernel_rfl) ?_ _
        have GW := GD.out.trans ((World.grownBy_alloc wr.drew (.cells #[.int .i64 x.kind, .int .i64 x.op, .string x.text, .slice mb x.mat.length mbc, .int .i64 x.width, .int .i64 x.back, .int .i64 x.group, .slice nb x.names.length nbc, .bool x.bool, .int .i64 x.parts] 34) none).trans (World.grownBy_alloc (wr.drew.alloc (.cells #[.int .i64 x.kind, .int .i64 x.op, .string x.text, .slice mb x.mat.length mbc, .int .i64 x.width, .int .i64 x.back, .int .i64 x.group, .slice nb x.names.length nbc, .bool x.bool, .int .i64 x.parts] 34)) (.cells #[.int .i64 x.kind, .int .i64 x.op, .string x.text, .slice ma x.mat.length mac, .int .i64 x.width, .int .i64 x.back, .int .i64 x.group, .slice na x.names.length nac, .bool x.bool, .int .i64 x.parts] 34) none))
        have R1 := heap_alloc_new wr.drew (.cells #[.int .i64 x.kind, .int .i64 x.op, .string x.text, .slice mb x.mat.length mbc, .int .i64 x.width, .int .i64 x.back, .int .i64 x.group, .slice nb x.names.length nbc, .bool x.bool, .int .i64 x.parts] 34)
        have Z1 : (wr.drew.alloc (.cells #[.int .i64 x.kind, .int .i64 x.op, .string x.text, .slice mb x.mat.length mbc, .int .i64 x.width, .int .i64 x.back, .int .i64 x.group, .slice nb x.names.length nbc, .bool x.bool, .int .i64 x.parts] 34)).heap.size = wr.heap.size + 1 := size_alloc _ _
        have R1 := ((World.grownBy_alloc (wr.drew.alloc (.cells #[.int .i64 x.kind, .int .i64 x.op, .string x.text, .slice mb x.mat.length mbc, .int .i64 x.width, .int .i64 x.back, .int .i64 x.group, .slice nb x.names.length nbc, .bool x.bool, .int .i64 x.parts] 34)) (.cells #[.int .i64 x.kind, .int .i64 x.op, .string x.text, .slice ma x.mat.length mac, .int .i64 x.width, .int .i64 x.back, .int .i64 x.group, .slice na x.names.length nac, .bool x.bool, .int .i64 x.parts] 34) none).block wr.heap.size (by rw [Z1]; omega) (by simp)).trans R1
        have R2 := heap_alloc_new (wr.drew.alloc (.cells #[.int .i64 x.kind, .int .i64 x.op, .string x.text, .slice mb x.mat.length mbc, .int .i64 x.width, .int .i64 x.back, .int .i64 x.group, .slice nb x.names.length nbc, .bool x.bool, .int .i64 x.parts] 34)) (.cells #[.int .i64 x.kind, .int .i64 x.op, .string x.text, .slice ma x.mat.length mac, .int .i64 x.width, .int .i64 x.back, .int .i64 x.group, .slice na x.names.length nac, .bool x.bool, .int .i64 x.parts] 34)
        rw [Z1] at R2
        have Z2 : ((wr.drew.alloc (.cells #[.int .i64 x.kind, .int .i64 x.op, .string x.text, .slice mb x.mat.length mbc, .int .i64 x.width, .int .i64 x.back, .int .i64 x.group, .slice nb x.names.length nbc, .bool x.bool, .int .i64 x.parts] 34)).alloc (.cells #[.int .i64 x.kind, .int .i64 x.op, .string x.text, .slice ma x.mat.length mac, .int .i64 x.width, .int .i64 x.back, .int .i64 x.group, .slice na x.names.length nac, .bool x.bool, .int .i64 x.parts] 34)).heap.size = wr.heap.size + 1 + 1 := by rw [size_alloc, Z1]
        change wr.grownBy ((wr.alloc (.cells #[.int .i64 x.kind, .int .i64 x.op, .string x.text, .slice mb x.mat.length mbc, .int .i64 x.width, .int .i64 x.back, .int .i64 x.group, .slice nb x.names.length nbc, .bool x.bool, .int .i64 x.parts] 34)).alloc (.cells #[.int .i64 x.kind, .int .i64 x.op, .string x.text, .slice ma x.mat.length mac, .int .i64 x.width, .int .i64 x.back, .int .i64 x.group, .slice na x.names.length nac, .bool x.bool, .int .i64 x.parts] 34)).drew none at GW
        change ((wr.alloc (.cells #[.int .i64 x.kind, .int .i64 x.op, .string x.text, .slice mb x.mat.length mbc, .int .i64 x.width, .int .i64 x.back, .int .i64 x.group, .slice nb x.names.length nbc, .bool x.bool, .int .i64 x.parts] 34)).alloc (.cells #[.int .i64 x.kind, .int .i64 x.op, .string x.text, .slice ma x.mat.length mac, .int .i64 x.width, .int .i64 x.back, .int .i64 x.group, .slice na x.names.length nac, .bool x.bool, .int .i64 x.parts] 34)).drew.heap[wr.heap.size]? = _ at R1
        change ((wr.alloc (.cells #[.int .i64 x.kind, .int .i64 x.op, .string x.text, .slice mb x.mat.length mbc, .int .i64 x.width, .int .i64 x.back, .int .i64 x.group, .slice nb x.names.length nbc, .bool x.bool, .int .i64 x.parts] 34)).alloc (.cells #[.int .i64 x.kind, .int .i64 x.op, .string x.text, .slice ma x.mat.length mac, .int .i64 x.width, .int .i64 x.back, .int .i64 x.group, .slice na x.names.length nac, .bool x.bool, .int .i64 x.parts] 34)).drew.heap[wr.heap.size + 1]? = _ at R2
        change ((wr.alloc (.cells #[.int .i64 x.kind, .int .i64 x.op, .string x.text, .slice mb x.mat.length mbc, .int .i64 x.width, .int .i64 x.back, .int .i64 x.group, .slice nb x.names.length nbc, .bool x.bool, .int .i64 x.parts] 34)).alloc (.cells #[.int .i64 x.kind, .int .i64 x.op, .string x.text, .slice ma x.mat.length mac, .int .i64 x.width, .int .i64 x.back, .int .i64 x.group, .slice na x.names.length nac, .bool x.bool, .int .i64 x.parts] 34)).drew.heap.size = _ at Z2
        generalize ((wr.alloc (.cells #[.int .i64 x.kind, .int .i64 x.op, .string x.text, .slice mb x.mat.length mbc, .int .i64 x.width, .int .i64 x.back, .int .i64 x.group, .slice nb x.names.length nbc, .bool x.bool, .int .i64 x.parts] 34)).alloc (.cells #[.int .i64 x.kind, .int .i64 x.op, .string x.text, .slice ma x.mat.length mac, .int .i64 x.width, .int .i64 x.back, .int .i64 x.group, .slice na x.names.length nac, .bool x.bool, .int .i64 x.parts] 34)).drew = WW at *
        clear Z1
        have GW := hid GW
        have R1 := hid R1
        have R2 := hid R2
        have Z2 := hid Z2
        go_upto_region 7 with fail
        (try simp only [List.append_eq, List.cons_append, List.nil_append])
        obtain ⟨u0, u1, u2, u3, u4, u5, u6, u7, u8, u9⟩ := nx_cells R1.out
        obtain ⟨v0, v1, v2, v3, v4, v5, v6, v7, v8, v9⟩ := nx_cells R2.out
        go_wp2_with fail
        refine (HSM.out _ GW.out).mono ?_
        rintro e w2 ⟨rfl, g2⟩
        have GW2 := hid (GW.out.trans g2)
        have R1 := hid ((g2.block wr.heap.size (by rw [Z2.out]; omega) (by simp)).trans R1.out)
        have R2 := hid ((g2.block (wr.heap.size + 1) (by rw [Z2.out]; omega) (by simp)).trans R2.out)
        have Z3 : Hid (wr.heap.size + 2 ≤ w2.heap.size) := by have := g2.size; rw [Z2.out] at this; exact this
        clear g2
        clear u0 u1 u2 u3 u4 u5 u6 u7 u8 u9
        clear v0 v1 v2 v3 v4 v5 v6 v7 v8 v9
        obtain ⟨u0, u1, u2, u3, u4, u5, u6, u7, u8, u9⟩ := nx_cells R1.out
        obtain ⟨v0, v1, v2, v3, v4, v5, v6, v7, v8, v9⟩ := nx_cells R2.out
        go_wp2_with fail
        refine (HST.out _ GW2.out).mono ?_
        rintro e w3 ⟨rfl, g3⟩
        have GW3 := hid (GW2.out.trans g3)
        have R1 := hid ((g3.block wr.heap.size (by have := Z3.out; omega) (by simp)).trans R1.out)
        have R2 := hid ((g3.block (wr.heap.size + 1) (by have := Z3.out; omega) (by simp)).trans R2.out)
        clear g3
        clear u0 u1 u2 u3 u4 u5 u6 u7 u8 u9
        clear v0 v1 v2 v3 v4 v5 v6 v7 v8 v9
        obtain ⟨u0, u1, u2, u3, u4, u5, u6, u7, u8, u9⟩ := nx_cells R1.out
        obtain ⟨v0, v1, v2, v3, v4, v5, v6, v7, v8, v9⟩ := nx_cells R2.out
        go_wp2
        go_roundw
        case rel => exact ⟨k + 1, by omega, by go_num, HG.out.trans GW3.out⟩
        case measure => simp [intOf]; omega
    · have hi : ¬ (k : Int) < (L : Int) := by omega
      go_wp2
      go_ret
      exact ⟨rfl, HG.out⟩
end Go.Proofs.Ytnimdngiejcljaa
