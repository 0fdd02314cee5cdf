/- The program's Sum. -/
import Derived.Test.YtbhffjeoakalbaaGreatDoorCsum
import Derived.Test.YtbhffjeoakalbaaGreatDoorCcrc
import Derived.Test.YtbhffjeoakalbaaGreatDoorDnum
namespace Go.Proofs.YtbhffjeoakalbaaGreatDoor
open Go.RowKit
set_option linter.unusedVariables false

set_option maxHeartbeats 400000 in
theorem g_eight (c0 R : Int) (w : World) (hc : 0 ≤ c0 ∧ c0 ≤ 4294967295) (hR : crcN 8 c0 = R) :
    Calls Tryz.prog 127 #[.int .u32 c0] w fun e w' => e = .returned (.int .u32 R) ∧ w = w' := by
  have HX : Hid (0 ≤ c0 ∧ c0 ≤ 4294967295) := hc
  have HR : Hid (crcN 8 c0 = R) := hR
  clear hR
  go_enter Tryz.func127, Tryz.ntmps127
  go_wp2
  go_loop [0, 3] (fun t0 t3 => ∃ (k : Nat) (d : Int), k ≤ 8 ∧ CrcAt c0 k d ∧ t0 = .int .u32 d ∧ t3 = .int .i64 k) (fun _ t3 => 8 - (intOf t3).toNat)
  case atStart => exact ⟨0, c0, by omega, rfl, rfl, rfl⟩
  case round =>
    obtain ⟨k, d, hk, hd, rfl, rfl⟩ := hrel
    have HD : Hid (CrcAt c0 k d) := hd
    have hdb := hd.bd HX.out
    clear hd
    by_cases hk8 : k < 8
    · by_cases hodd : d % 2 = 1
      · have e1 : (d % 2 == 0) = false := by simp; omega
        have HDN : Hid (CrcAt c0 (k + 1) (bits .xor .u32 (d / 2) 3988292384)) := HD.out.odd hodd
        clear hodd
        go_wp2
        go_round
        case rel => exact ⟨k + 1, _, by omega, HDN.out, rfl, by go_num⟩
        case measure => simp [intOf]; omega
      · have e1 : (d % 2 == 0) = true := by simp; omega
        have HDN : Hid (CrcAt c0 (k + 1) (d / 2)) := HD.out.even hodd
        clear hodd
        go_wp2
        go_round
        case rel => exact ⟨k + 1, _, by omega, HDN.out, rfl, by go_num⟩
        case measure => simp [intOf]; omega
    · have hk' : k = 8 := by omega
      subst hk'
      go_wp2
      go_ret
      exact ⟨ret_int (by have := HD.out; unfold CrcAt at this; rw [this]; exact HR.out), rfl⟩

set_option maxHeartbeats 400000 in
theorem g_plain (a : Option Addr) (zs : List Int) (L cap : Nat) (R : Int) (w : World) (hr : Rd w a zs) (hL : zs.length = L) (hz : (L : Int) ≤ 140737488355328) (hR : sumR zs = R) :
    Calls Tryz.prog 101 #[.slice a L cap] w fun e w' => e = .returned (.int .u32 R) ∧ w = w' := by
  have HR : Hid (Rd w a zs) := hr
  have HL : Hid (zs.length = L) := hL
  have HS : Hid (sumR zs = R) := hR
  clear hr hL hR
  go_enter Tryz.func101, Tryz.ntmps101
  go_wp2
  go_loop [3, 8] (fun t3 t8 => ∃ (j : Nat) (c : Int), j ≤ L ∧ SumAt zs j c ∧ t3 = .int .u32 c ∧ t8 = .int .i64 j) (fun _ t8 => L - (intOf t8).toNat)
  case atStart => exact ⟨0, 4294967295, Nat.zero_le _, rfl, rfl, rfl⟩
  case round =>
    obtain ⟨j, c, hj, hs, rfl, rfl⟩ := hrel
    have HJ : Hid (SumAt zs j c) := hs
    have hcb := hs.bd HR.out.2
    clear hs
    by_cases hlt : j < L
    · have hl := HL.out
      obtain ⟨b, off, rfl, hc⟩ := HR.out.at (by omega)
      have hcell := hc j (by omega)
      have hby := HR.out.byte j
      have HN : Hid (SumAt zs (j + 1) (crcB c (zs.getD j 0))) := HJ.out.next (by omega)
      obtain ⟨z, ez⟩ : ∃ z, z = zs.getD j 0 := ⟨_, rfl⟩
      rw [← ez] at hcell hby HN
      have hxb := xor32_bd c z hcb (by omega)
      have HC : Hid (Calls Tryz.prog 127 #[.int .u32 (bits .xor .u32 c z)] w fun e w' => e = .returned (.int .u32 (crcB c z)) ∧ w = w') := g_eight _ _ w hxb rfl
      clear hc ez hl HJ
      go_wp2_with (go_at_call 127; refine HC.out.mono ?_; rintro e w1 ⟨rfl, rfl⟩)
      go_round
      case rel => exact ⟨j + 1, _, by omega, HN.out, rfl, by go_num⟩
      case measure => simp [intOf]; omega
    · have HE : Hid (bits .xor .u32 c 4294967295 = R) := by
        have h1 := HJ.out
        unfold SumAt at h1
        rw [List.take_of_length_le (by have := HL.out; omega)] at h1
        show _ = _
        rw [h1]; exact HS.out
      go_wp2
      go_ret
      exact ⟨ret_int HE.out, rfl⟩


def tab (i : Nat) : Value := .int .u32 (crcN 8 (i : Int))
def tabs : List Value := (List.range 256).map tab

theorem info125 : (Tryz.prog.info? 125).map (fun i => (i.zero, i.size)) = some (some (.agg (Array.replicate 256 (.int .u32 0))), 256) := by kernel_rfl
theorem size54 : (Tryz.prog.info? 125).map (·.size) = some 256 := by kernel_rfl
theorem under54 : Tryz.prog.underlying 125 = some (.array 256 87) := by kernel_rfl
theorem zero54 (w : World) : (zeroValue 125).run Tryz.prog w = .ok (.agg (Array.replicate 256 (.int .u32 0))) w := by
  have h := info125
  cases hq : Tryz.prog.info? 125 with
  | none => rw [hq] at h; simp at h
  | some i =>
    rw [hq] at h
    simp only [Option.map_some, Option.some.injEq, Prod.mk.injEq] at h
    simp [zeroValue, typeInfo, hq, h.1]

/-- The table, as far as it is made. -/
def TabAt (w : World) (g k : Nat) : Prop := ∃ cur : Array Value, w.heap[g]? = some (.cells cur 125 (0, 0)) ∧ cur.size = 256 ∧ (∀ j, j < k → cur[j]? = some (tab j)) ∧ cur.all (·.oneCell') = true
theorem TabAt.set {w : World} {g k : Nat} (h : TabAt w g k) (hk : k < 256) : TabAt (w.setCell ⟨g, k, none⟩ (tab k)) g (k + 1) := by
  obtain ⟨cur, h1, h2, h3, h4⟩ := h
  refine ⟨cur.setIfInBounds k (tab k), ?_, by simpa using h2, ?_, ?_⟩
  · rw [setCell_eq_setRow w g k cur 125 (0, 0) (tab k) h1, setRow_heap w g cur _ 125 _ h1]
  · intro j hj
    by_cases e : j = k
    · subst e; simp [h2, hk]
    · rw [Array.getElem?_setIfInBounds_ne (by omega)]
      exact h3 j (by omega)
  · rw [Array.all_eq_true] at h4 ⊢
    intro j hj
    rw [Array.getElem_setIfInBounds]
    split
    · rfl
    · exact h4 j (by simpa using hj)
theorem TabAt.done {w : World} {g : Nat} (h : TabAt w g 256) : w.heap[g]? = some (.cells tabs.toArray 125 (0, 0)) := by
  obtain ⟨cur, h1, h2, h3, h4⟩ := h
  rw [h1]
  have : cur = tabs.toArray := by
    apply Array.ext
    · rw [h2]; simp [tabs]
    · intro j hj hj'
      have := h3 j (by omega)
      rw [Array.getElem?_eq_getElem hj] at this
      simp only [Option.some.injEq] at this
      rw [this]
      simp [tabs]
  rw [this]
theorem tabs_size : tabs.toArray.size = 256 := by simp [tabs]
theorem tabs_one : tabs.toArray.all (·.oneCell') = true := by
  rw [Array.all_eq_true]
  intro j hj
  simp [tabs, tab]
  rfl

theorem alloc_size (w : World) (o : Obj) : (w.alloc o).heap.size = w.heap.size + 1 := Array.size_push _
theorem alloc2_new (w : World) (o1 o2 : Obj) : ((w.alloc o1).alloc o2).heap[w.heap.size + 1]? = some o2 := by
  have := heap_alloc_new (w.alloc o1) o2
  rwa [alloc_size] at this
theorem alloc2_old (w : World) (o1 o2 : Obj) : ((w.alloc o1).alloc o2).heap[w.heap.size]? = some o1 := by
  rw [(World.grownBy_alloc (w.alloc o1) o2 none).block w.heap.size (by rw [alloc_size]; omega) (by simp)]
  exact heap_alloc_new w o1
theorem Z_one : (Array.replicate 256 (Value.int .u32 0)).all (·.oneCell') = true := by
  rw [Array.all_eq_true]; intro j hj; rw [Array.getElem_replicate]; rfl

theorem results_cell {fn : Func} {p : Tmp} {ty : TypeId} (h : fn.results = #[.cell p ty]) (tmps : Array Value) (P : Program) (w : World) (ad : Addr) (v : Value) (h1 : tmps.getD p undef = .pointer (some ad)) (h2 : (loadVar ty ad).run P w = .ok v w) :
    (results fn tmps).run P w = .ok v w := by
  rw [Array.getD_eq_getD_getElem?] at h1
  simp only [results, h]
  simp [h1, asAddr, h2]

set_option maxRecDepth 100000 in
set_option maxHeartbeats 1000000 in
theorem g_sums (w : World) :
    Calls Tryz.prog 103 #[] w fun e w' => e = .returned (.agg tabs.toArray) ∧ w.grownBy w' none := by
  have hz : ∀ w, (zeroValue 125).run Tryz.prog w = .ok (.agg (Array.replicate 256 (.int .u32 0))) w := zero54
  have HZ : Hid (TabAt ((w.alloc (.cells (Array.replicate 256 (.int .u32 0)) 125)).alloc (.cells (Array.replicate 256 (.int .u32 0)) 125)) (w.heap.size + 1) 0) :=
    ⟨Array.replicate 256 (.int .u32 0), alloc2_new _ _ _, Array.size_replicate, by simp, Z_one⟩
  have HS : Hid ((Array.replicate 256 (Value.int .u32 0)).size = 256) := Array.size_replicate
  generalize Array.replicate 256 (Value.int .u32 0) = Z at hz HZ HS
  have HDn : Hid (∀ w' : World, TabAt w' (w.heap.size + 1) 256 → w'.heap[w.heap.size + 1]? = some (.cells tabs.toArray 125 (0, 0))) := fun _ h => h.done
  have HTs : Hid (tabs.toArray.size = 256) := tabs_size
  have HTo : Hid (tabs.toArray.all (·.oneCell') = true) := tabs_one
  generalize tabs.toArray = T at HDn HTs HTo ⊢
  have u54 := under54
  go_enter Tryz.func103, Tryz.ntmps103
  go_wp2
  go_loopw [3] (fun t3 wr => ∃ (i : Nat), i ≤ 256 ∧ t3 = .int .i64 i ∧ TabAt wr (w.heap.size + 1) i ∧ w.grownBy wr none ∧ wr.heap[w.heap.size]? = some (.cells Z 125 (0, 0)) ∧ w.heap.size + 1 < wr.heap.size) (fun t3 _ => 256 - (intOf t3).toNat)
  case atStart => exact ⟨0, by omega, rfl, HZ.out, (World.grownBy_alloc w _ none).trans (World.grownBy_alloc _ _ none), alloc2_old _ _ _, by rw [alloc_size, alloc_size]; omega⟩
  case round =>
    obtain ⟨i, hi, rfl, ht, hg, hb, hsz⟩ := hrel
    have HT : Hid (TabAt wr (w.heap.size + 1) i) := ht
    have HG : Hid (w.grownBy wr none) := hg
    have HB : Hid (wr.heap[w.heap.size]? = some (.cells Z 125 (0, 0))) := hb
    have HW : Hid (w.heap.size + 1 < wr.heap.size) := hsz
    clear HZ hg hb hsz
    by_cases hlt : i < 256
    · have hcell : ∃ v, wr.cell? ⟨w.heap.size + 1, i, none⟩ = some v := by
        obtain ⟨cur, h1, h2, _⟩ := ht
        exact ⟨cur[i], by rw [cell_of_row wr _ i cur 125 _ h1, Array.getElem?_eq_getElem (by omega)]⟩
      obtain ⟨v0, hcell⟩ := hcell
      have hfro : wr.frozen? ⟨w.heap.size + 1, i, none⟩ = false := by
        obtain ⟨cur, h1, h2, _⟩ := ht
        simp [World.frozen?, h1]
      have HC : Hid (Calls Tryz.prog 127 #[.int .u32 (i : Int)] wr fun e w' => e = .returned (tab i) ∧ wr = w') := g_eight _ _ wr (by omega) rfl
      have HN : Hid (TabAt (wr.setCell ⟨w.heap.size + 1, i, none⟩ (tab i)) (w.heap.size + 1) (i + 1)) := HT.out.set hlt
      unfold tab at HC HN
      generalize crcN 8 (i : Int) = r at HC HN
      clear ht
      go_wp2_with (go_at_call 127; refine HC.out.mono ?_; rintro e w1 ⟨rfl, rfl⟩)
      go_roundw
      case rel => exact ⟨i + 1, by omega, by go_num, HN.out, gb_trans HG.out (gb_set rfl) (fun k hk => by simp at hk; subst hk; exact .inl (by omega)), ((gb_set (w := wr) (p := ⟨w.heap.size + 1, i, none⟩) (u := .int .u32 r) rfl).block w.heap.size (by have := HW.out; omega) (by simp)).trans HB.out, Nat.lt_of_lt_of_le HW.out (gb_set (w := wr) (p := ⟨w.heap.size + 1, i, none⟩) (u := .int .u32 r) rfl).size⟩
      case measure => simp [intOf]; omega
    · obtain rfl : i = 256 := by omega
      have hrow := HDn.out wr HT.out
      have HROW : Hid (wr.heap[w.heap.size + 1]? = some (.cells T 125 (0, 0))) := hrow
      have hst : (storeCells ⟨w.heap.size, 0, none⟩ T.toList).run Tryz.prog wr = .ok () (wr.setRow w.heap.size T) := by
        have := run_storeCells_from (P := Tryz.prog) w.heap.size 125 T.toList 0 Z wr HB.out (by have := HS.out; have := HTs.out; simp; omega) (fun v hv => (Array.all_eq_true_iff_forall_mem.1 HTo.out) v (by simpa using hv))
        simpa using this
      have HH : Hid ((wr.setRow w.heap.size T).heap[w.heap.size]? = some (.cells T 125 (0, 0))) := setRow_heap wr _ Z _ 125 _ HB.out
      have HGB : Hid (w.grownBy (wr.setRow w.heap.size T) none) := by
        refine ⟨HG.out.os, HG.out.tape, HG.out.output, ?_, ?_⟩
        · have := HG.out.size
          simpa [World.setRow] using this
        · intro k hk _
          rw [← HG.out.block k hk (by simp)]
          simp only [World.setRow]
          rw [Array.getElem?_modify]
          simp [show ¬ w.heap.size = k by omega]
      generalize wr.setRow w.heap.size T = w9 at hst HH HGB
      clear hrow ht
      go_wp2
      refine wp_load_row 125 (.tmp 1) rfl _ rfl 125 T (0, 0) _ HROW.out under54 rfl (by rw [size54, HTs.out]) ?_
      go_wp2
      have hl : (loadVar 125 ⟨w.heap.size, 0, none⟩).run Tryz.prog w9 = .ok (.agg T) w9 := run_loadVar_row w9 _ 125 125 _ _ _ HH.out under54 rfl (by rw [size54, HTs.out])
      refine bodyPost_ret (v := .agg T) (results_cell Tryz.results103 _ _ _ _ _ rfl hl) rfl ⟨rfl, HGB.out⟩
end Go.Proofs.YtbhffjeoakalbaaGreatDoor
