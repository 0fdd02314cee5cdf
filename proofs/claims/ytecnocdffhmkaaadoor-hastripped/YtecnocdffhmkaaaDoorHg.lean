/- Split: what a push says; reading, without. (Printed by mk_hg.py.) -/
import Derived.Test.YtecnocdffhmkaaaDoorHf
import Derived.Test.YtecnocdffhmkaaaDoorMd
namespace Go.Proofs.YtecnocdffhmkaaaDoor
open Go.RowKit
set_option linter.unusedVariables false
set_option maxRecDepth 20000

abbrev noB : ByteArray := ⟨#[]⟩
/-- Whether some sample has the label. -/
def someB (n : ByteArray) (P : List Smp) : Bool := P.any fun s => decide (getR s.1 n ≠ noB)
/-- The value that all samples have; empty if there is no such value. -/
def comR (n : ByteArray) : List Smp → ByteArray
  | [] => noB
  | q :: r => if r.all (fun s => decide (getR s.1 n = getR q.1 n)) then getR q.1 n else noB
theorem comR_one (n : ByteArray) (s : Smp) : comR n [s] = getR s.1 n := by simp [comR]
theorem comR_next (n : ByteArray) (P : List Smp) (s : Smp) (h : P ≠ []) : comR n (P ++ [s]) = if getR s.1 n = comR n P then comR n P else noB := by
  cases P with
  | nil => exact absurd rfl h
  | cons q r =>
    by_cases h1 : r.all (fun s => decide (getR s.1 n = getR q.1 n)) = true
    · have hX : comR n (q :: r) = getR q.1 n := by simp only [comR]; rw [if_pos h1]
      rw [hX]
      by_cases h2 : getR s.1 n = getR q.1 n
      · rw [if_pos h2]
        simp only [List.cons_append, comR, List.all_append, List.all_cons, List.all_nil, Bool.and_true]
        rw [if_pos (by rw [h1, decide_eq_true h2]; rfl)]
      · rw [if_neg h2]
        simp only [List.cons_append, comR, List.all_append, List.all_cons, List.all_nil, Bool.and_true]
        rw [if_neg (by rw [h1, decide_eq_false h2]; simp)]
    · have hX : comR n (q :: r) = noB := by simp only [comR]; rw [if_neg h1]
      rw [hX, ite_self]
      simp only [List.cons_append, comR, List.all_append, List.all_cons, List.all_nil, Bool.and_true]
      rw [Bool.not_eq_true] at h1
      rw [if_neg (by rw [h1]; simp)]
theorem someB_next (n : ByteArray) (P : List Smp) (s : Smp) : someB n (P ++ [s]) = (someB n P || decide (getR s.1 n ≠ noB)) := by simp [someB]
theorem comR_pre (n : ByteArray) (P R : List Smp) (h : P ≠ []) (hc : comR n (P ++ R) ≠ noB) : comR n P = comR n (P ++ R) := by
  cases P with
  | nil => exact absurd rfl h
  | cons q r =>
    simp only [List.cons_append, comR, List.all_append] at hc ⊢
    by_cases h1 : (r.all (fun s => decide (getR s.1 n = getR q.1 n)) && R.all (fun s => decide (getR s.1 n = getR q.1 n))) = true
    · rw [if_pos h1, if_pos (Bool.and_eq_true _ _ ▸ h1 : _ ∧ _).1]
    · rw [if_neg h1] at hc
      exact absurd rfl hc
def stripN (ns : List ByteArray) (s : Smp) : Smp := (someR s.1 ns false, s.2)
/-- What Split tells. -/
def splitR (Q : List Smp) : ByteArray × ByteArray × List Smp × Int :=
  if someB rpB Q = false then (noB, noB, Q, 0) else if comR clB Q = noB ∨ comR rpB Q = noB then (noB, noB, [], 160) else (comR clB Q, comR rpB Q, Q.map (stripN [rpB]), 0)
theorem strip_none (Q : List Smp) : Q.map (stripN []) = Q := by
  have : stripN [] = id := by
    funext s
    obtain ⟨l, t⟩ := s
    simp [stripN, someR, inB]
  rw [this, List.map_id]
theorem str_ne0 (x : ByteArray) : (x.toList == []) = decide (x = noB) := by
  have h := str_eq x noB
  rw [show noB.toList = [] by rw [ByteArray.toList_eq]] at h
  exact h
theorem ret_sb {x y : ByteArray} {b d : Bool} (h : x = y) (h2 : b = d) : Ending.returned (.tuple #[.string x, .bool b]) = .returned (.tuple #[.string y, .bool d]) := by rw [h, h2]
set_option maxHeartbeats 4000000 in
/-- What reads a push, asked for a name. -/
theorem g_read (n : ByteArray) (a : Option Addr) (raw : List (Sv × Int × Int)) (Q : List Smp) (L c rb : Nat) (w : World) (hx : SmpRd w a raw Q) (hL : Q.length = L) (hz : L ≤ 3518437208882) (hb : w.cell? ⟨rb, 0, none⟩ = some (.slice a L c)) :
    Calls Tryd.prog 50 #[.string n, .pointer (some ⟨rb, 0, none⟩)] w fun e w' => e = .returned (.tuple #[.string (comR n Q), .bool (someB n Q)]) ∧ w.grownBy w' none := by
  have HX : Hid (SmpRd w a raw Q) := hx
  have HL : Hid (Q.length = L) := hL
  clear hx hL
  go_enter Tryd.func50, Tryd.ntmps50
  go_wp2
  clear hb
  go_loopw [5, 6, 12] (fun t5 t6 t12 wr => ∃ (k : Nat) (C : ByteArray) (b : Bool), k ≤ L ∧ t12 = .int .i64 k ∧ t5 = .string C ∧ t6 = .bool b ∧ C = comR n (Q.take k) ∧ b = someB n (Q.take k) ∧ w.grownBy wr none) (fun _ _ t12 _ => L - (intOf t12).toNat)
  case atStart => exact ⟨0, noB, false, Nat.zero_le _, rfl, rfl, rfl, rfl, rfl, World.grownBy.refl _ _⟩
  case round =>
    obtain ⟨k, C, b, hk, rfl, rfl, rfl, hC, hB, hg⟩ := hrel
    have HC : Hid (C = comR n (Q.take k)) := hC
    have HB : Hid (b = someB n (Q.take k)) := hB
    have HG : Hid (w.grownBy wr none) := hg
    clear hC hB hg
    by_cases hlt : k < L
    · have hki : (k : Int) < (L : Int) := by omega
      have hl := HL.out
      obtain ⟨⟨ls, T, V⟩, ex⟩ : ∃ x, Q[k]? = some x := ⟨_, List.getElem?_eq_getElem (by omega)⟩
      obtain ⟨bb, off, la, lc, rfl, a0, a1, a2, hsr, hnil, hll⟩ := smp_cells (HX.out.grown HG.out) ex
      have HTK : Hid (Q.take (k + 1) = Q.take k ++ [(ls, T, V)]) := by show _ = _; rw [List.take_add_one, ex]; rfl
      have HTN : Hid (k ≠ 0 → Q.take k ≠ []) := fun h0 he => by
        have : (Q.take k).length = k := by rw [List.length_take]; omega
        rw [he] at this
        simp at this
        omega
      have HT0 : Hid (k = 0 → Q.take k = []) := fun h0 => by rw [h0]; rfl
      obtain ⟨n1, en1⟩ : ∃ n1, ls.length = n1 := ⟨_, rfl⟩
      rw [en1] at a0 hll
      obtain ⟨V1, hV⟩ : ∃ V1, getR ls n = V1 := ⟨_, rfl⟩
      have HV : Hid (getR ls n = V1) := hV
      obtain ⟨W, hW⟩ : ∃ W, wr.alloc (.cells #[.slice la n1 lc, .int .i64 T, .int .u64 V] 47) = W := ⟨_, rfl⟩
      have HW : Hid (wr.alloc (.cells #[.slice la n1 lc, .int .i64 T, .int .u64 V] 47) = W) := hW
      have HGW : Hid (wr.grownBy W none) := hW ▸ World.grownBy_alloc wr _ none
      have HBX : Hid (W.cell? ⟨wr.heap.size, 0, none⟩ = some (.slice la n1 lc)) := by
        rw [← hW, cell_of_row _ wr.heap.size 0 _ _ _ (heap_alloc_new wr _)]; rfl
      have HF : Hid (Calls Tryd.prog 51 #[.slice la n1 lc, .string n] W fun e w' => e = .returned (.string V1) ∧ W.grownBy w' none) := f_get la ls n1 lc n V1 W (hsr.grown HGW.out (by simp)) en1 (by omega) hV
      have hv0 := str_ne0 V1
      have hvc := str_eq V1 C
      clear hW ex hsr en1 hnil hl hV
      go_upto_region 5 with fail
      rw [HW.out]
      have x0 := HBX.out
      go_wp2_with fail
      refine HF.out.mono ?_
      rintro e w1 ⟨rfl, hg1⟩
      have HG1 : Hid (w.grownBy w1 none) := (HG.out.trans HGW.out).trans hg1
      clear hg1 x0 a0 a1 a2
      have HSOME : Hid ((b || decide (V1 ≠ noB)) = someB n (Q.take (k + 1))) := by
        show _ = _
        rw [HTK.out, someB_next, HB.out, HV.out]
      have HCOM : Hid ((if k = 0 then V1 else if V1 = C then C else noB) = comR n (Q.take (k + 1))) := by
        show _ = _
        rw [HTK.out]
        by_cases h0 : k = 0
        · rw [if_pos h0, HT0.out h0, List.nil_append, comR_one, HV.out]
        · rw [if_neg h0, comR_next n _ _ (HTN.out h0), ← HC.out, HV.out]
      clear HTK HTN HT0 HV HC HB

      by_cases h0 : k = 0
      · have q0 : ((k : Int) == 0) = true := by simp; omega
        have q0' : (k == 0) = true := by simpa using h0
        have HCOM2 : Hid (V1 = comR n (Q.take (k + 1))) := by show _ = _; rw [← HCOM.out, if_pos h0]
        have HK0 : Hid (k = 0) := h0
        clear HCOM hvc h0
        by_cases hv : V1 = noB
        · rw [decide_eq_true hv] at hv0
          have hv0' : (V1.toList != []) = false := by simp [bne, hv0]
          cases b with
          | true =>
            have HSOME2 : Hid (true = someB n (Q.take (k + 1))) := HSOME.out
            clear HSOME hv
            go_wp2
            go_roundw
            case rel => exact ⟨k + 1, V1, true, by omega, by go_num, rfl, rfl, HCOM2.out, HSOME2.out, HG1.out⟩
            case measure => simp [intOf]; omega
          | false =>
            have HSOME2 : Hid (false = someB n (Q.take (k + 1))) := by show _ = _; rw [← HSOME.out]; simp [hv]
            clear HSOME hv
            go_wp2
            go_roundw
            case rel => exact ⟨k + 1, V1, false, by omega, by go_num, rfl, rfl, HCOM2.out, HSOME2.out, HG1.out⟩
            case measure => simp [intOf]; omega
        · rw [decide_eq_false hv] at hv0
          have hv0' : (V1.toList != []) = true := by simp [bne, hv0]
          have HSOME2 : Hid (true = someB n (Q.take (k + 1))) := by show _ = _; rw [← HSOME.out]; simp [hv]
          clear HSOME hv
          cases b with
          | true =>
            go_wp2
            go_roundw
            case rel => exact ⟨k + 1, V1, true, by omega, by go_num, rfl, rfl, HCOM2.out, HSOME2.out, HG1.out⟩
            case measure => simp [intOf]; omega
          | false =>
            go_wp2
            go_roundw
            case rel => exact ⟨k + 1, V1, true, by omega, by go_num, rfl, rfl, HCOM2.out, HSOME2.out, HG1.out⟩
            case measure => simp [intOf]; omega
      · have q0 : ((k : Int) == 0) = false := by simp; omega
        have q0' : (k == 0) = false := by simpa using h0
        by_cases hvC : V1 = C
        · rw [decide_eq_true hvC] at hvc
          have hvc' : (V1.toList != C.toList) = false := by simp [bne, hvc]
          have HCOM2 : Hid (C = comR n (Q.take (k + 1))) := by show _ = _; rw [← HCOM.out, if_neg h0, if_pos hvC]
          clear HCOM hvC
          by_cases hv : V1 = noB
          · rw [decide_eq_true hv] at hv0
            have hv0' : (V1.toList != []) = false := by simp [bne, hv0]
            cases b with
            | true =>
              have HSOME2 : Hid (true = someB n (Q.take (k + 1))) := HSOME.out
              clear HSOME hv
              go_wp2
              go_roundw
              case rel => exact ⟨k + 1, C, true, by omega, by go_num, rfl, rfl, HCOM2.out, HSOME2.out, HG1.out⟩
              case measure => simp [intOf]; omega
            | false =>
              have HSOME2 : Hid (false = someB n (Q.take (k + 1))) := by show _ = _; rw [← HSOME.out]; simp [hv]
              clear HSOME hv
              go_wp2
              go_roundw
              case rel => exact ⟨k + 1, C, false, by omega, by go_num, rfl, rfl, HCOM2.out, HSOME2.out, HG1.out⟩
              case measure => simp [intOf]; omega
          · rw [decide_eq_false hv] at hv0
            have hv0' : (V1.toList != []) = true := by simp [bne, hv0]
            have HSOME2 : Hid (true = someB n (Q.take (k + 1))) := by show _ = _; rw [← HSOME.out]; simp [hv]
            clear HSOME hv
            cases b with
            | true =>
              go_wp2
              go_roundw
              case rel => exact ⟨k + 1, C, true, by omega, by go_num, rfl, rfl, HCOM2.out, HSOME2.out, HG1.out⟩
              case measure => simp [intOf]; omega
            | false =>
              go_wp2
              go_roundw
              case rel => exact ⟨k + 1, C, true, by omega, by go_num, rfl, rfl, HCOM2.out, HSOME2.out, HG1.out⟩
              case measure => simp [intOf]; omega
        · rw [decide_eq_false hvC] at hvc
          have hvc' : (V1.toList != C.toList) = true := by simp [bne, hvc]
          have HCOM2 : Hid (noB = comR n (Q.take (k + 1))) := by show _ = _; rw [← HCOM.out, if_neg h0, if_neg hvC]
          clear HCOM hvC
          by_cases hv : V1 = noB
          · rw [decide_eq_true hv] at hv0
            have hv0' : (V1.toList != []) = false := by simp [bne, hv0]
            cases b with
            | true =>
              have HSOME2 : Hid (true = someB n (Q.take (k + 1))) := HSOME.out
              clear HSOME hv
              go_wp2
              go_roundw
              case rel => exact ⟨k + 1, noB, true, by omega, by go_num, rfl, rfl, HCOM2.out, HSOME2.out, HG1.out⟩
              case measure => simp [intOf]; omega
            | false =>
              have HSOME2 : Hid (false = someB n (Q.take (k + 1))) := by show _ = _; rw [← HSOME.out]; simp [hv]
              clear HSOME hv
              go_wp2
              go_roundw
              case rel => exact ⟨k + 1, noB, false, by omega, by go_num, rfl, rfl, HCOM2.out, HSOME2.out, HG1.out⟩
              case measure => simp [intOf]; omega
          · rw [decide_eq_false hv] at hv0
            have hv0' : (V1.toList != []) = true := by simp [bne, hv0]
            have HSOME2 : Hid (true = someB n (Q.take (k + 1))) := by show _ = _; rw [← HSOME.out]; simp [hv]
            clear HSOME hv
            cases b with
            | true =>
              go_wp2
              go_roundw
              case rel => exact ⟨k + 1, noB, true, by omega, by go_num, rfl, rfl, HCOM2.out, HSOME2.out, HG1.out⟩
              case measure => simp [intOf]; omega
            | false =>
              go_wp2
              go_roundw
              case rel => exact ⟨k + 1, noB, true, by omega, by go_num, rfl, rfl, HCOM2.out, HSOME2.out, HG1.out⟩
              case measure => simp [intOf]; omega
    · obtain rfl : k = L := by omega
      have HE : Hid (Q.take k = Q) := List.take_of_length_le (by have := HL.out; omega)
      go_wp2
      go_ret2
      exact ⟨ret_sb (by rw [HC.out, HE.out]) (by rw [HB.out, HE.out]), HG.out⟩
end Go.Proofs.YtecnocdffhmkaaaDoor
