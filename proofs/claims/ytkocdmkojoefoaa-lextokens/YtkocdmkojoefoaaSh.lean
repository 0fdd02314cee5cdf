/- sign: the walk. -/
import Derived.Test.YtkocdmkojoefoaaSg
import Derived.Deep.Cut
namespace Go.Proofs.Ytkocdmkojoefoaa
open Go.RowKit
set_option linter.unusedVariables false
set_option maxRecDepth 20000

def sgV : Array Value := (sgs.map Value.string).toArray
theorem sg_idx (k : Nat) (x : ByteArray) (hx : sgs[k]? = some x) (w : World) : (Instr.index 51 (.agg sgV) (.int .i64 (k : Int))).run Try.prog w = .ok (.string x) w := by
  have hk : k < 20 := (List.getElem?_eq_some_iff.1 hx).1
  have h : ∀ j : Fin 20, (Instr.index 51 (.agg sgV) (.int .i64 (j.val : Int))).run Try.prog w = .ok (.string (sgs[j.val]'j.isLt)) w := by
    intro j
    have e : sgV[j.val]? = some (.string (sgs[j.val]'j.isLt)) := by
      unfold sgV
      rw [List.getElem?_toArray, List.getElem?_map, List.getElem?_eq_getElem j.isLt]
      rfl
    simp [Instr.index, run_underlying Try.underlying51, asIntOf, go_sem, e]
  have := h ⟨k, hk⟩
  rw [List.getElem?_eq_getElem hk] at hx
  rw [this, ← Option.some.inj hx]
theorem sg_size (k : Nat) (x : ByteArray) (hx : sgs[k]? = some x) : 1 ≤ x.size ∧ x.size ≤ 2 := by
  have hk : k < 20 := (List.getElem?_eq_some_iff.1 hx).1
  have h : ∀ y ∈ sgs, 1 ≤ y.size ∧ y.size ≤ 2 := by decide
  exact h x (List.mem_of_getElem? hx)
set_option maxHeartbeats 2000000 in
theorem f_sign (s : ByteArray) (w : World) (hs : s.size ≤ 4096) (h0 : 1 ≤ s.size) : Calls Try.prog 26 #[.string s] w fun e w' => TkOut (sgnR (sInts s)) w e w' := by
  have HB : Hid (Bx w (w.alloc (.cells #[.int .i64 0, .int .i64 0, .string ⟨#[]⟩, .int .i64 0] 32)) w.heap.size) := Bx.made w
  have HR : Hid (sgFrom s (sgs.drop 0) = sgnR (sInts s)) := sg_eq s h0
  generalize sgnR (sInts s) = R at HR ⊢
  generalize hW : (w.alloc (.cells #[.int .i64 0, .int .i64 0, .string ⟨#[]⟩, .int .i64 0] 32)) = W at HB
  have HW : Hid ((w.alloc (.cells #[.int .i64 0, .int .i64 0, .string ⟨#[]⟩, .int .i64 0] 32)) = W) := hW
  clear hW
  generalize hG : w.heap.size = G at HB
  have HG : Hid (w.heap.size = G) := hG
  clear hG
  have HI : Hid (∀ (k : Nat) (x : ByteArray), sgs[k]? = some x → ∀ w, (Instr.index 51 (.agg #[.string ⟨#[61, 61]⟩, .string ⟨#[33, 61]⟩, .string ⟨#[60, 61]⟩, .string ⟨#[62, 61]⟩, .string ⟨#[61, 126]⟩, .string ⟨#[33, 126]⟩, .string ⟨#[60]⟩, .string ⟨#[62]⟩, .string ⟨#[61]⟩, .string ⟨#[43]⟩, .string ⟨#[45]⟩, .string ⟨#[42]⟩, .string ⟨#[47]⟩, .string ⟨#[40]⟩, .string ⟨#[41]⟩, .string ⟨#[123]⟩, .string ⟨#[125]⟩, .string ⟨#[91]⟩, .string ⟨#[93]⟩, .string ⟨#[44]⟩]) (.int .i64 (k : Int))).run Try.prog w = .ok (.string x) w) := fun k x hx w => sg_idx k x hx w
  go_enter Try.func26, Try.ntmps26
  go_upto_region 1 with fail
  rw [HW.out, HG.out]
  go_wp2_with fail
  generalize (#[.string ⟨#[61, 61]⟩, .string ⟨#[33, 61]⟩, .string ⟨#[60, 61]⟩, .string ⟨#[62, 61]⟩, .string ⟨#[61, 126]⟩, .string ⟨#[33, 126]⟩, .string ⟨#[60]⟩, .string ⟨#[62]⟩, .string ⟨#[61]⟩, .string ⟨#[43]⟩, .string ⟨#[45]⟩, .string ⟨#[42]⟩, .string ⟨#[47]⟩, .string ⟨#[40]⟩, .string ⟨#[41]⟩, .string ⟨#[123]⟩, .string ⟨#[125]⟩, .string ⟨#[91]⟩, .string ⟨#[93]⟩, .string ⟨#[44]⟩] : Array Value) = A at HI ⊢
  go_loopw [7] (fun t7 wr => ∃ k : Nat, k ≤ 20 ∧ t7 = .int .i64 (k : Int) ∧ sgFrom s (sgs.drop k) = R ∧ wr = W) (fun t7 _ => 20 - (intOf t7).toNat)
  case atStart => exact ⟨0, by omega, rfl, HR.out, rfl⟩
  case round =>
    obtain ⟨k, hk, rfl, hr, rfl⟩ := hrel
    have HK : Hid (sgFrom s (sgs.drop k) = R) := hr
    clear hr HR
    by_cases hlt : k < 20
    · have hki : (k : Int) < 20 := by omega
      obtain ⟨x, ex⟩ : ∃ x, sgs[k]? = some x := ⟨_, List.getElem?_eq_getElem hlt⟩
      have hidx := HI.out k x ex
      have hxs := sg_size k x ex
      have hpx := g_hasPrefix s x wr hs (by omega)
      have HX : Hid ((if preB s x = true then (5, x, 0, x.size) else sgFrom s (sgs.drop (k + 1))) = R) := by
        show _ = _
        rw [← HK.out]
        have hl : k < sgs.length := hlt
        rw [List.drop_eq_getElem_cons hl, show sgs[k] = x from by rw [List.getElem?_eq_getElem hl] at ex; exact Option.some.inj ex, sgFrom]
      clear ex HK
      cases hb : preB s x with
      | true =>
        have HX2 : Hid (R = (5, x, 0, x.size)) := by show _ = _; rw [← HX.out, if_pos hb]
        rw [hb] at hpx
        obtain ⟨r0, r1, r2, r3⟩ := cell4 HB.out.row
        have f0 := free_row HB.out.row 0
        have f1 := free_row HB.out.row 1
        have f2 := free_row HB.out.row 2
        have f3 := free_row HB.out.row 3
        generalize hn : x.size = n at HX2 hxs
        clear hb HX HI
        go_wp2_with (go_at_call 32; refine hpx.mono ?_; rintro e w1 ⟨rfl, rfl⟩)
        refine bodyPost_ret (v := .tuple #[tokV 5 0 x 0, .int .i64 (n : Int)]) (results_row_tmp Try.results26 _ _ _ G 32 _ (0, 0) _ rfl (row4 HB.out.row (.int .i64 5) (.int .i64 0) (.string x) (.int .i64 0)) Try.underlying32 isz32) rfl ?_
        exact tk_ret HB.out HX2.out
      | false =>
        have HX2 : Hid (sgFrom s (sgs.drop (k + 1)) = R) := by show _ = _; rw [← HX.out, if_neg (by rw [hb]; simp)]
        rw [hb] at hpx
        clear hb HX HI
        go_wp2_with (go_at_call 32; refine hpx.mono ?_; rintro e w1 ⟨rfl, rfl⟩)
        go_roundw
        case rel => exact ⟨k + 1, by omega, by go_num, HX2.out, trivial⟩
        case measure => simp [intOf]; omega
    · have hki : ¬ (k : Int) < 20 := by omega
      have HX2 : Hid (R = (0, ⟨#[]⟩, 0, 0)) := by
        show _ = _
        rw [← HK.out, List.drop_eq_nil_of_le (by show 20 ≤ k; omega)]
        rfl
      obtain ⟨r0, r1, r2, r3⟩ := cell4 HB.out.row
      have f0 := free_row HB.out.row 0
      have f1 := free_row HB.out.row 1
      have f2 := free_row HB.out.row 2
      have f3 := free_row HB.out.row 3
      clear HK HI
      go_wp2_with fail
      refine bodyPost_ret (v := .tuple #[tokV 0 0 ⟨#[]⟩ 0, .int .i64 (0 : Int)]) (results_row_tmp Try.results26 _ _ _ G 32 _ (0, 0) _ rfl (row4 HB.out.row (.int .i64 0) (.int .i64 0) (.string ⟨#[]⟩) (.int .i64 0)) Try.underlying32 isz32) rfl ?_
      exact tk_ret (n := 0) HB.out HX2.out
end Go.Proofs.Ytkocdmkojoefoaa
