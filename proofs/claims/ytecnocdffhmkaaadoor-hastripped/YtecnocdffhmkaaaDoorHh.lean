/- without, Split: the program's. (Printed by mk_hh.py.) -/
import Derived.Test.YtecnocdffhmkaaaDoorHg
import Derived.Deep.CutRange
import Derived.Deep.Cut
namespace Go.Proofs.YtecnocdffhmkaaaDoor
open Go.RowKit
set_option linter.unusedVariables false
set_option maxRecDepth 20000

set_option maxHeartbeats 4000000 in
/-- The samples without the labels of some names. -/
theorem g_without (a b : Option Addr) (raw : List (Sv × Int × Int)) (Q : List Smp) (ss : List ByteArray) (L M c d : Nat) (w : World) (hx : SmpRd w a raw Q) (hy : SRd strE w b ss) (hL : Q.length = L) (hM : ss.length = M) (hz : L ≤ 3518437208882) (hz2 : M ≤ 8796093022208) :
    Calls Tryd.prog 33 #[.slice a L c, .slice b M d] w fun e w' => ∃ a' c' raw', e = .returned (.slice a' L c') ∧ SmsOwn w' w.heap.size (.slice a' L c') (Q.map (stripN ss)) raw' ∧ w.grownBy w' none := by
  have HX : Hid (SmpRd w a raw Q) := hx
  have HY : Hid (SRd strE w b ss) := hy
  have HL : Hid (Q.length = L) := hL
  have HM : Hid (ss.length = M) := hM
  obtain ⟨Z, hZ⟩ : ∃ Z, Q.map (stripN ss) = Z := ⟨_, rfl⟩
  have HZ : Hid (Q.map (stripN ss) = Z) := hZ
  rw [hZ]
  clear hx hy hL hM hZ
  go_enter Tryd.func33, Tryd.ntmps33
  go_wp2
  go_loopw [5, 10] (fun t5 t10 wr => ∃ (k : Nat) (Va : Option Addr) (Vc : Nat) (raw' : List (Sv × Int × Int)), k ≤ L ∧ t5 = .slice Va k Vc ∧ t10 = .int .i64 k ∧ SmsOwn wr w.heap.size (.slice Va k Vc) (Z.take k) raw' ∧ w.grownBy wr none) (fun _ t10 _ => L - (intOf t10).toNat)
  case atStart => exact ⟨0, none, 0, [], Nat.zero_le _, rfl, rfl, by rw [List.take_zero]; exact SmsOwn.nil _ _, World.grownBy.refl _ _⟩
  case round =>
    obtain ⟨k, Va, Vc, raw', hk, rfl, rfl, hown, hg⟩ := hrel
    have HO : Hid (SmsOwn wr w.heap.size (.slice Va k Vc) (Z.take k) raw') := hown
    have HG : Hid (w.grownBy wr none) := hg
    clear hown hg
    by_cases hlt : k < L
    · have hki : (k : Int) < (L : Int) := by omega
      have hl := HL.out
      obtain ⟨⟨ls, T, V⟩, ex⟩ : ∃ x, Q[k]? = some x := ⟨_, List.getElem?_eq_getElem (by omega)⟩
      obtain ⟨bb, off, la, lc, rfl, a0, a1, a2, hsr, hnil, hll⟩ := smp_cells (HX.out.grown HG.out) ex
      have HTK : Hid (Z.take (k + 1) = Z.take k ++ [(someR ls ss false, T, V)]) := by
        show _ = _
        have e1 : Z[k]? = some (someR ls ss false, T, V) := by rw [← HZ.out, List.getElem?_map, ex]; rfl
        rw [List.take_add_one, e1]
        rfl
      have HZL : Hid ((Z.take k).length = k) := by
        show _ = _
        rw [← HZ.out, List.length_take, List.length_map]
        omega
      obtain ⟨n1, en1⟩ : ∃ n1, ls.length = n1 := ⟨_, rfl⟩
      have HR2 : Hid ((someR ls ss false).length ≤ 4398046511000) := Nat.le_trans (someR_len ls ss false) hll
      rw [en1] at a0 hll
      obtain ⟨W, hW⟩ : ∃ W, wr.alloc (.cells #[.slice la n1 lc, .int .i64 T, .int .u64 V] 47) = W := ⟨_, rfl⟩
      have HW : Hid (wr.alloc (.cells #[.slice la n1 lc, .int .i64 T, .int .u64 V] 47) = W) := hW
      have HGW : Hid (wr.grownBy W none) := hW ▸ World.grownBy_alloc wr _ none
      have HBX : Hid (W.heap[wr.heap.size]? = some (.cells #[.slice la n1 lc, .int .i64 T, .int .u64 V] 47 (0, 0))) := by rw [← hW]; exact heap_alloc_new wr _
      have HF : Hid (Calls Tryd.prog 52 #[.slice la n1 lc, .slice b M d] W fun e w' => ∃ v n, e = .returned v ∧ SOwn labE 63 w' W.heap.size v n (someR ls ss false) ∧ W.grownBy w' none) := f_without la b ls ss n1 M lc d _ W (hsr.grown HGW.out (by simp)) (HY.out.grown (HG.out.trans HGW.out) (by simp)) en1 HM.out hll hz2 rfl
      generalize someR ls ss false = R at HTK HR2 HF
      clear hW ex hsr en1 hnil hl
      obtain ⟨x0, x1, x2⟩ := cell3 HBX.out
      go_upto_region 5 with fail
      rw [HW.out]
      go_wp2_with fail
      refine HF.out.mono ?_
      rintro e w6 ⟨v6, n6, rfl, ho6, hg6⟩
      obtain ⟨a6, c6, rfl⟩ := sown_slice ho6
      have HO6 : Hid (SOwn labE 63 w6 W.heap.size (.slice a6 n6 c6) n6 R) := ho6
      have HG6 : Hid (W.grownBy w6 none) := hg6
      have HBlt : Hid (wr.heap.size < W.heap.size) := (Array.getElem?_eq_some_iff.1 HBX.out).1
      have HX6 : Hid (w6.heap[wr.heap.size]? = some (.cells #[.slice la n1 lc, .int .i64 T, .int .u64 V] 47 (0, 0))) := (hg6.block wr.heap.size HBlt.out (by simp)).trans HBX.out
      clear ho6 hg6 x0 x1 x2 a0 a1 a2
      obtain ⟨y0, y1, y2⟩ := cell3 HX6.out
      have f0 := free_row HX6.out 0
      obtain ⟨W6, hW6⟩ : ∃ W6, w6.setCell ⟨wr.heap.size, 0, none⟩ (.slice a6 n6 c6) = W6 := ⟨_, rfl⟩
      have HW6 : Hid (w6.setCell ⟨wr.heap.size, 0, none⟩ (.slice a6 n6 c6) = W6) := hW6
      have HGs : Hid (w6.grownBy W6 (some wr.heap.size)) := hW6 ▸ gb_set rfl
      have HG7 : Hid (wr.grownBy W6 none) := gb_trans (HGW.out.trans HG6.out) HGs.out (fun k hk => .inl (by cases hk; exact Nat.le_refl _))
      have z0 : W6.cell? ⟨wr.heap.size, 0, none⟩ = some (.slice a6 n6 c6) := by rw [← hW6]; exact World.cell?_setCell_same _ _ _ y0
      have z1 : W6.cell? ⟨wr.heap.size, 1, none⟩ = some (.int .i64 T) := by rw [← hW6, World.cell?_setCell_other _ _ _ _ (by simp)]; exact y1
      have z2 : W6.cell? ⟨wr.heap.size, 2, none⟩ = some (.int .u64 V) := by rw [← hW6, World.cell?_setCell_other _ _ _ _ (by simp)]; exact y2
      have HOL : Hid (SOwn labE 63 W6 w.heap.size (.slice a6 n6 c6) n6 R) := by
        have h1 := SOwn.kept HO6.out HGs.out (by
          cases a6 with
          | none => exact .inl rfl
          | some x =>
            right
            intro e
            have h2 := (SOwn.block HO6.out x.block rfl).1
            have h3 := HBlt.out
            simp only [Value.ownBlock, Option.some.injEq] at e
            omega)
        exact SOwn.base h1 (Nat.le_trans HG.out.size (Nat.le_of_lt HBlt.out))
      clear hW6
      go_upto_region 6 with fail
      rw [HW6.out]
      clear y0 y1 y2 f0
      have HNEXT : Hid (SOwn smpE 47 (W6.alloc (.cells #[.slice a6 n6 c6, .int .i64 T, .int .u64 V] 47)) w.heap.size (.slice Va k Vc) k raw' ∧
          SRd smpE (W6.alloc (.cells #[.slice a6 n6 c6, .int .i64 T, .int .u64 V] 47)) (some ⟨W6.heap.size, 0, none⟩) [((a6, n6, c6), T, V)] ∧
          w.heap.size ≤ (W6.alloc (.cells #[.slice a6 n6 c6, .int .i64 T, .int .u64 V] 47)).heap.size ∧
          ∀ v7 w7, SOwn smpE 47 w7 w.heap.size v7 (k + 1) (raw' ++ [((a6, n6, c6), T, V)]) → (W6.alloc (.cells #[.slice a6 n6 c6, .int .i64 T, .int .u64 V] 47)).grownBy w7 (Value.slice Va k Vc).ownBlock →
            ∃ a7 c7, v7 = .slice a7 (k + 1) c7 ∧ Hid (SmsOwn w7 w.heap.size v7 (Z.take (k + 1)) (raw' ++ [((a6, n6, c6), T, V)]) ∧ w.grownBy w7 none)) := by
        have ga := World.grownBy_alloc W6 (.cells #[.slice a6 n6 c6, .int .i64 T, .int .u64 V] 47) none
        have hO7 := HO.out.grown HG7.out
        have hrow := (hO7.grown ga).row
        rw [HZL.out] at hrow
        refine ⟨hrow, srd_lit smpE 47 W6 [((a6, n6, c6), T, V)], Nat.le_trans HG.out.size (Nat.le_trans HG7.out.size ga.size), ?_⟩
        intro v7 w7 ho7 hg7
        obtain ⟨a7, c7, rfl⟩ := sown_slice ho7
        refine ⟨a7, c7, rfl, ?_, ?_⟩
        · rw [HTK.out]
          have hlR : R.length = n6 := SOwn.len HOL.out
          refine own_append (hO7.grown ga) (by rw [HZL.out]; exact ho7) hg7 ⟨hlR.symm, rfl, HR2.out, ?_⟩
          simp only
          rw [hlR]
          exact SOwn.kept HOL.out ga (by cases a6 with | none => exact .inl rfl | some x => exact .inr (by simp [Value.ownBlock]))
        · refine gb_trans ((HG.out.trans HG7.out).trans ga) hg7 (fun j hj => .inl ?_)
          exact (SOwn.block HO.out.row j hj).1
      go_wp2_with (at_builtin; refine wpList_append_s smpT rfl (.tmp 19) (.tmp 21) rfl w.heap.size (.slice Va k Vc) k raw' rfl HNEXT.out.1 (some ⟨W6.heap.size, 0, none⟩) [((a6, n6, c6), T, V)] 1 1 rfl rfl HNEXT.out.2.1 (by simp) (by omega) (by unfold maxLen; omega) HNEXT.out.2.2.1 ?_; intro v7 w7 ho7 hg7 _; obtain ⟨a7, c7, rfl, HR7⟩ := HNEXT.out.2.2.2 v7 w7 ho7 hg7; clear ho7 hg7)
      go_roundw
      case rel => exact ⟨k + 1, a7, c7, _, by omega, rfl, by go_num, HR7.out.1, HR7.out.2⟩
      case measure => simp [intOf]; omega
    · obtain rfl : k = L := by omega
      have HLT : Hid (Z.take k = Z) := List.take_of_length_le (by rw [← HZ.out, List.length_map]; have := HL.out; omega)
      go_wp2
      go_ret
      have ho := HO.out
      rw [HLT.out] at ho
      exact ⟨Va, Vc, raw', rfl, ho, HG.out⟩
end Go.Proofs.YtecnocdffhmkaaaDoor
