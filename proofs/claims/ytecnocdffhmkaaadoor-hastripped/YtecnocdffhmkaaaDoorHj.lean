/- Split: the document's. (Printed by mk_hj.py.) -/
import Derived.Test.YtecnocdffhmkaaaDoorHi
namespace Go.Proofs.YtecnocdffhmkaaaDoor
open Go.RowKit
set_option linter.unusedVariables false
set_option maxRecDepth 20000

theorem set1 {w : World} {g : Nat} {x y z : Value} {t : TypeId} (h : w.heap[g]? = some (.cells #[x, y, z] t (0, 0))) (v : Value) : (w.setCell ⟨g, 0, none⟩ v).heap[g]? = some (.cells #[v, y, z] t (0, 0)) := by
  simp [World.setCell, Array.getElem?_modify, h]
theorem sown_past {w : World} {base B j n c : Nat} {a : Option Addr} {R : List Lab} (h : SOwn labE 63 w base (.slice a n c) n R) (hB : B < base) (u : Value) : SOwn labE 63 (w.setCell ⟨B, j, none⟩ u) base (.slice a n c) n R :=
  SOwn.kept h (row := some B) (gb_set rfl) (by
    cases a with
    | none => exact .inl rfl
    | some x =>
      right
      intro e
      have h2 := (SOwn.block h x.block rfl).1
      simp only [Value.ownBlock, Option.some.injEq] at e
      omega)
/-- A sample appended to those that a call owns: what the walk wants of it. -/
theorem next_own {w wr Wf : World} {Z : List Smp} {k Vc n6 c6 : Nat} {Va a6 : Option Addr} {raw' : List (Sv × Int × Int)} {T V : Int} {R : List Lab} (HO : SmsOwn wr w.heap.size (.slice Va k Vc) (Z.take k) raw') (HG : w.grownBy wr none) (HG7 : wr.grownBy Wf none) (HZL : (Z.take k).length = k) (HTK : Z.take (k + 1) = Z.take k ++ [(R, T, V)]) (HR2 : R.length ≤ 4398046511000) (HOL : SOwn labE 63 Wf w.heap.size (.slice a6 n6 c6) n6 R) :
    SOwn smpE 47 (Wf.alloc (.cells #[.slice a6 n6 c6, .int .i64 T, .int .u64 V] 47)) w.heap.size (.slice Va k Vc) k raw' ∧
    SRd smpE (Wf.alloc (.cells #[.slice a6 n6 c6, .int .i64 T, .int .u64 V] 47)) (some ⟨Wf.heap.size, 0, none⟩) [((a6, n6, c6), T, V)] ∧
    w.heap.size ≤ (Wf.alloc (.cells #[.slice a6 n6 c6, .int .i64 T, .int .u64 V] 47)).heap.size ∧
    ∀ v7 w7, SOwn smpE 47 w7 w.heap.size v7 (k + 1) (raw' ++ [((a6, n6, c6), T, V)]) → (Wf.alloc (.cells #[.slice a6 n6 c6, .int .i64 T, .int .u64 V] 47)).grownBy w7 (Value.slice Va k Vc).ownBlock →
      ∃ a7 c7, v7 = .slice a7 (k + 1) c7 ∧ Hid (SmsOwn w7 w.heap.size v7 (Z.take (k + 1)) (raw' ++ [((a6, n6, c6), T, V)]) ∧ w.grownBy w7 none) := by
  have ga := World.grownBy_alloc Wf (.cells #[.slice a6 n6 c6, .int .i64 T, .int .u64 V] 47) none
  have hO7 := HO.grown HG7
  have hrow := (hO7.grown ga).row
  rw [HZL] at hrow
  refine ⟨hrow, srd_lit smpE 47 Wf [((a6, n6, c6), T, V)], Nat.le_trans HG.size (Nat.le_trans HG7.size ga.size), ?_⟩
  intro v7 w7 ho7 hg7
  obtain ⟨a7, c7, rfl⟩ := sown_slice ho7
  refine ⟨a7, c7, rfl, ?_, ?_⟩
  · rw [HTK]
    have hlR : R.length = n6 := SOwn.len HOL
    refine own_append (hO7.grown ga) (by rw [HZL]; exact ho7) hg7 ⟨hlR.symm, rfl, HR2, ?_⟩
    simp only
    rw [hlR]
    exact SOwn.kept HOL ga (by cases a6 with | none => exact .inl rfl | some x => exact .inr (by simp [Value.ownBlock]))
  · refine gb_trans ((HG.trans HG7).trans ga) hg7 (fun j hj => .inl ?_)
    exact (SOwn.block HO.row j hj).1
/-- The document's two values, so far. -/
theorem com_step (n : ByteArray) (Q : List Smp) (k : Nat) (s : Smp) (h : Q[k]? = some s) : comR n (Q.take (k + 1)) = if k = 0 then getR s.1 n else if getR s.1 n = comR n (Q.take k) then comR n (Q.take k) else noB := by
  have e : Q.take (k + 1) = Q.take k ++ [s] := by rw [List.take_add_one, h]; rfl
  have hlt := (List.getElem?_eq_some_iff.1 h).1
  rw [e]
  by_cases h0 : k = 0
  · rw [if_pos h0]
    subst h0
    simp [comR]
  · rw [if_neg h0]
    refine comR_next n _ _ (fun he => ?_)
    have : (Q.take k).length = k := by rw [List.length_take]; omega
    rw [he] at this
    simp at this
    omega
theorem com_bad (n : ByteArray) (Q : List Smp) (k : Nat) (hk : k < Q.length) (h : comR n (Q.take (k + 1)) = noB) : comR n Q = noB := by
  rcases Classical.em (comR n Q = noB) with h1 | h1
  · exact h1
  · have := comR_pre n (Q.take (k + 1)) (Q.drop (k + 1)) (fun he => by
      have : (Q.take (k + 1)).length = k + 1 := by rw [List.length_take]; omega
      rw [he] at this
      simp at this) (by rw [List.take_append_drop]; exact h1)
    rw [List.take_append_drop, h] at this
    exact absurd this.symm h1
set_option maxHeartbeats 8000000 in
theorem r_split (a : Option Addr) (raw : List (Sv × Int × Int)) (Q : List Smp) (L c : Nat) (C R : ByteArray) (Z : List Smp) (E : Int) (w : World) (hx : SmpRd w a raw Q) (hL : Q.length = L) (hz : L ≤ 3518437208882) (hR : splitR Q = (C, R, Z, E)) :
    Calls Tryd.prog 8 #[.slice a L c] w fun e w' => SpOut w C R Z E e w' := by
  have HX : Hid (SmpRd w a raw Q) := hx
  have HL : Hid (Q.length = L) := hL
  have HR : Hid (splitR Q = (C, R, Z, E)) := hR
  clear hx hL hR
  go_enter Tryd.func8, Tryd.ntmps8
  go_wp2
  go_loopw [6, 7] (fun t6 t7 wr => ∃ (k : Nat) (b : Bool), k ≤ L ∧ t7 = .int .i64 k ∧ t6 = .bool b ∧ b = someB rpB (Q.take k) ∧ w = wr) (fun _ t7 _ => L - (intOf t7).toNat)
  case atStart => exact ⟨0, false, Nat.zero_le _, rfl, rfl, rfl, rfl⟩
  case round =>
    obtain ⟨k, b, hk, rfl, rfl, hB, rfl⟩ := hrel
    have HB : Hid (b = someB rpB (Q.take k)) := hB
    clear hB
    by_cases hlt : k < L
    · have hki : (k : Int) < (L : Int) := by omega
      have hl := HL.out
      obtain ⟨⟨ls, T, V⟩, ex⟩ : ∃ x, Q[k]? = some x := ⟨_, List.getElem?_eq_getElem (by omega)⟩
      obtain ⟨bb, off, la, lc, rfl, a0, a1, a2, hsr, hnil, hll⟩ := smp_cells HX.out ex
      have HSN : Hid ((b || decide (getR ls rpB ≠ noB)) = someB rpB (Q.take (k + 1))) := by
        show _ = _
        have e : Q.take (k + 1) = Q.take k ++ [(ls, T, V)] := by rw [List.take_add_one, ex]; rfl
        rw [e, someB_next, HB.out]
      obtain ⟨n1, en1⟩ : ∃ n1, ls.length = n1 := ⟨_, rfl⟩
      rw [en1] at a0 hll
      have HF : Hid (∀ w1, w = w1 → Calls Tryd.prog 27 #[.slice la n1 lc, .string rpB] w1 fun e w' => e = .returned (.string (getR ls rpB)) ∧ w1 = w') := fun w1 e1 => by subst e1; exact r_get la ls n1 lc rpB _ w hsr en1 (by omega) rfl
      have hv0 := str_ne0 (getR ls rpB)
      generalize getR ls rpB = V1 at HSN HF hv0
      clear ex hsr en1 hnil hl a1 a2
      cases b with
      | true =>
        have HS2 : Hid (true = someB rpB (Q.take (k + 1))) := HSN.out
        clear HSN hv0
        go_wp2
        go_roundw
        case rel => exact ⟨k + 1, true, by omega, by go_num, rfl, HS2.out, trivial⟩
        case measure => simp [intOf]; omega
      | false =>
        by_cases hv : V1 = noB
        · rw [decide_eq_true hv] at hv0
          have hv0' : (V1.toList != []) = false := by simp [bne, hv0]
          have HS2 : Hid (false = someB rpB (Q.take (k + 1))) := by show _ = _; rw [← HSN.out]; simp [hv]
          clear HSN hv
          go_wp2_with (go_at_call 27; refine (HF.out _ rfl).mono ?_; rintro e w1 ⟨rfl, rfl⟩)
          go_roundw
          case rel => exact ⟨k + 1, false, by omega, by go_num, rfl, HS2.out, trivial⟩
          case measure => simp [intOf]; omega
        · rw [decide_eq_false hv] at hv0
          have hv0' : (V1.toList != []) = true := by simp [bne, hv0]
          have HS2 : Hid (true = someB rpB (Q.take (k + 1))) := by show _ = _; rw [← HSN.out]; simp [hv]
          clear HSN hv
          go_wp2_with (go_at_call 27; refine (HF.out _ rfl).mono ?_; rintro e w1 ⟨rfl, rfl⟩)
          go_roundw
          case rel => exact ⟨k + 1, true, by omega, by go_num, rfl, HS2.out, trivial⟩
          case measure => simp [intOf]; omega
    · obtain rfl : k = L := by omega
      have hBQ : b = someB rpB Q := by rw [HB.out, List.take_of_length_le (by have := HL.out; omega)]
      have HBQ : Hid (b = someB rpB Q) := hBQ
      clear hBQ HB hlt hk
      cases b with
      | false =>
        have HZ : Hid ((noB, noB, Q, (0 : Int)) = (C, R, Z, E)) := by
          show _ = _
          have h := HR.out
          unfold splitR at h
          rw [← HBQ.out, if_pos rfl] at h
          exact h
        clear HR HBQ
        go_wp2
        go_loopw [8, 9, 10, 11] (fun t8 t9 t10 t11 wr => ∃ (j : Nat) (Va : Option Addr) (Vc : Nat) (raw' : List (Sv × Int × Int)), j ≤ k ∧ t8 = .slice Va j Vc ∧ t11 = .int .i64 j ∧ t9 = .string noB ∧ t10 = .string noB ∧ SmsOwn wr w.heap.size (.slice Va j Vc) (Q.take j) raw' ∧ w.grownBy wr none) (fun _ _ _ t11 _ => k - (intOf t11).toNat)
        case atStart => exact ⟨0, none, 0, [], Nat.zero_le _, rfl, rfl, rfl, rfl, by rw [List.take_zero]; exact SmsOwn.nil _ _, World.grownBy.refl _ _⟩
        case round =>
          obtain ⟨j, Va, Vc, raw', hj, rfl, rfl, rfl, rfl, hown, hg⟩ := hrel
          have HO : Hid (SmsOwn wr w.heap.size (.slice Va j Vc) (Q.take j) raw') := hown
          have HG : Hid (w.grownBy wr none) := hg
          clear hown hg
          by_cases hlt : j < k
          · have hki : (j : Int) < (k : Int) := by omega
            have hl := HL.out
            obtain ⟨⟨ls, T, V⟩, ex⟩ : ∃ x, Q[j]? = some x := ⟨_, List.getElem?_eq_getElem (by omega)⟩
            obtain ⟨bb, off, la, lc, rfl, a0, a1, a2, hsr, hnil, hll⟩ := smp_cells (HX.out.grown HG.out) ex
            have HTK : Hid (Q.take (j + 1) = Q.take j ++ [(ls, T, V)]) := by show _ = _; rw [List.take_add_one, ex]; rfl
            have HZL : Hid ((Q.take j).length = j) := by show _ = _; rw [List.length_take]; omega
            obtain ⟨n1, en1⟩ : ∃ n1, ls.length = n1 := ⟨_, rfl⟩
            have HRL : Hid (ls.length ≤ 4398046511000) := hll
            have HLE : Hid (ls.length = n1) := en1
            have HSR : Hid (SRd labE wr la ls) := hsr
            have HNL : Hid (la = none → lc = 0) := hnil
            rw [en1] at a0 hll
            obtain ⟨W, hW⟩ : ∃ W, wr.alloc (.cells #[.slice la n1 lc, .int .i64 T, .int .u64 V] 47) = W := ⟨_, rfl⟩
            have HW : Hid (wr.alloc (.cells #[.slice la n1 lc, .int .i64 T, .int .u64 V] 47) = W) := hW
            have HGW : Hid (wr.grownBy W none) := hW ▸ World.grownBy_alloc wr _ none
            have HBX : Hid (W.heap[wr.heap.size]? = some (.cells #[.slice la n1 lc, .int .i64 T, .int .u64 V] 47 (0, 0))) := by rw [← hW]; exact heap_alloc_new wr _
            have HBlt : Hid (wr.heap.size < W.heap.size) := (Array.getElem?_eq_some_iff.1 HBX.out).1
            clear hW
            clear ex hsr en1 hnil hl
            go_upto_region 18 with fail
            rw [HW.out]
            clear a0 a1 a2
            have HGX := HGW
            have HXB := HBX
            have HXlt := HBlt
            clear HW HGW HBX HBlt
            revert HGX HXB HXlt
            generalize W = X
            intro HGX HXB HXlt
            obtain ⟨x0, x1, x2⟩ := cell3 HXB.out
            have HSO : Hid (SRd labE (X.alloc (.cells #[] 63)) la ls) := HSR.out.grown (HGX.out.trans (World.grownBy_alloc X _ none)) (by simp)
            have HXA : Hid ((X.alloc (.cells #[] 63)).cell? ⟨wr.heap.size, 0, none⟩ = some (.slice la n1 lc)) := (World.grownBy_alloc X _ none).cell x0 (by simp)
            have x0' := HXA.out
            have HSZ : Hid (X.heap.size ≤ (X.alloc (.cells #[] 63)).heap.size) := (World.grownBy_alloc X _ none).size
            have HAP : Hid (∀ v7 w7, SOwn labE 63 w7 X.heap.size v7 (0 + n1) ([] ++ ls) → (X.alloc (.cells #[] 63)).grownBy w7 (Value.slice (some ⟨X.heap.size, 0, none⟩) 0 0).ownBlock → ∃ a7 c7, v7 = .slice a7 n1 c7 ∧ Hid (SOwn labE 63 w7 X.heap.size (.slice a7 n1 c7) n1 ls ∧ X.grownBy w7 none ∧ w7.heap[wr.heap.size]? = some (.cells #[.slice la n1 lc, .int .i64 T, .int .u64 V] 47 (0, 0)))) := by
              intro v7 w7 ho7 hg7
              rw [List.nil_append, Nat.zero_add] at ho7
              obtain ⟨a7, c7, rfl⟩ := sown_slice ho7
              have hg : X.grownBy w7 none := gb_trans (World.grownBy_alloc X _ none) hg7 (fun i hi => .inl (by simp [Value.ownBlock] at hi; omega))
              exact ⟨a7, c7, rfl, ho7, hg, (hg.block wr.heap.size HXlt.out (by simp)).trans HXB.out⟩
            go_upto_region 19 with (at_builtin; refine wpList_append_s labT rfl (.tmp 70) (.tmp 72) rfl X.heap.size (.slice (some ⟨X.heap.size, 0, none⟩) 0 0) 0 [] rfl (SOwn.empty labE 63 X) la ls n1 lc rfl HLE.out HSO.out HNL.out (by omega) (by unfold maxLen; omega) HSZ.out ?_; intro v7 w7 ho7 hg7 _; obtain ⟨a7, c7, rfl, H7⟩ := HAP.out v7 w7 ho7 hg7; clear ho7 hg7; obtain ⟨y0, y1, y2⟩ := cell3 H7.out.2.2; have f0 := free_row H7.out.2.2 0)
            obtain ⟨W8, hW8⟩ : ∃ W8, w7.setCell ⟨wr.heap.size, 0, none⟩ (.slice a7 n1 c7) = W8 := ⟨_, rfl⟩
            have HX8 : Hid (W8.heap[wr.heap.size]? = some (.cells #[.slice a7 n1 c7, .int .i64 T, .int .u64 V] 47 (0, 0))) := by rw [← hW8]; exact set1 H7.out.2.2 _
            have HO8 : Hid (SOwn labE 63 W8 X.heap.size (.slice a7 n1 c7) n1 ls) := by rw [← hW8]; exact sown_past H7.out.1 HXlt.out _
            have HG8 : Hid (wr.grownBy W8 none) := by
              rw [← hW8]
              exact gb_trans (row' := some wr.heap.size) (HGX.out.trans H7.out.2.1) (gb_set rfl) (fun k hk => .inl (by cases hk; exact Nat.le_refl _))
            rw [hW8]
            clear hW8 y0 y1 y2 f0 x0 x1 x2 x0' HXA HAP HSO HSZ
            obtain ⟨z0, z1, z2⟩ := cell3 HX8.out
            have HGF := HG8
            have HOF : Hid (SOwn labE 63 W8 w.heap.size (.slice a7 n1 c7) n1 ls) := SOwn.base HO8.out (Nat.le_trans HG.out.size HGX.out.size)
            have HNX := next_own HO.out HG.out HGF.out HZL.out HTK.out HRL.out HOF.out
            have HN1 : Hid _ := HNX.1
            have HN2 : Hid _ := HNX.2.1
            have HN3 : Hid _ := HNX.2.2.1
            have HN4 : Hid _ := HNX.2.2.2
            clear HNX
            go_wp2_with (at_builtin; refine wpList_append_s smpT rfl (.tmp 81) (.tmp 83) rfl w.heap.size (.slice Va j Vc) j raw' rfl HN1.out (some ⟨W8.heap.size, 0, none⟩) [((a7, n1, c7), T, V)] 1 1 rfl rfl HN2.out (by simp) (by omega) (by unfold maxLen; omega) HN3.out ?_; intro v11 w11 ho11 hg11 _; obtain ⟨a11, c11, rfl, HR11⟩ := HN4.out v11 w11 ho11 hg11; clear ho11 hg11)
            go_roundw
            case rel => exact ⟨j + 1, a11, c11, _, by omega, rfl, by go_num, rfl, rfl, HR11.out.1, HR11.out.2⟩
            case measure => simp [intOf]; omega
          · obtain rfl : j = k := by omega
            have HLT : Hid (Q.take j = Q) := List.take_of_length_le (by have := HL.out; omega)
            go_wp2
            refine bodyPost_ret (v := .tuple #[.string noB, .string noB, .slice Va j Vc, .int .i64 0]) (by simp [results, Tryd.results8, go_sem]) rfl ?_
            have ho := HO.out
            rw [HLT.out] at ho
            have hr := HZ.out
            cases hr
            have hl := HL.out
            subst hl
            exact ⟨Va, Vc, raw', rfl, ho, HG.out⟩
      | true =>
        have HSP : Hid ((if comR clB Q = noB ∨ comR rpB Q = noB then (noB, noB, ([] : List Smp), (160 : Int)) else (comR clB Q, comR rpB Q, Q.map (stripN [rpB]), 0)) = (C, R, Z, E)) := by
          show _ = _
          have h := HR.out
          unfold splitR at h
          rw [← HBQ.out, if_neg (by simp)] at h
          exact h
        have HNZ : Hid (0 < k) := by
          show 0 < k
          rcases Nat.eq_zero_or_pos k with h | h
          · have h1 := HBQ.out
            have h2 : Q = [] := List.eq_nil_of_length_eq_zero (by have := HL.out; omega)
            rw [h2] at h1
            simp [someB] at h1
          · exact h
        obtain ⟨Zf, hZf⟩ : ∃ Zf, Q.map (stripN [rpB]) = Zf := ⟨_, rfl⟩
        have HZF : Hid (Q.map (stripN [rpB]) = Zf) := hZf
        rw [hZf] at HSP
        clear HR HBQ hZf
        go_wp2
        go_loopw [8, 9, 10, 11] (fun t8 t9 t10 t11 wr => ∃ (j : Nat) (Va : Option Addr) (Vc : Nat) (raw' : List (Sv × Int × Int)) (Cc Rc : ByteArray), j ≤ k ∧ t8 = .slice Va j Vc ∧ t11 = .int .i64 j ∧ t9 = .string Cc ∧ t10 = .string Rc ∧ SmsOwn wr w.heap.size (.slice Va j Vc) (Zf.take j) raw' ∧ w.grownBy wr none ∧ Cc = comR clB (Q.take j) ∧ Rc = comR rpB (Q.take j) ∧ (0 < j → Cc ≠ noB ∧ Rc ≠ noB)) (fun _ _ _ t11 _ => k - (intOf t11).toNat)
        case atStart => exact ⟨0, none, 0, [], noB, noB, Nat.zero_le _, rfl, rfl, rfl, rfl, by rw [List.take_zero]; exact SmsOwn.nil _ _, World.grownBy.refl _ _, rfl, rfl, fun h => by omega⟩
        case round =>
          obtain ⟨j, Va, Vc, raw', Cc, Rc, hj, rfl, rfl, rfl, rfl, hown, hg, hcc, hrc, hne⟩ := hrel
          have HO : Hid (SmsOwn wr w.heap.size (.slice Va j Vc) (Zf.take j) raw') := hown
          have HG : Hid (w.grownBy wr none) := hg
          clear hown hg
          have HCC : Hid (Cc = comR clB (Q.take j)) := hcc
          have HRC : Hid (Rc = comR rpB (Q.take j)) := hrc
          have HNE0 : Hid (0 < j → Cc ≠ noB ∧ Rc ≠ noB) := hne
          clear hcc hrc hne
          by_cases hlt : j < k
          · have hki : (j : Int) < (k : Int) := by omega
            have hl := HL.out
            obtain ⟨⟨ls, T, V⟩, ex⟩ : ∃ x, Q[j]? = some x := ⟨_, List.getElem?_eq_getElem (by omega)⟩
            obtain ⟨bb, off, la, lc, rfl, a0, a1, a2, hsr, hnil, hll⟩ := smp_cells (HX.out.grown HG.out) ex
            have HTK : Hid (Zf.take (j + 1) = Zf.take j ++ [(someR ls [rpB] false, T, V)]) := by
              show _ = _
              have e1 : Zf[j]? = some (someR ls [rpB] false, T, V) := by rw [← HZF.out, List.getElem?_map, ex]; rfl
              rw [List.take_add_one, e1]
              rfl
            have HZL : Hid ((Zf.take j).length = j) := by show _ = _; rw [← HZF.out, List.length_take, List.length_map]; omega
            obtain ⟨n1, en1⟩ : ∃ n1, ls.length = n1 := ⟨_, rfl⟩
            have HRL : Hid ((someR ls [rpB] false).length ≤ 4398046511000) := Nat.le_trans (someR_len ls [rpB] false) hll
            have HLE : Hid (ls.length = n1) := en1
            have HSR : Hid (SRd labE wr la ls) := hsr
            have HNL : Hid (la = none → lc = 0) := hnil
            rw [en1] at a0 hll
            obtain ⟨Rs, hRs⟩ : ∃ Rs, someR ls [rpB] false = Rs := ⟨_, rfl⟩
            have HRS : Hid (someR ls [rpB] false = Rs) := hRs
            rw [hRs] at HTK HRL
            obtain ⟨W, hW⟩ : ∃ W, wr.alloc (.cells #[.slice la n1 lc, .int .i64 T, .int .u64 V] 47) = W := ⟨_, rfl⟩
            have HW : Hid (wr.alloc (.cells #[.slice la n1 lc, .int .i64 T, .int .u64 V] 47) = W) := hW
            have HGW : Hid (wr.grownBy W none) := hW ▸ World.grownBy_alloc wr _ none
            have HBX : Hid (W.heap[wr.heap.size]? = some (.cells #[.slice la n1 lc, .int .i64 T, .int .u64 V] 47 (0, 0))) := by rw [← hW]; exact heap_alloc_new wr _
            have HBlt : Hid (wr.heap.size < W.heap.size) := (Array.getElem?_eq_some_iff.1 HBX.out).1
            clear hW
            have HGT : Hid (∀ (nm : ByteArray) (p9 : Gb W), Calls Tryd.prog 27 #[.slice la n1 lc, .string nm] p9.w' fun e w' => e = .returned (.string (getR ls nm)) ∧ p9.w'.grownBy w' none) := fun nm p9 => (r_get la ls n1 lc nm _ p9.w' (hsr.grown (HGW.out.trans p9.h) (by simp)) en1 (by omega) rfl).mono fun e w' ⟨h1, h2⟩ => ⟨h1, h2 ▸ World.grownBy.refl _ _⟩
            have HCC1 : Hid (comR clB (Q.take (j + 1)) = if j = 0 then getR ls clB else if getR ls clB = Cc then Cc else noB) := by show _ = _; rw [com_step clB Q j _ ex, HCC.out]
            have HRC1 : Hid (comR rpB (Q.take (j + 1)) = if j = 0 then getR ls rpB else if getR ls rpB = Rc then Rc else noB) := by show _ = _; rw [com_step rpB Q j _ ex, HRC.out]
            have HFAIL : Hid (comR clB (Q.take (j + 1)) = noB ∨ comR rpB (Q.take (j + 1)) = noB → (noB, noB, ([] : List Smp), (160 : Int)) = (C, R, Z, E)) := fun h => by
              have h2 := HSP.out
              rw [if_pos (by
                rcases h with h | h
                · exact .inl (com_bad clB Q j (by omega) h)
                · exact .inr (com_bad rpB Q j (by omega) h))] at h2
              exact h2
            clear ex hsr en1 hnil hl hRs
            go_upto_region 13 with fail
            rw [HW.out]
            clear a0 a1 a2
            obtain ⟨x0, x1, x2⟩ := cell3 HBX.out
            have e0 : ∀ p9 : Gb W, p9.w'.cell? ⟨wr.heap.size, 0, none⟩ = some (.slice la n1 lc) := Gb.cell x0
            clear x0 x1 x2
            generalize getR ls = G at HGT HCC1 HRC1
            go_wp2_with fail
            refine wp_region_gb (by kernel_rfl) (by kernel_rfl) ?_
            repeat ((with_reducible refine wpQuiet_step (fun K hK => ?_)); go_simp; first | (refine hK _ ?_; clear hK K) | (apply Exists.intro; refine ⟨fun _ => ?_, hK _ ?_⟩; (go_at_call 27; exact gb_call (HGT.out _ _)); clear hK K))
            with_reducible refine wpQuiet_nil ?_
            rintro X ⟨p9, hp9⟩
            have hq : W.grownBy X none := hp9 ▸ p9.h
            clear hp9
            clear p9
            clear e0
            have HGX0 : Hid (wr.grownBy X none) := HGW.out.trans hq
            have HXB : Hid (X.heap[wr.heap.size]? = some (.cells #[.slice la n1 lc, .int .i64 T, .int .u64 V] 47 (0, 0))) := (hq.block wr.heap.size HBlt.out (by simp)).trans HBX.out
            have HXlt : Hid (wr.heap.size < X.heap.size) := (Array.getElem?_eq_some_iff.1 HXB.out).1
            have HGall : Hid (w.grownBy X none) := HG.out.trans HGX0.out
            clear hq HGT HW HGW HBX HBlt
            generalize G clB = C1 at HCC1 ⊢
            generalize G rpB = R1 at HRC1 ⊢
            clear G
            have hc0 := str_ne0 C1
            have hr0 := str_ne0 R1
            have hcc := str_eq C1 Cc
            have hrr := str_eq R1 Rc
            by_cases hc1 : C1 = noB
            · have HBAD : Hid ((noB, noB, ([] : List Smp), (160 : Int)) = (C, R, Z, E)) := HFAIL.out (.inl (by
                rw [HCC1.out]
                by_cases h0 : j = 0
                · rw [if_pos h0]; exact hc1
                · rw [if_neg h0, hc1]; split <;> simp_all))
              rw [decide_eq_true hc1] at hc0
              clear hr0 hcc hrr hc1 HFAIL HCC1 HRC1
              go_wp2
              refine bodyPost_ret (v := .tuple #[.string noB, .string noB, .slice none 0 0, .int .i64 160]) (by simp [results, Tryd.results8, go_sem]) rfl ?_
              have hr := HBAD.out
              cases hr
              exact ⟨none, 0, [], rfl, SmsOwn.nil _ _, HGall.out⟩
            · rw [decide_eq_false hc1] at hc0
              by_cases hr1 : R1 = noB
              · have HBAD : Hid ((noB, noB, ([] : List Smp), (160 : Int)) = (C, R, Z, E)) := HFAIL.out (.inr (by
                  rw [HRC1.out]
                  by_cases h0 : j = 0
                  · rw [if_pos h0]; exact hr1
                  · rw [if_neg h0, hr1]; split <;> simp_all))
                rw [decide_eq_true hr1] at hr0
                clear hcc hrr hc1 hr1 HFAIL HCC1 HRC1
                go_wp2
                refine bodyPost_ret (v := .tuple #[.string noB, .string noB, .slice none 0 0, .int .i64 160]) (by simp [results, Tryd.results8, go_sem]) rfl ?_
                have hr := HBAD.out
                cases hr
                exact ⟨none, 0, [], rfl, SmsOwn.nil _ _, HGall.out⟩
              · rw [decide_eq_false hr1] at hr0
                have HNE : Hid (C1 ≠ noB ∧ R1 ≠ noB) := ⟨hc1, hr1⟩
                clear hc1 hr1
                by_cases h0 : j = 0
                · have q0 : decide ((0 : Int) < (j : Int)) = false := by simp; omega
                  have q0' : decide (0 < j) = false := by simp; omega
                  have HCN : Hid (C1 = comR clB (Q.take (j + 1))) := by show _ = _; rw [HCC1.out, if_pos h0]
                  have HRN : Hid (R1 = comR rpB (Q.take (j + 1))) := by show _ = _; rw [HRC1.out, if_pos h0]
                  clear hcc hrr h0 HFAIL HCC1 HRC1
                  go_upto_region 18 with fail
                  have HGX : Hid (wr.grownBy X none) := HGX0.out
                  obtain ⟨x0, x1, x2⟩ := cell3 HXB.out
                  have HSO : Hid (SRd labE (X.alloc (.cells #[] 63)) la ls) := HSR.out.grown (HGX.out.trans (World.grownBy_alloc X _ none)) (by simp)
                  have HXA : Hid ((X.alloc (.cells #[] 63)).cell? ⟨wr.heap.size, 0, none⟩ = some (.slice la n1 lc)) := (World.grownBy_alloc X _ none).cell x0 (by simp)
                  have x0' := HXA.out
                  have HSZ : Hid (X.heap.size ≤ (X.alloc (.cells #[] 63)).heap.size) := (World.grownBy_alloc X _ none).size
                  have HAP : Hid (∀ v7 w7, SOwn labE 63 w7 X.heap.size v7 (0 + n1) ([] ++ ls) → (X.alloc (.cells #[] 63)).grownBy w7 (Value.slice (some ⟨X.heap.size, 0, none⟩) 0 0).ownBlock → ∃ a7 c7, v7 = .slice a7 n1 c7 ∧ Hid (SOwn labE 63 w7 X.heap.size (.slice a7 n1 c7) n1 ls ∧ X.grownBy w7 none ∧ w7.heap[wr.heap.size]? = some (.cells #[.slice la n1 lc, .int .i64 T, .int .u64 V] 47 (0, 0)))) := by
                    intro v7 w7 ho7 hg7
                    rw [List.nil_append, Nat.zero_add] at ho7
                    obtain ⟨a7, c7, rfl⟩ := sown_slice ho7
                    have hg : X.grownBy w7 none := gb_trans (World.grownBy_alloc X _ none) hg7 (fun i hi => .inl (by simp [Value.ownBlock] at hi; omega))
                    exact ⟨a7, c7, rfl, ho7, hg, (hg.block wr.heap.size HXlt.out (by simp)).trans HXB.out⟩
                  go_upto_region 19 with (at_builtin; refine wpList_append_s labT rfl (.tmp 70) (.tmp 72) rfl X.heap.size (.slice (some ⟨X.heap.size, 0, none⟩) 0 0) 0 [] rfl (SOwn.empty labE 63 X) la ls n1 lc rfl HLE.out HSO.out HNL.out (by omega) (by unfold maxLen; omega) HSZ.out ?_; intro v7 w7 ho7 hg7 _; obtain ⟨a7, c7, rfl, H7⟩ := HAP.out v7 w7 ho7 hg7; clear ho7 hg7; obtain ⟨y0, y1, y2⟩ := cell3 H7.out.2.2; have f0 := free_row H7.out.2.2 0)
                  obtain ⟨W8, hW8⟩ : ∃ W8, w7.setCell ⟨wr.heap.size, 0, none⟩ (.slice a7 n1 c7) = W8 := ⟨_, rfl⟩
                  have HX8 : Hid (W8.heap[wr.heap.size]? = some (.cells #[.slice a7 n1 c7, .int .i64 T, .int .u64 V] 47 (0, 0))) := by rw [← hW8]; exact set1 H7.out.2.2 _
                  have HO8 : Hid (SOwn labE 63 W8 X.heap.size (.slice a7 n1 c7) n1 ls) := by rw [← hW8]; exact sown_past H7.out.1 HXlt.out _
                  have HG8 : Hid (wr.grownBy W8 none) := by
                    rw [← hW8]
                    exact gb_trans (row' := some wr.heap.size) (HGX.out.trans H7.out.2.1) (gb_set rfl) (fun k hk => .inl (by cases hk; exact Nat.le_refl _))
                  rw [hW8]
                  clear hW8 y0 y1 y2 f0 x0 x1 x2 x0' HXA HAP HSO HSZ
                  obtain ⟨z0, z1, z2⟩ := cell3 HX8.out
                  have HS : Hid (Calls Tryd.prog 26 #[.slice a7 n1 c7, .slice (some ⟨W8.heap.size, 0, none⟩) 1 1, .bool false] (W8.alloc (.cells #[.string rpB] 9)) fun e w' => ∃ v n, e = .returned v ∧ SOwn labE 63 w' W8.heap.size v n Rs ∧ W8.grownBy w' none) := by
                    have ga := World.grownBy_alloc W8 (.cells #[.string rpB] 9) none
                    have h := r_some a7 (some ⟨W8.heap.size, 0, none⟩) ls [rpB] n1 1 c7 1 false (W8.alloc (.cells #[.string rpB] 9)) ((SOwn.rd HO8.out).grown ga (by simp)) (tlit W8 [rpB]) HLE.out rfl (by omega) (by omega)
                    rw [HRS.out] at h
                    exact h.mono fun e w' ⟨v, n, h1, h2, h3⟩ => ⟨v, n, h1, SOwn.base h2 ga.size, ga.trans h3⟩
                  have HX8lt : Hid (wr.heap.size < W8.heap.size) := (Array.getElem?_eq_some_iff.1 HX8.out).1
                  go_wp2_with fail
                  refine HS.out.mono ?_
                  rintro e w9 ⟨v9, n9, rfl, ho9, hg9⟩
                  obtain ⟨a9, c9, rfl⟩ := sown_slice ho9
                  have HO9 : Hid (SOwn labE 63 w9 W8.heap.size (.slice a9 n9 c9) n9 Rs) := ho9
                  have HG9 : Hid (W8.grownBy w9 none) := hg9
                  have HX9 : Hid (w9.heap[wr.heap.size]? = some (.cells #[.slice a7 n1 c7, .int .i64 T, .int .u64 V] 47 (0, 0))) := (hg9.block wr.heap.size HX8lt.out (by simp)).trans HX8.out
                  clear ho9 hg9 z0 z1 z2
                  obtain ⟨y0, y1, y2⟩ := cell3 HX9.out
                  have f0 := free_row HX9.out 0
                  obtain ⟨W10, hW10⟩ : ∃ W10, w9.setCell ⟨wr.heap.size, 0, none⟩ (.slice a9 n9 c9) = W10 := ⟨_, rfl⟩
                  have HX10 : Hid (W10.heap[wr.heap.size]? = some (.cells #[.slice a9 n9 c9, .int .i64 T, .int .u64 V] 47 (0, 0))) := by rw [← hW10]; exact set1 HX9.out _
                  have HO10 : Hid (SOwn labE 63 W10 W8.heap.size (.slice a9 n9 c9) n9 Rs) := by rw [← hW10]; exact sown_past HO9.out HX8lt.out _
                  have HGF : Hid (wr.grownBy W10 none) := by
                    rw [← hW10]
                    exact gb_trans (row' := some wr.heap.size) (HG8.out.trans HG9.out) (gb_set rfl) (fun k hk => .inl (by cases hk; exact Nat.le_refl _))
                  go_upto_region 21 with fail
                  (try rw [hW10])
                  clear hW10 y0 y1 y2 f0
                  obtain ⟨z0, z1, z2⟩ := cell3 HX10.out
                  have HOF : Hid (SOwn labE 63 W10 w.heap.size (.slice a9 n9 c9) n9 Rs) := SOwn.base HO10.out (Nat.le_trans HG.out.size HG8.out.size)
                  have HNX := next_own HO.out HG.out HGF.out HZL.out HTK.out HRL.out HOF.out
                  have HN1 : Hid _ := HNX.1
                  have HN2 : Hid _ := HNX.2.1
                  have HN3 : Hid _ := HNX.2.2.1
                  have HN4 : Hid _ := HNX.2.2.2
                  clear HNX
                  go_wp2_with (at_builtin; refine wpList_append_s smpT rfl (.tmp 81) (.tmp 83) rfl w.heap.size (.slice Va j Vc) j raw' rfl HN1.out (some ⟨W10.heap.size, 0, none⟩) [((a9, n9, c9), T, V)] 1 1 rfl rfl HN2.out (by simp) (by omega) (by unfold maxLen; omega) HN3.out ?_; intro v11 w11 ho11 hg11 _; obtain ⟨a11, c11, rfl, HR11⟩ := HN4.out v11 w11 ho11 hg11; clear ho11 hg11)
                  go_roundw
                  case rel => exact ⟨j + 1, a11, c11, _, C1, R1, by omega, rfl, by go_num, rfl, rfl, HR11.out.1, HR11.out.2, HCN.out, HRN.out, fun _ => HNE.out⟩
                  case measure => simp [intOf]; omega
                · have q0 : decide ((0 : Int) < (j : Int)) = true := by simp; omega
                  have q0' : decide (0 < j) = true := by simp; omega
                  by_cases hc : C1 = Cc
                  · rw [decide_eq_true hc] at hcc
                    have hcc' : (C1.toList != Cc.toList) = false := by simp [bne, hcc]
                    by_cases hr : R1 = Rc
                    · rw [decide_eq_true hr] at hrr
                      have hrr' : (R1.toList != Rc.toList) = false := by simp [bne, hrr]
                      have HCN : Hid (C1 = comR clB (Q.take (j + 1))) := by show _ = _; rw [HCC1.out, if_neg h0, if_pos hc]; exact hc
                      have HRN : Hid (R1 = comR rpB (Q.take (j + 1))) := by show _ = _; rw [HRC1.out, if_neg h0, if_pos hr]; exact hr
                      clear h0 hc hr HFAIL HCC1 HRC1
                      go_upto_region 18 with fail
                      have HGX : Hid (wr.grownBy X none) := HGX0.out
                      obtain ⟨x0, x1, x2⟩ := cell3 HXB.out
                      have HSO : Hid (SRd labE (X.alloc (.cells #[] 63)) la ls) := HSR.out.grown (HGX.out.trans (World.grownBy_alloc X _ none)) (by simp)
                      have HXA : Hid ((X.alloc (.cells #[] 63)).cell? ⟨wr.heap.size, 0, none⟩ = some (.slice la n1 lc)) := (World.grownBy_alloc X _ none).cell x0 (by simp)
                      have x0' := HXA.out
                      have HSZ : Hid (X.heap.size ≤ (X.alloc (.cells #[] 63)).heap.size) := (World.grownBy_alloc X _ none).size
                      have HAP : Hid (∀ v7 w7, SOwn labE 63 w7 X.heap.size v7 (0 + n1) ([] ++ ls) → (X.alloc (.cells #[] 63)).grownBy w7 (Value.slice (some ⟨X.heap.size, 0, none⟩) 0 0).ownBlock → ∃ a7 c7, v7 = .slice a7 n1 c7 ∧ Hid (SOwn labE 63 w7 X.heap.size (.slice a7 n1 c7) n1 ls ∧ X.grownBy w7 none ∧ w7.heap[wr.heap.size]? = some (.cells #[.slice la n1 lc, .int .i64 T, .int .u64 V] 47 (0, 0)))) := by
                        intro v7 w7 ho7 hg7
                        rw [List.nil_append, Nat.zero_add] at ho7
                        obtain ⟨a7, c7, rfl⟩ := sown_slice ho7
                        have hg : X.grownBy w7 none := gb_trans (World.grownBy_alloc X _ none) hg7 (fun i hi => .inl (by simp [Value.ownBlock] at hi; omega))
                        exact ⟨a7, c7, rfl, ho7, hg, (hg.block wr.heap.size HXlt.out (by simp)).trans HXB.out⟩
                      go_upto_region 19 with (at_builtin; refine wpList_append_s labT rfl (.tmp 70) (.tmp 72) rfl X.heap.size (.slice (some ⟨X.heap.size, 0, none⟩) 0 0) 0 [] rfl (SOwn.empty labE 63 X) la ls n1 lc rfl HLE.out HSO.out HNL.out (by omega) (by unfold maxLen; omega) HSZ.out ?_; intro v7 w7 ho7 hg7 _; obtain ⟨a7, c7, rfl, H7⟩ := HAP.out v7 w7 ho7 hg7; clear ho7 hg7; obtain ⟨y0, y1, y2⟩ := cell3 H7.out.2.2; have f0 := free_row H7.out.2.2 0)
                      obtain ⟨W8, hW8⟩ : ∃ W8, w7.setCell ⟨wr.heap.size, 0, none⟩ (.slice a7 n1 c7) = W8 := ⟨_, rfl⟩
                      have HX8 : Hid (W8.heap[wr.heap.size]? = some (.cells #[.slice a7 n1 c7, .int .i64 T, .int .u64 V] 47 (0, 0))) := by rw [← hW8]; exact set1 H7.out.2.2 _
                      have HO8 : Hid (SOwn labE 63 W8 X.heap.size (.slice a7 n1 c7) n1 ls) := by rw [← hW8]; exact sown_past H7.out.1 HXlt.out _
                      have HG8 : Hid (wr.grownBy W8 none) := by
                        rw [← hW8]
                        exact gb_trans (row' := some wr.heap.size) (HGX.out.trans H7.out.2.1) (gb_set rfl) (fun k hk => .inl (by cases hk; exact Nat.le_refl _))
                      rw [hW8]
                      clear hW8 y0 y1 y2 f0 x0 x1 x2 x0' HXA HAP HSO HSZ
                      obtain ⟨z0, z1, z2⟩ := cell3 HX8.out
                      have HS : Hid (Calls Tryd.prog 26 #[.slice a7 n1 c7, .slice (some ⟨W8.heap.size, 0, none⟩) 1 1, .bool false] (W8.alloc (.cells #[.string rpB] 9)) fun e w' => ∃ v n, e = .returned v ∧ SOwn labE 63 w' W8.heap.size v n Rs ∧ W8.grownBy w' none) := by
                        have ga := World.grownBy_alloc W8 (.cells #[.string rpB] 9) none
                        have h := r_some a7 (some ⟨W8.heap.size, 0, none⟩) ls [rpB] n1 1 c7 1 false (W8.alloc (.cells #[.string rpB] 9)) ((SOwn.rd HO8.out).grown ga (by simp)) (tlit W8 [rpB]) HLE.out rfl (by omega) (by omega)
                        rw [HRS.out] at h
                        exact h.mono fun e w' ⟨v, n, h1, h2, h3⟩ => ⟨v, n, h1, SOwn.base h2 ga.size, ga.trans h3⟩
                      have HX8lt : Hid (wr.heap.size < W8.heap.size) := (Array.getElem?_eq_some_iff.1 HX8.out).1
                      go_wp2_with fail
                      refine HS.out.mono ?_
                      rintro e w9 ⟨v9, n9, rfl, ho9, hg9⟩
                      obtain ⟨a9, c9, rfl⟩ := sown_slice ho9
                      have HO9 : Hid (SOwn labE 63 w9 W8.heap.size (.slice a9 n9 c9) n9 Rs) := ho9
                      have HG9 : Hid (W8.grownBy w9 none) := hg9
                      have HX9 : Hid (w9.heap[wr.heap.size]? = some (.cells #[.slice a7 n1 c7, .int .i64 T, .int .u64 V] 47 (0, 0))) := (hg9.block wr.heap.size HX8lt.out (by simp)).trans HX8.out
                      clear ho9 hg9 z0 z1 z2
                      obtain ⟨y0, y1, y2⟩ := cell3 HX9.out
                      have f0 := free_row HX9.out 0
                      obtain ⟨W10, hW10⟩ : ∃ W10, w9.setCell ⟨wr.heap.size, 0, none⟩ (.slice a9 n9 c9) = W10 := ⟨_, rfl⟩
                      have HX10 : Hid (W10.heap[wr.heap.size]? = some (.cells #[.slice a9 n9 c9, .int .i64 T, .int .u64 V] 47 (0, 0))) := by rw [← hW10]; exact set1 HX9.out _
                      have HO10 : Hid (SOwn labE 63 W10 W8.heap.size (.slice a9 n9 c9) n9 Rs) := by rw [← hW10]; exact sown_past HO9.out HX8lt.out _
                      have HGF : Hid (wr.grownBy W10 none) := by
                        rw [← hW10]
                        exact gb_trans (row' := some wr.heap.size) (HG8.out.trans HG9.out) (gb_set rfl) (fun k hk => .inl (by cases hk; exact Nat.le_refl _))
                      go_upto_region 21 with fail
                      (try rw [hW10])
                      clear hW10 y0 y1 y2 f0
                      obtain ⟨z0, z1, z2⟩ := cell3 HX10.out
                      have HOF : Hid (SOwn labE 63 W10 w.heap.size (.slice a9 n9 c9) n9 Rs) := SOwn.base HO10.out (Nat.le_trans HG.out.size HG8.out.size)
                      have HNX := next_own HO.out HG.out HGF.out HZL.out HTK.out HRL.out HOF.out
                      have HN1 : Hid _ := HNX.1
                      have HN2 : Hid _ := HNX.2.1
                      have HN3 : Hid _ := HNX.2.2.1
                      have HN4 : Hid _ := HNX.2.2.2
                      clear HNX
                      go_wp2_with (at_builtin; refine wpList_append_s smpT rfl (.tmp 81) (.tmp 83) rfl w.heap.size (.slice Va j Vc) j raw' rfl HN1.out (some ⟨W10.heap.size, 0, none⟩) [((a9, n9, c9), T, V)] 1 1 rfl rfl HN2.out (by simp) (by omega) (by unfold maxLen; omega) HN3.out ?_; intro v11 w11 ho11 hg11 _; obtain ⟨a11, c11, rfl, HR11⟩ := HN4.out v11 w11 ho11 hg11; clear ho11 hg11)
                      go_roundw
                      case rel => exact ⟨j + 1, a11, c11, _, C1, R1, by omega, rfl, by go_num, rfl, rfl, HR11.out.1, HR11.out.2, HCN.out, HRN.out, fun _ => HNE.out⟩
                      case measure => simp [intOf]; omega
                    · rw [decide_eq_false hr] at hrr
                      have hrr' : (R1.toList != Rc.toList) = true := by simp [bne, hrr]
                      have HBAD : Hid ((noB, noB, ([] : List Smp), (160 : Int)) = (C, R, Z, E)) := HFAIL.out (.inr (by rw [HRC1.out, if_neg h0, if_neg hr]))
                      clear h0 hc hr HFAIL HCC1 HRC1
                      go_wp2
                      refine bodyPost_ret (v := .tuple #[.string noB, .string noB, .slice none 0 0, .int .i64 160]) (by simp [results, Tryd.results8, go_sem]) rfl ?_
                      have hr := HBAD.out
                      cases hr
                      exact ⟨none, 0, [], rfl, SmsOwn.nil _ _, HGall.out⟩
                  · rw [decide_eq_false hc] at hcc
                    have hcc' : (C1.toList != Cc.toList) = true := by simp [bne, hcc]
                    have HBAD : Hid ((noB, noB, ([] : List Smp), (160 : Int)) = (C, R, Z, E)) := HFAIL.out (.inl (by rw [HCC1.out, if_neg h0, if_neg hc]))
                    clear hrr h0 hc HFAIL HCC1 HRC1
                    go_wp2
                    refine bodyPost_ret (v := .tuple #[.string noB, .string noB, .slice none 0 0, .int .i64 160]) (by simp [results, Tryd.results8, go_sem]) rfl ?_
                    have hr := HBAD.out
                    cases hr
                    exact ⟨none, 0, [], rfl, SmsOwn.nil _ _, HGall.out⟩
          · obtain rfl : j = k := by omega
            have HLT : Hid (Q.take j = Q) := List.take_of_length_le (by have := HL.out; omega)
            have HNN := HNE0.out HNZ.out
            have HZZ : Hid ((Cc, Rc, Zf, (0 : Int)) = (C, R, Z, E)) := by
              show _ = _
              have h := HSP.out
              have hc := HCC.out
              have hr := HRC.out
              rw [HLT.out] at hc hr
              rw [← hc, ← hr, if_neg (by rintro (h | h); exact HNN.1 h; exact HNN.2 h)] at h
              exact h
            clear HNN
            go_wp2
            refine bodyPost_ret (v := .tuple #[.string Cc, .string Rc, .slice Va j Vc, .int .i64 0]) (by simp [results, Tryd.results8, go_sem]) rfl ?_
            have ho := HO.out
            have hzl : Zf.length = j := by rw [← HZF.out, List.length_map]; exact HL.out
            rw [List.take_of_length_le (by omega)] at ho
            have hr := HZZ.out
            cases hr
            subst hzl
            exact ⟨Va, Vc, raw', rfl, ho, HG.out⟩
end Go.Proofs.YtecnocdffhmkaaaDoor
