/- Samples held against one another. -/
import Derived.Test.YthkalbiglfgleaaLg
import Derived.BigQuiet
namespace Go.Proofs.Ythkalbiglfgleaa
open Go.RowKit
set_option linter.unusedVariables false
set_option maxRecDepth 20000

theorem lsameQ (a b : Option Addr) (xs ys : List Lab) (L M c d : Nat) (w : World) (hx : SRd labE w a xs) (hy : SRd labE w b ys) (hL : xs.length = L) (hM : ys.length = M) (hz : L ≤ 4398046511104) :
    Calls Try.prog 20 #[.slice a L c, .slice b M d] w fun e w' => e = .returned (.bool (decide (xs = ys))) ∧ ∃ n, w' = w.drewN n := by
  subst hL
  subst hM
  by_cases hl : xs.length = ys.length
  · rw [← hl]
    exact lsame_loop a b xs ys c d w hx hy hl.symm hz
  · have e : decide (xs = ys) = false := by
      simp only [decide_eq_false_iff_not]
      intro h
      exact hl (by rw [h])
    rw [e]
    refine (lsame_len a b _ _ c d w hl).mono ?_
    rintro e w' ⟨rfl, rfl⟩
    exact ⟨rfl, 0, rfl⟩
theorem ssame_len (a b : Option Addr) (L M c d : Nat) (w : World) (hne : ¬ L = M) :
    Calls Try.prog 9 #[.slice a L c, .slice b M d] w fun e w' => e = .returned (.bool false) ∧ w.grownBy w' none := by
  have h : ((L : Int) != (M : Int)) = true := by simp; omega
  go_enter Try.func9, Try.ntmps9
  go_wp2
  go_ret
  exact ⟨rfl, World.grownBy.refl _ _⟩
set_option maxHeartbeats 4000000 in
theorem ssame_loop (a b : Option Addr) (ra rb : List (Sv × Int × Int)) (xs ys : List Smp) (c d : Nat) (W : World) (hx : SmpRd W a ra xs) (hy : SmpRd W b rb ys) (hl : ys.length = xs.length) (hz : xs.length ≤ 3518437208882) :
    Calls Try.prog 9 #[.slice a xs.length c, .slice b xs.length d] W fun e w' => e = .returned (.bool (decide (xs = ys))) ∧ W.grownBy w' none := by
  have HX : Hid (SmpRd W a ra xs) := hx
  have HY : Hid (SmpRd W b rb ys) := hy
  have HE : Hid (∀ k, k < xs.length → xs[k]? ≠ ys[k]? → decide (xs = ys) = false) := by
    intro k hk hne
    simp only [decide_eq_false_iff_not]
    intro h
    rw [h] at hne
    exact hne rfl
  have HF : Hid ((∀ j, j < xs.length → xs[j]? = ys[j]?) → decide (xs = ys) = true) := fun h => by
    simp only [decide_eq_true_eq]
    apply List.ext_getElem?
    intro j
    by_cases hj : j < xs.length
    · exact h j hj
    · rw [List.getElem?_eq_none (by omega), List.getElem?_eq_none (by omega)]
  have HM : Hid (ys.length = xs.length) := hl
  obtain ⟨L, hL⟩ : ∃ L, L = xs.length := ⟨_, rfl⟩
  have H5 : Hid (L = xs.length) := hL
  obtain ⟨res, hres⟩ : ∃ r, r = decide (xs = ys) := ⟨_, rfl⟩
  have HRes : Hid (res = decide (xs = ys)) := hres
  rw [← hL] at hz ⊢
  rw [← hres]
  clear hx hy hl hL hres
  have h1 : ((L : Int) != (L : Int)) = false := by simp
  have HG0 : Hid (W.grownBy W none) := World.grownBy.refl _ _
  go_enter Try.func9, Try.ntmps9
  go_wp2
  go_loopw [5] (fun i wr => ∃ k : Nat, k ≤ L ∧ i = .int .i64 k ∧ W.grownBy wr none ∧ ∀ j, j < k → xs[j]? = ys[j]?) (fun i _ => L - (intOf i).toNat)
  case atStart => exact ⟨0, Nat.zero_le _, rfl, HG0.out, fun j h => by omega⟩
  case round =>
    obtain ⟨k, hk, rfl, hgr, hall⟩ := hrel
    have HA : Hid (∀ j, j < k → xs[j]? = ys[j]?) := hall
    have HGR : Hid (W.grownBy wr none) := hgr
    clear hall hgr
    by_cases hlt : k < L
    · have h5 := H5.out
      have h6 := HM.out
      obtain ⟨⟨t1, i1, s1⟩, ex⟩ : ∃ x, xs[k]? = some x := ⟨_, List.getElem?_eq_getElem (by omega)⟩
      obtain ⟨⟨t2, i2, s2⟩, ey⟩ : ∃ y, ys[k]? = some y := ⟨_, List.getElem?_eq_getElem (by omega)⟩
      obtain ⟨ba, offa, ta, tc, rfl, a0, a1, a2, rt, _, z1⟩ := smp_cells (HX.out.grown HGR.out) ex
      obtain ⟨bb, offb, tb, td, rfl, b0, b1, b2, st, _, z2⟩ := smp_cells (HY.out.grown HGR.out) ey
      have HC1 : Hid (∀ n, Calls Try.prog 20 #[.slice ta t1.length tc, .slice tb t2.length td] (wr.drewN n) fun e w' => e = .returned (.bool (decide (t1 = t2))) ∧ ∃ m, w' = (wr.drewN n).drewN m) := fun n => lsameQ ta tb t1 t2 _ _ tc td _ (rt.grown (gb_drewN wr n) (by simp)) (st.grown (gb_drewN wr n) (by simp)) rfl rfl (Nat.le_trans z1 (by decide))
      have hi : (k : Int) < (L : Int) := by omega
      have HEQ : Hid (decide (t1 = t2) = true → (i1 != i2) = false → (s1 != s2) = false → xs[k]? = ys[k]?) := fun e3 e1 e2 => by
        have e1 : i1 = i2 := by simpa using e1
        have e2 : s1 = s2 := by simpa using e2
        rw [ex, ey, e1, e2, of_decide_eq_true e3]
      have HNE : Hid (decide (t1 = t2) = false ∨ (i1 != i2) = true ∨ (s1 != s2) = true → decide (xs = ys) = false) := fun e1 => by
        refine HE.out k (by omega) ?_
        rw [ex, ey]
        intro e
        simp only [Option.some.injEq, Prod.mk.injEq] at e
        rcases e1 with e1 | e1 | e1
        · exact of_decide_eq_false e1 e.1
        · simp [e.2.1] at e1
        · simp [e.2.2] at e1
      generalize decide (t1 = t2) = q3 at HC1 HEQ HNE
      generalize t1.length = n1 at HC1 a0
      generalize t2.length = n2 at HC1 b0
      clear ex ey h5 h6 rt st z1 z2
      cases q3 with
      | false =>
        have HNE' : Hid (decide (xs = ys) = false) := HNE.out (.inl rfl)
        clear HNE HEQ
        go_wp2_with fail
        go_quiet (exact Calls.quiet_of (HC1.out _))
        go_wp2
        go_ret
        exact ⟨ret_bool (by rw [HRes.out, HNE'.out]), HGR.out.trans (gb_drewN wr _)⟩
      | true =>
        cases q1 : (i1 != i2) with
        | true =>
          have HNE' : Hid (decide (xs = ys) = false) := HNE.out (.inr (.inl q1))
          clear HNE HEQ
          go_wp2_with fail
          go_quiet (exact Calls.quiet_of (HC1.out _))
          go_wp2
          go_ret
          exact ⟨ret_bool (by rw [HRes.out, HNE'.out]), HGR.out.trans (gb_drewN wr _)⟩
        | false =>
          cases q2 : (s1 != s2) with
          | true =>
            have HNE' : Hid (decide (xs = ys) = false) := HNE.out (.inr (.inr q2))
            clear HNE HEQ
            go_wp2_with fail
            go_quiet (exact Calls.quiet_of (HC1.out _))
            go_wp2
            go_ret
            exact ⟨ret_bool (by rw [HRes.out, HNE'.out]), HGR.out.trans (gb_drewN wr _)⟩
          | false =>
            have HEQ' : Hid (xs[k]? = ys[k]?) := HEQ.out rfl q1 q2
            clear HNE HEQ
            go_wp2_with fail
            go_quiet (exact Calls.quiet_of (HC1.out _))
            go_wp2
            go_roundw
            case rel =>
              refine ⟨k + 1, by omega, by go_num, HGR.out.trans (gb_drewN wr _), fun j hj => ?_⟩
              by_cases hjk : j < k
              · exact HA.out j hjk
              · have : j = k := by omega
                subst this
                exact HEQ'.out
            case measure => simp [intOf]; omega
    · go_wp2
      go_ret
      refine ⟨ret_bool ?_, HGR.out⟩
      rw [HRes.out]
      exact (HF.out fun j hj => HA.out j (by have := H5.out; omega)).symm
theorem ssame (a b : Option Addr) (ra rb : List (Sv × Int × Int)) (xs ys : List Smp) (L M c d : Nat) (w : World) (hx : SmpRd w a ra xs) (hy : SmpRd w b rb ys) (hL : xs.length = L) (hM : ys.length = M) (hz : L ≤ 3518437208882) :
    Calls Try.prog 9 #[.slice a L c, .slice b M d] w fun e w' => e = .returned (.bool (decide (xs = ys))) ∧ w.grownBy w' none := by
  subst hL hM
  by_cases hl : xs.length = ys.length
  · rw [← hl]
    exact ssame_loop a b ra rb xs ys c d w hx hy hl.symm hz
  · have e : decide (xs = ys) = false := by
      simp only [decide_eq_false_iff_not]
      intro h
      exact hl (by rw [h])
    rw [e]
    exact ssame_len a b _ _ c d w hl
end Go.Proofs.Ythkalbiglfgleaa
