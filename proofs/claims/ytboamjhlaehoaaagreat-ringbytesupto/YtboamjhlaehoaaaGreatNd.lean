/- Several texts in one: Ua. -/
import Derived.Test.YtboamjhlaehoaaaGreatMt
/- Rings: the document's Check. -/
namespace Go.Proofs.YtboamjhlaehoaaaGreat
open Go.RowKit
set_option linter.unusedVariables false
set_option maxRecDepth 20000

theorem memOk_iff (i s : Int) (ts : List Int) : memOk (i, s, ts) = true ↔ (0 ≤ i ∧ i < 16) ∧ (1 ≤ s ∧ s ≤ 3) ∧ (1 ≤ ts.length ∧ ts.length ≤ 64) ∧ riseW ts = true := by
  unfold memOk idOk stOk
  simp only [Bool.and_eq_true, Bool.or_eq_true, decide_eq_true_eq]
  constructor
  · rintro ⟨⟨⟨⟨h1, h2⟩, h3⟩, h4⟩, h5⟩
    exact ⟨h1, by omega, ⟨h3, h4⟩, h5⟩
  · rintro ⟨h1, h2, h3, h5⟩
    exact ⟨⟨⟨⟨h1, by omega⟩, h3.1⟩, h3.2⟩, h5⟩
set_option maxHeartbeats 16000000 in
theorem r_check (E : Int) (ms : List Mem) (raw : List MRow) (a : Option Addr) (L c : Nat) (w : World) (hx : MsRd w a ms raw) (hL : ms.length = L) (hz : L ≤ 3518437208800) (hz2 : ∀ s ∈ ms, s.2.2.length ≤ 35184372088832) :
    Calls Tryz.prog 16 #[.agg #[.int .u64 E, .slice a L c]] w fun e w' => e = .returned (.int .i64 (chkC ms)) ∧ w.grownBy w' none := by
  have HX : Hid (MsRd w a ms raw) := hx
  have HL : Hid (ms.length = L) := hL
  have HZ : Hid (∀ s ∈ ms, s.2.2.length ≤ 35184372088832) := hz2
  have HR : Hid (ringOk ms = true ↔ (∀ (i : Nat) (m : Mem), ms[i]? = some m → memOk m = true) ∧ ∀ (i : Nat) (p q : Mem), ms[i]? = some p → ms[i + 1]? = some q → p.1 < q.1) := ringOk_iff ms
  have HQ : Hid (chkC ms = if ringOk ms = true then 0 else 130) := rfl
  generalize chkC ms = Q at HQ ⊢
  generalize ringOk ms = R at HR HQ
  have HG : Hid (w.grownBy (w.alloc (.cells #[.int .u64 E, .slice a L c] 25)) none) := World.grownBy_alloc w _ none
  have K1 : Hid ((w.alloc (.cells #[.int .u64 E, .slice a L c] 25)).cell? ⟨w.heap.size, 1, none⟩ = some (.slice a L c)) := (boxed_cells w E (.slice a L c)).2
  obtain ⟨B, eB⟩ : ∃ B, w.heap.size = B := ⟨_, rfl⟩
  rw [eB] at K1
  have EB : Hid (w.heap.size = B) := eB
  clear hx hL hz2 eB
  go_enter Tryz.func16, Tryz.ntmps16
  go_wp2
  try rw [EB.out]
  generalize w.alloc (.cells #[.int .u64 E, .slice a L c] 25) = W at HG K1 ⊢
  go_loopw [3] (fun t3 wr => ∃ (k : Nat), k ≤ L ∧ t3 = .int .i64 k ∧ (∀ (j : Nat) (m : Mem), j < k → ms[j]? = some m → memOk m = true) ∧ (∀ (j : Nat) (p q : Mem), j + 1 < k → ms[j]? = some p → ms[j + 1]? = some q → p.1 < q.1) ∧ W.grownBy wr none) (fun t3 _ => L - (intOf t3).toNat)
  case atStart => exact ⟨0, Nat.zero_le _, rfl, fun j m h => by omega, fun j p q h => by omega, World.grownBy.refl _ _⟩
  case round =>
    obtain ⟨k, hk, rfl, hall, hrise, hw⟩ := hrel
    have HA : Hid (∀ (j : Nat) (m : Mem), j < k → ms[j]? = some m → memOk m = true) := hall
    have HB : Hid (∀ (j : Nat) (p q : Mem), j + 1 < k → ms[j]? = some p → ms[j + 1]? = some q → p.1 < q.1) := hrise
    have HW : Hid (W.grownBy wr none) := hw
    clear hall hw hrise
    have kb := HW.out.cell K1.out (by simp)
    by_cases hlt : k < L
    · have hki : (k : Int) < (L : Int) := by omega
      have hl := HL.out
      have hX := HX.out.grown (HG.out.trans HW.out)
      obtain ⟨⟨i1, s1, t1⟩, ex⟩ : ∃ x, ms[k]? = some x := ⟨_, List.getElem?_eq_getElem (by omega)⟩
      obtain ⟨ba, off, ta, tc, rfl, a0, a1, a2, rt, _⟩ := hX.cells ex
      have z1 := HZ.out _ (List.mem_of_getElem? ex)
      simp only at a0 a1 a2 rt z1
      have EX : Hid (ms[k]? = some (i1, s1, t1)) := ex
      have HBADM : Hid (memOk (i1, s1, t1) ≠ true → (130 : Int) = Q) := fun e => by
        rw [HQ.out]
        cases R with
        | false => rfl
        | true => exact absurd ((HR.out.1 rfl).1 k _ ex) e
      have HIFF : Hid (memOk (i1, s1, t1) = true ↔ (0 ≤ i1 ∧ i1 < 16) ∧ (1 ≤ s1 ∧ s1 ≤ 3) ∧ (1 ≤ t1.length ∧ t1.length ≤ 64) ∧ riseW t1 = true) := memOk_iff i1 s1 t1
      have HRT : Hid (SRd wordE wr ta t1) := rt
      obtain ⟨n1, en1⟩ : ∃ n1, t1.length = n1 := ⟨_, rfl⟩
      have EN : Hid (t1.length = n1) := en1
      rw [en1] at HIFF a2 z1
      obtain ⟨Bm, eBm⟩ : ∃ Bm, wr.heap.size = Bm := ⟨_, rfl⟩
      have EBm : Hid (wr.heap.size = Bm) := eBm
      have gU := World.grownBy_alloc wr (.cells #[.int .i64 i1, .int .i64 s1, .slice ta n1 tc] 61) none
      have hU : (wr.alloc (.cells #[.int .i64 i1, .int .i64 s1, .slice ta n1 tc] 61)).heap[Bm]? = some (.cells #[.int .i64 i1, .int .i64 s1, .slice ta n1 tc] 61 (0, 0)) := by rw [← eBm]; exact heap_alloc_new wr _
      obtain ⟨q0, q1, q2⟩ := cell3 hU
      have kb2 := gU.cell kb (by simp)
      have HGU : Hid (wr.grownBy (wr.alloc (.cells #[.int .i64 i1, .int .i64 s1, .slice ta n1 tc] 61)) none) := gU
      have HPRE : Hid (∀ k', k = k' + 1 → ∃ p1, (∃ s2 t2, ms[k']? = some (p1, s2, t2)) ∧ (wr.alloc (.cells #[.int .i64 i1, .int .i64 s1, .slice ta n1 tc] 61)).cell? ⟨ba, off + k' * 3, none⟩ = some (.int .i64 p1)) := by
        rintro k' rfl
        obtain ⟨⟨p1, s2, t2⟩, ep⟩ : ∃ x, ms[k']? = some x := ⟨_, List.getElem?_eq_getElem (by omega)⟩
        obtain ⟨ba', off', ta', tc', e', c0, _, _, _, _⟩ := hX.cells ep
        cases e'
        exact ⟨p1, ⟨s2, t2, ep⟩, gU.cell c0 (by simp)⟩
      clear ex hX rt en1 eBm gU hU hl
      go_wp2_with fail
      rw [EBm.out]
      generalize wr.alloc (.cells #[.int .i64 i1, .int .i64 s1, .slice ta n1 tc] 61) = U at *
      clear a0 a1 a2 kb
      by_cases hkz : k = 0
      · have hz0 : decide ((0 : Int) < (k : Int)) = false := by simp; omega
        have HK0 : Hid (k = 0) := hkz
        have hz2 : decide (0 < k) = false := by simp; omega
        clear hkz
        by_cases h1 : i1 < 0
        · have hdh1 : decide (i1 < 0) = true := by simp [h1]
          have HN : Hid ((130 : Int) = Q) := HBADM.out (fun e => by have := HIFF.out.1 e; omega)
          clear h1
          go_quiet (fail)
          go_wp2
          go_ret
          exact ⟨by rw [← HN.out]; rfl, ((HG.out.trans HW.out).trans HGU.out).trans (gb_drewN _ _)⟩
        · have hdh1 : decide (i1 < 0) = false := by simp; omega
          by_cases h2 : 16 ≤ i1
          · have hdh2 : decide (16 ≤ i1) = true := by simp [h2]
            have HN : Hid ((130 : Int) = Q) := HBADM.out (fun e => by have := HIFF.out.1 e; omega)
            clear h2
            go_quiet (fail)
            go_wp2
            go_ret
            exact ⟨by rw [← HN.out]; rfl, ((HG.out.trans HW.out).trans HGU.out).trans (gb_drewN _ _)⟩
          · have hdh2 : decide (16 ≤ i1) = false := by simp; omega
            by_cases h4 : s1 < 1
            · have hdh4 : decide (s1 < 1) = true := by simp [h4]
              have HN : Hid ((130 : Int) = Q) := HBADM.out (fun e => by have := HIFF.out.1 e; omega)
              clear h4
              go_quiet (fail)
              go_wp2
              go_ret
              exact ⟨by rw [← HN.out]; rfl, ((HG.out.trans HW.out).trans HGU.out).trans (gb_drewN _ _)⟩
            · have hdh4 : decide (s1 < 1) = false := by simp; omega
              by_cases h5 : 3 < s1
              · have hdh5 : decide (3 < s1) = true := by simp [h5]
                have HN : Hid ((130 : Int) = Q) := HBADM.out (fun e => by have := HIFF.out.1 e; omega)
                clear h5
                go_quiet (fail)
                go_wp2
                go_ret
                exact ⟨by rw [← HN.out]; rfl, ((HG.out.trans HW.out).trans HGU.out).trans (gb_drewN _ _)⟩
              · have hdh5 : decide (3 < s1) = false := by simp; omega
                by_cases h6 : (n1 : Int) < 1
                · have hdh6 : decide ((n1 : Int) < 1) = true := by simp [h6]
                  have HN : Hid ((130 : Int) = Q) := HBADM.out (fun e => by have := HIFF.out.1 e; omega)
                  clear h6
                  go_quiet (fail)
                  go_wp2
                  go_ret
                  exact ⟨by rw [← HN.out]; rfl, ((HG.out.trans HW.out).trans HGU.out).trans (gb_drewN _ _)⟩
                · have hdh6 : decide ((n1 : Int) < 1) = false := by simp; omega
                  by_cases h7 : 64 < (n1 : Int)
                  · have hdh7 : decide (64 < (n1 : Int)) = true := by simp [h7]
                    have HN : Hid ((130 : Int) = Q) := HBADM.out (fun e => by have := HIFF.out.1 e; omega)
                    clear h7
                    go_quiet (fail)
                    go_wp2
                    go_ret
                    exact ⟨by rw [← HN.out]; rfl, ((HG.out.trans HW.out).trans HGU.out).trans (gb_drewN _ _)⟩
                  · have hdh7 : decide (64 < (n1 : Int)) = false := by simp; omega
                    obtain ⟨hok1, hok2, hok3⟩ : (0 ≤ i1 ∧ i1 < 16) ∧ (1 ≤ s1 ∧ s1 ≤ 3) ∧ (1 ≤ n1 ∧ n1 ≤ 64) := by omega
                    have HOK : Hid ((0 ≤ i1 ∧ i1 < 16) ∧ (1 ≤ s1 ∧ s1 ≤ 3) ∧ (1 ≤ n1 ∧ n1 ≤ 64)) := ⟨hok1, hok2, hok3⟩
                    clear hok1 hok2 h1 h2 h4 h5 h6 h7
                    go_quiet (fail)
                    go_wp2
                    have HC0 : Hid (Tryz.prog.info? 61 = Tryz.prog.info? 61) := rfl
                    go_loopw [5] (fun t5 wx => ∃ (j : Nat), j + 1 ≤ n1 ∧ t5 = .int .i64 ((j : Int) + 1) ∧ (∀ (i : Nat) (p q : Int), i < j → t1[i]? = some p → t1[i + 1]? = some q → p < q) ∧ U.grownBy wx none) (fun t5 _ => n1 + 1 - (intOf t5).toNat)
                    case atStart => exact ⟨0, by omega, by simp, fun i p q h => by omega, gb_drewN _ _⟩
                    case round =>
                      obtain ⟨j, hj, rfl, hall, hgx⟩ := hrel
                      have HJ : Hid (∀ (i : Nat) (p q : Int), i < j → t1[i]? = some p → t1[i + 1]? = some q → p < q) := hall
                      have HGX : Hid (U.grownBy wr none) := hgx
                      have y2 := hgx.cell q2 (by simp)
                      clear hall hgx
                      by_cases hjl : j + 1 < n1
                      · have hji : (j : Int) + 1 < (n1 : Int) := by omega
                        have hj0 : (0 : Int) ≤ (j : Int) := by omega
                        have hj1 : (j : Int) < (n1 : Int) := by omega
                        have hjw : IntKind.i64.wrap (j : Int) = (j : Int) := by rw [IntKind.wrap_i64]; omega
                        have hen := EN.out
                        obtain ⟨tb, tof, e2, hca⟩ := (HRT.out.grown (HGU.out.trans HGX.out) (by simp)).at (by omega)
                        subst e2
                        obtain ⟨x0, e0⟩ : ∃ x, t1[j]? = some x := ⟨_, List.getElem?_eq_getElem (by omega)⟩
                        obtain ⟨x1, e1⟩ : ∃ x, t1[j + 1]? = some x := ⟨_, List.getElem?_eq_getElem (by omega)⟩
                        have b0 : wr.cell? ⟨tb, tof + j, none⟩ = some (.int .u32 x0) := by have := hca j _ 0 _ e0 rfl; simpa [wordE] using this
                        have b1 : wr.cell? ⟨tb, tof + (j + 1), none⟩ = some (.int .u32 x1) := by have := hca (j + 1) _ 0 _ e1 rfl; simpa [wordE] using this
                        have E0 : Hid (t1[j]? = some x0) := e0
                        have E1 : Hid (t1[j + 1]? = some x1) := e1
                        have htn : ((j : Int) + 1).toNat = j + 1 := by omega
                        clear hca e0 e1 hen
                        by_cases hle : x1 ≤ x0
                        · have hd : decide (x1 ≤ x0) = true := by simp [hle]
                          have HN : Hid ((130 : Int) = Q) := HBADM.out (fun e => by
                            have h9 := ((riseW_iff t1).1 (HIFF.out.1 e).2.2.2) j x0 x1 E0.out E1.out
                            omega)
                          clear hle
                          go_wp2_with fail
                          go_quiet (fail)
                          go_wp2
                          go_ret
                          exact ⟨by rw [← HN.out]; rfl, ((HG.out.trans HW.out).trans HGU.out).trans (HGX.out.trans (gb_drewN _ _))⟩
                        · have hd : decide (x1 ≤ x0) = false := by simp; omega
                          have HLT : Hid (x0 < x1) := by show _ < _; omega
                          clear hle
                          go_wp2_with fail
                          go_quiet (fail)
                          go_wp2
                          go_roundw
                          case rel =>
                            refine ⟨j + 1, by omega, by go_num, fun i p q hi hp hq => ?_, HGX.out.trans (gb_drewN _ _)⟩
                            by_cases e : i < j
                            · exact HJ.out i p q e hp hq
                            · obtain rfl : i = j := by omega
                              rw [E0.out] at hp
                              rw [E1.out] at hq
                              cases hp; cases hq
                              exact HLT.out
                          case measure => simp [intOf]; omega
                      · obtain rfl : j + 1 = n1 := by omega
                        have HMO : Hid (memOk (i1, s1, t1) = true) := HIFF.out.2 ⟨HOK.out.1, HOK.out.2.1, HOK.out.2.2, (riseW_iff t1).2 (fun i p q hp hq => HJ.out i p q (by have := (List.getElem?_eq_some_iff.1 hq).1; have := EN.out; omega) hp hq)⟩
                        go_wp2
                        go_roundw
                        case rel =>
                          refine ⟨k + 1, by omega, by go_num, fun j2 m hj2 hm => ?_, fun j2 p q hj2 hp hq => ?_, HW.out.trans (HGU.out.trans HGX.out)⟩
                          · by_cases e : j2 < k
                            · exact HA.out j2 m e hm
                            · obtain rfl : j2 = k := by omega
                              rw [EX.out] at hm
                              cases hm
                              exact HMO.out
                          · by_cases e : j2 + 1 < k
                            · exact HB.out j2 p q e hp hq
                            · have := HK0.out; omega
                        case measure => simp [intOf]; omega
      · obtain ⟨k', hkk⟩ : ∃ k', k = k' + 1 := ⟨k - 1, by omega⟩
        obtain ⟨p1, ⟨s2, t2, hp⟩, pc⟩ := HPRE.out k' hkk
        have HP : Hid (ms[k']? = some (p1, s2, t2)) := hp
        have HKK : Hid (k = k' + 1) := hkk
        have hz1 : decide ((0 : Int) < (k : Int)) = true := by simp; omega
        have hz2 : decide (0 < k) = true := by simp; omega
        have hk0 : (0 : Int) ≤ (k' : Int) := by omega
        have hk1 : (k' : Int) < (L : Int) := by omega
        have hkw : IntKind.i64.wrap ((k : Int) - 1) = (k' : Int) := by rw [IntKind.wrap_i64]; omega
        clear hp hkk hkz
        by_cases h1 : i1 < 0
        · have hdh1 : decide (i1 < 0) = true := by simp [h1]
          have HN : Hid ((130 : Int) = Q) := HBADM.out (fun e => by have := HIFF.out.1 e; omega)
          clear h1
          go_quiet (fail)
          go_wp2
          go_ret
          exact ⟨by rw [← HN.out]; rfl, ((HG.out.trans HW.out).trans HGU.out).trans (gb_drewN _ _)⟩
        · have hdh1 : decide (i1 < 0) = false := by simp; omega
          by_cases h2 : 16 ≤ i1
          · have hdh2 : decide (16 ≤ i1) = true := by simp [h2]
            have HN : Hid ((130 : Int) = Q) := HBADM.out (fun e => by have := HIFF.out.1 e; omega)
            clear h2
            go_quiet (fail)
            go_wp2
            go_ret
            exact ⟨by rw [← HN.out]; rfl, ((HG.out.trans HW.out).trans HGU.out).trans (gb_drewN _ _)⟩
          · have hdh2 : decide (16 ≤ i1) = false := by simp; omega
            by_cases h3 : i1 ≤ p1
            · have hdh3 : decide (i1 ≤ p1) = true := by simp [h3]
              have HN : Hid ((130 : Int) = Q) := by
                show _ = _
                rw [HQ.out]
                cases R with
                | false => rfl
                | true => have := (HR.out.1 rfl).2 k' _ _ HP.out (by rw [← HKK.out]; exact EX.out); simp only at this; omega
              clear h3
              go_quiet (fail)
              go_wp2
              go_ret
              exact ⟨by rw [← HN.out]; rfl, ((HG.out.trans HW.out).trans HGU.out).trans (gb_drewN _ _)⟩
            · have hdh3 : decide (i1 ≤ p1) = false := by simp; omega
              have HRI : Hid (p1 < i1) := by show _ < _; omega
              by_cases h4 : s1 < 1
              · have hdh4 : decide (s1 < 1) = true := by simp [h4]
                have HN : Hid ((130 : Int) = Q) := HBADM.out (fun e => by have := HIFF.out.1 e; omega)
                clear h4
                go_quiet (fail)
                go_wp2
                go_ret
                exact ⟨by rw [← HN.out]; rfl, ((HG.out.trans HW.out).trans HGU.out).trans (gb_drewN _ _)⟩
              · have hdh4 : decide (s1 < 1) = false := by simp; omega
                by_cases h5 : 3 < s1
                · have hdh5 : decide (3 < s1) = true := by simp [h5]
                  have HN : Hid ((130 : Int) = Q) := HBADM.out (fun e => by have := HIFF.out.1 e; omega)
                  clear h5
                  go_quiet (fail)
                  go_wp2
                  go_ret
                  exact ⟨by rw [← HN.out]; rfl, ((HG.out.trans HW.out).trans HGU.out).trans (gb_drewN _ _)⟩
                · have hdh5 : decide (3 < s1) = false := by simp; omega
                  by_cases h6 : (n1 : Int) < 1
                  · have hdh6 : decide ((n1 : Int) < 1) = true := by simp [h6]
                    have HN : Hid ((130 : Int) = Q) := HBADM.out (fun e => by have := HIFF.out.1 e; omega)
                    clear h6
                    go_quiet (fail)
                    go_wp2
                    go_ret
                    exact ⟨by rw [← HN.out]; rfl, ((HG.out.trans HW.out).trans HGU.out).trans (gb_drewN _ _)⟩
                  · have hdh6 : decide ((n1 : Int) < 1) = false := by simp; omega
                    by_cases h7 : 64 < (n1 : Int)
                    · have hdh7 : decide (64 < (n1 : Int)) = true := by simp [h7]
                      have HN : Hid ((130 : Int) = Q) := HBADM.out (fun e => by have := HIFF.out.1 e; omega)
                      clear h7
                      go_quiet (fail)
                      go_wp2
                      go_ret
                      exact ⟨by rw [← HN.out]; rfl, ((HG.out.trans HW.out).trans HGU.out).trans (gb_drewN _ _)⟩
                    · have hdh7 : decide (64 < (n1 : Int)) = false := by simp; omega
                      obtain ⟨hok1, hok2, hok3⟩ : (0 ≤ i1 ∧ i1 < 16) ∧ (1 ≤ s1 ∧ s1 ≤ 3) ∧ (1 ≤ n1 ∧ n1 ≤ 64) := by omega
                      have HOK : Hid ((0 ≤ i1 ∧ i1 < 16) ∧ (1 ≤ s1 ∧ s1 ≤ 3) ∧ (1 ≤ n1 ∧ n1 ≤ 64)) := ⟨hok1, hok2, hok3⟩
                      clear hok1 hok2 h1 h2 h4 h5 h6 h7
                      go_quiet (fail)
                      go_wp2
                      have HC0 : Hid (Tryz.prog.info? 61 = Tryz.prog.info? 61) := rfl
                      go_loopw [5] (fun t5 wx => ∃ (j : Nat), j + 1 ≤ n1 ∧ t5 = .int .i64 ((j : Int) + 1) ∧ (∀ (i : Nat) (p q : Int), i < j → t1[i]? = some p → t1[i + 1]? = some q → p < q) ∧ U.grownBy wx none) (fun t5 _ => n1 + 1 - (intOf t5).toNat)
                      case atStart => exact ⟨0, by omega, by simp, fun i p q h => by omega, gb_drewN _ _⟩
                      case round =>
                        obtain ⟨j, hj, rfl, hall, hgx⟩ := hrel
                        have HJ : Hid (∀ (i : Nat) (p q : Int), i < j → t1[i]? = some p → t1[i + 1]? = some q → p < q) := hall
                        have HGX : Hid (U.grownBy wr none) := hgx
                        have y2 := hgx.cell q2 (by simp)
                        clear hall hgx
                        by_cases hjl : j + 1 < n1
                        · have hji : (j : Int) + 1 < (n1 : Int) := by omega
                          have hj0 : (0 : Int) ≤ (j : Int) := by omega
                          have hj1 : (j : Int) < (n1 : Int) := by omega
                          have hjw : IntKind.i64.wrap (j : Int) = (j : Int) := by rw [IntKind.wrap_i64]; omega
                          have hen := EN.out
                          obtain ⟨tb, tof, e2, hca⟩ := (HRT.out.grown (HGU.out.trans HGX.out) (by simp)).at (by omega)
                          subst e2
                          obtain ⟨x0, e0⟩ : ∃ x, t1[j]? = some x := ⟨_, List.getElem?_eq_getElem (by omega)⟩
                          obtain ⟨x1, e1⟩ : ∃ x, t1[j + 1]? = some x := ⟨_, List.getElem?_eq_getElem (by omega)⟩
                          have b0 : wr.cell? ⟨tb, tof + j, none⟩ = some (.int .u32 x0) := by have := hca j _ 0 _ e0 rfl; simpa [wordE] using this
                          have b1 : wr.cell? ⟨tb, tof + (j + 1), none⟩ = some (.int .u32 x1) := by have := hca (j + 1) _ 0 _ e1 rfl; simpa [wordE] using this
                          have E0 : Hid (t1[j]? = some x0) := e0
                          have E1 : Hid (t1[j + 1]? = some x1) := e1
                          have htn : ((j : Int) + 1).toNat = j + 1 := by omega
                          clear hca e0 e1 hen
                          by_cases hle : x1 ≤ x0
                          · have hd : decide (x1 ≤ x0) = true := by simp [hle]
                            have HN : Hid ((130 : Int) = Q) := HBADM.out (fun e => by
                              have h9 := ((riseW_iff t1).1 (HIFF.out.1 e).2.2.2) j x0 x1 E0.out E1.out
                              omega)
                            clear hle
                            go_wp2_with fail
                            go_quiet (fail)
                            go_wp2
                            go_ret
                            exact ⟨by rw [← HN.out]; rfl, ((HG.out.trans HW.out).trans HGU.out).trans (HGX.out.trans (gb_drewN _ _))⟩
                          · have hd : decide (x1 ≤ x0) = false := by simp; omega
                            have HLT : Hid (x0 < x1) := by show _ < _; omega
                            clear hle
                            go_wp2_with fail
                            go_quiet (fail)
                            go_wp2
                            go_roundw
                            case rel =>
                              refine ⟨j + 1, by omega, by go_num, fun i p q hi hp hq => ?_, HGX.out.trans (gb_drewN _ _)⟩
                              by_cases e : i < j
                              · exact HJ.out i p q e hp hq
                              · obtain rfl : i = j := by omega
                                rw [E0.out] at hp
                                rw [E1.out] at hq
                                cases hp; cases hq
                                exact HLT.out
                            case measure => simp [intOf]; omega
                        · obtain rfl : j + 1 = n1 := by omega
                          have HMO : Hid (memOk (i1, s1, t1) = true) := HIFF.out.2 ⟨HOK.out.1, HOK.out.2.1, HOK.out.2.2, (riseW_iff t1).2 (fun i p q hp hq => HJ.out i p q (by have := (List.getElem?_eq_some_iff.1 hq).1; have := EN.out; omega) hp hq)⟩
                          go_wp2
                          go_roundw
                          case rel =>
                            refine ⟨k + 1, by omega, by go_num, fun j2 m hj2 hm => ?_, fun j2 p q hj2 hp hq => ?_, HW.out.trans (HGU.out.trans HGX.out)⟩
                            · by_cases e : j2 < k
                              · exact HA.out j2 m e hm
                              · obtain rfl : j2 = k := by omega
                                rw [EX.out] at hm
                                cases hm
                                exact HMO.out
                            · by_cases e : j2 + 1 < k
                              · exact HB.out j2 p q e hp hq
                              · have hkk := HKK.out
                                obtain rfl : j2 = k' := by omega
                                rw [HP.out] at hp
                                rw [← hkk, EX.out] at hq
                                cases hp; cases hq
                                exact HRI.out
                          case measure => simp [intOf]; omega
    · obtain rfl : k = L := by omega
      have HN : Hid ((0 : Int) = Q) := by
        show _ = _
        rw [HQ.out, HR.out.2 ⟨fun i m hm => HA.out i m (by have := (List.getElem?_eq_some_iff.1 hm).1; have := HL.out; omega) hm, fun i p q hp hq => HB.out i p q (by have := (List.getElem?_eq_some_iff.1 hq).1; have := HL.out; omega) hp hq⟩]
        rfl
      go_wp2
      go_ret
      exact ⟨by rw [← HN.out]; rfl, HG.out.trans HW.out⟩
end Go.Proofs.YtboamjhlaehoaaaGreat

