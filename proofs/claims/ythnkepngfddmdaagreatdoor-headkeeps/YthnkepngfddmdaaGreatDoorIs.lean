/- HeadKeeps: the walk. -/
import Derived.Test.YthnkepngfddmdaaGreatDoorIr
import Derived.Deep.CutRange
namespace Go.Proofs.YthnkepngfddmdaaGreatDoor
open Go.RowKit Go.Maps
set_option linter.unusedVariables false
set_option maxRecDepth 20000

set_option maxHeartbeats 16000000 in
theorem keeps_walk (x : Int) (a : Option Addr) (raw : List (Sv × Int × Int)) (Q : List Smp) (c : Nat) (w : World) (hq : SmpRd w a raw Q) (hz : Q.length ≤ 3518437208882) :
    Calls Tryz.prog 4 #[.int .i64 x, .slice a Q.length c] w fun e w' => e = .returned (.bool true) ∧ w.grownBy w' none := by
  have HQ : Hid (SmpRd w a raw Q) := hq
  have HN : Hid (Calls Tryz.prog 8 #[.int .i64 x] w fun e w' => ∃ hb B, e = .returned (.pointer (some ⟨hb, 0, none⟩)) ∧ HeadAt w' w.heap.size hb (limR x) 0 0 [] B ∧ w.grownBy w' none) := by
    refine (h_new w.heap.size x w (Nat.le_refl _)).mono ?_
    rintro e w' ⟨hb, B, rfl, hh, hg, _⟩
    exact ⟨hb, B, rfl, hh, hg⟩
  obtain ⟨M, eM⟩ : ∃ M, M = Q.length := ⟨_, rfl⟩
  have EM : Hid (M = Q.length) := eM
  rw [← eM] at hz ⊢
  generalize limR x = lim at HN
  clear hq eM
  go_enter Tryz.func4, Tryz.ntmps4
  go_wp2_with fail
  refine HN.out.mono ?_
  rintro e w1 ⟨hb, B, rfl, hh, hg⟩
  have HR0 : Hid (RunAt w w1 hb lim (20 * 0) 0 (runS lim (Q.take 0)) B) := ⟨hh, hg⟩
  clear hh hg HN
  go_wp2
  go_loopw [6, 7] (fun t i wr => ∃ (k : Nat) (B : Nat → Prop), k ≤ M ∧ i = .int .i64 k ∧ t = .int .i64 (ptsN (runS lim (Q.take k))) ∧ ptsN (runS lim (Q.take k)) ≤ k ∧ RunAt w wr hb lim (20 * k) k (runS lim (Q.take k)) B) (fun _ i _ => M - (intOf i).toNat)
  case atStart => exact ⟨0, B, Nat.zero_le _, rfl, rfl, Nat.le_refl _, HR0.out⟩
  case round =>
    obtain ⟨k, Bk, hk, rfl, rfl, hpk, hrun⟩ := hrel
    have HR : Hid (RunAt w wr hb lim (20 * k) k (runS lim (Q.take k)) Bk) := hrun
    clear hrun
    by_cases hlt : k < M
    · have hi : (k : Int) < (M : Int) := by omega
      obtain ⟨⟨ls, T, V⟩, hs⟩ : ∃ s, Q[k]? = some s := ⟨_, List.getElem?_eq_getElem (by have := EM.out; omega)⟩
      obtain ⟨bb, off, la, lc, rfl, d0, d1, d2, hrd, hnil, hzl⟩ := smp_cells HQ.out hs
      have c0 := HR.out.grown.cell d0 (by simp)
      have c1 := HR.out.grown.cell d1 (by simp)
      have c2 := HR.out.grown.cell d2 (by simp)
      have HD : Hid (w.cell? ⟨bb, off + k * 3, none⟩ = some (.slice la ls.length lc) ∧ w.cell? ⟨bb, off + k * 3 + 1, none⟩ = some (.int .i64 T) ∧ w.cell? ⟨bb, off + k * 3 + 2, none⟩ = some (.int .u64 V)) := ⟨d0, d1, d2⟩
      have HRD : Hid (SRd labE w la ls) := hrd
      have HNIL : Hid (la = none → lc = 0) := hnil
      have HZL : Hid (ls.length ≤ 4398046511104) := hzl
      have HNX : Hid (runS lim (Q.take (k + 1)) = addR lim (runS lim (Q.take k)) ls T V) := runS_next hs
      have HGD : Hid (Good (runS lim (Q.take k))) := HR.out.head.good.1
      obtain ⟨LL, hLL⟩ : ∃ LL, LL = ls.length := ⟨_, rfl⟩
      have HLL : Hid (ls.length = LL) := hLL.symm
      rw [← hLL] at c0 HD
      clear hs hrd hnil hzl d0 d1 d2 hLL
      go_wp2_with fail
      refine (run_fate T V HR.out (by omega) HRD.out HLL.out HZL.out).mono ?_
      rintro e w2 ⟨rfl, hr2⟩
      have HR2 : Hid (RunAt w w2 hb lim (20 * k) k (runS lim (Q.take k)) Bk) := hr2
      have e0 := hr2.grown.cell HD.out.1 (by simp)
      have e1 := hr2.grown.cell HD.out.2.1 (by simp)
      have e2 := hr2.grown.cell HD.out.2.2 (by simp)
      clear hr2 c0 c1 c2 HR
      go_wp2_with fail
      refine (run_add T V HR2.out (by omega) (by omega) HRD.out HLL.out HZL.out HNIL.out).mono ?_
      rintro e w3 ⟨rfl, B3, hr3⟩
      have HR3 : Hid (RunAt w w3 hb lim (20 * k + 20) (k + 1) (addR lim (runS lim (Q.take k)) ls T V) B3) := hr3
      have f0 := hr3.grown.cell HD.out.1 (by simp)
      have f1 := hr3.grown.cell HD.out.2.1 (by simp)
      have f2 := hr3.grown.cell HD.out.2.2 (by simp)
      clear hr3 e0 e1 e2 HR2
      go_wp2_with fail
      refine (run_fate T V HR3.out (by omega) HRD.out HLL.out HZL.out).mono ?_
      rintro e w4 ⟨he, hr4⟩
      have HR4 : Hid (RunAt w w4 hb lim (20 * k + 20) (k + 1) (runS lim (Q.take (k + 1))) B3) := by
        rw [HNX.out]
        exact hr4
      clear hr4 HR3 f0 f1 f2
      by_cases hF : fateR lim (runS lim (Q.take k)) ls T V = 1
      · rw [fate_again HGD.out hF] at he
        subst he
        have HPN : Hid (ptsN (runS lim (Q.take (k + 1))) = ptsN (runS lim (Q.take k)) + 1) := by rw [HNX.out]; exact pts_add HGD.out hF
        rw [hF]
        generalize ptsN (runS lim (Q.take k)) = pn at HPN hpk ⊢
        clear HNX hF HD HRD HGD HLL HZL HNIL
        go_wp2
        go_roundw
        case rel => exact ⟨k + 1, B3, by omega, by go_num, by rw [HPN.out]; go_num, by rw [HPN.out]; omega, HR4.out⟩
        case measure => simp [intOf]; omega
      · rw [fate_same hF] at he
        subst he
        have HPN : Hid (ptsN (runS lim (Q.take (k + 1))) = ptsN (runS lim (Q.take k))) := by show _ = _; rw [HNX.out, fate_same hF]
        generalize ptsN (runS lim (Q.take k)) = pn at HPN hpk ⊢
        generalize fateR lim (runS lim (Q.take k)) ls T V = F at hF ⊢
        clear HNX HD HRD HGD HLL HZL HNIL
        go_wp2
        go_roundw
        case rel => exact ⟨k + 1, B3, by omega, by go_num, by rw [HPN.out], by rw [HPN.out]; omega, HR4.out⟩
        case measure => simp [intOf]; omega
    · obtain rfl : k = M := by omega
      have hi : ¬ (k : Int) < (k : Int) := by omega
      have HP : Hid (k ≤ 8796093022206) := by show _ ≤ _; omega
      have HFR : Hid (∀ s ∈ runS lim (Q.take k), ∀ p ∈ s.2, ∃ j, j < Q.length ∧ Q[j]? = some (s.1, p)) := fun s hs p hp => by
        obtain ⟨j, h1, h2⟩ := run_from lim Q k (by have := EM.out; omega) s hs p hp
        exact ⟨j, by have := EM.out; omega, h2⟩
      generalize runS lim (Q.take k) = S at HR HFR hpk ⊢
      go_wp2_with fail
      refine (selectR (-1099511627776) 1099511627776 HR.out HP.out).mono ?_
      rintro e w2 ⟨a1, c1, rfl, ho1, hr2, hg2⟩
      rw [good_all HR.out.head.good.1] at ho1 ⊢
      obtain ⟨ax, cx, raw1, e1, hrd⟩ := ho1.read
      simp only [Value.slice.injEq, true_and] at e1
      obtain ⟨rfl, rfl⟩ := e1
      have HK : Hid (KeepsAt w w2 a1 raw1 S a raw Q) := ⟨hr2.grown, hrd, HQ.out, HR.out.head.good.1, (run_small HR.out HP.out).2.2, HFR.out⟩
      have HR2 : Hid (RunAt w w2 hb lim (20 * k) k S Bk) := hr2
      have hl1 : S.length ≤ 1024 := (run_small HR.out HP.out).2.1
      clear ho1 hr2 hg2 hrd HR HFR
      go_wp2_with fail
      refine (h_count w.heap.size hb lim _ _ S Bk w2 HR2.out.head (by have := HP.out; omega)).mono ?_
      rintro e w3 ⟨rfl, rfl⟩
      obtain ⟨l1, el1⟩ : ∃ l1, l1 = S.length := ⟨_, rfl⟩
      have EL : Hid (l1 = S.length) := el1
      rw [← el1] at hl1 ⊢
      generalize ptsN S = pn at hpk ⊢
      clear HR2 el1 hpk
      have HG2 : Hid (w2.grownBy w2 none) := World.grownBy.refl _ _
      go_wp2
      go_loopw [14] (fun i wr => ∃ n : Nat, n ≤ l1 ∧ i = .int .i64 n ∧ w2.grownBy wr none) (fun i _ => l1 - (intOf i).toNat)
      case atStart => exact ⟨0, Nat.zero_le _, rfl, HG2.out⟩
      case round =>
        obtain ⟨n, hn, rfl, hgr⟩ := hrel
        have HGR : Hid (w2.grownBy wr none) := hgr
        clear hgr
        by_cases hnl : n < l1
        · have hni : (n : Int) < (l1 : Int) := by omega
          obtain ⟨⟨ls, ps⟩, hs⟩ : ∃ s, S[n]? = some s := ⟨_, List.getElem?_eq_getElem (by have := EL.out; omega)⟩
          obtain ⟨sb, so, la, lc, pa, pc, rfl, c0, c1, rl, rp⟩ := ser_cells (HK.out.rd.grown HGR.out) hs
          obtain ⟨z1, z2⟩ := HK.out.small _ (List.mem_of_getElem? hs)
          have hne := HK.out.good.some _ (List.mem_of_getElem? hs)
          have hri := HK.out.good.rise _ (List.mem_of_getElem? hs)
          have hfr := HK.out.from' _ (List.mem_of_getElem? hs)
          simp only at c0 c1 rl rp z1 z2 hne hri hfr
          have HRL : Hid (SRd labE wr la ls) := rl
          have HRP : Hid (SRd pntE wr pa ps) := rp
          have HRI : Hid (Rise ps) := hri
          have HFR : Hid (∀ p ∈ ps, ∃ j, j < Q.length ∧ Q[j]? = some (ls, p)) := hfr
          have HZ1 : Hid (ls.length ≤ 16) := z1
          obtain ⟨nl, enl⟩ : ∃ nl, nl = ls.length := ⟨_, rfl⟩
          obtain ⟨np, enp⟩ : ∃ np, np = ps.length := ⟨_, rfl⟩
          have ENL : Hid (ls.length = nl) := enl.symm
          have ENP : Hid (np = ps.length) := enp
          rw [← enl] at c0
          rw [← enp] at c1 z2
          have hnp : ((np : Int) == 0) = false := by
            have : 0 < ps.length := List.length_pos_iff.2 hne
            simp
            omega
          have hprev : n = 0 ∨ ∃ (j : Nat) (lb : Option Addr) (n0 ld : Nat) (R : Int), n = j + 1 ∧ wr.cell? ⟨sb, so + j * 2, none⟩ = some (.slice lb n0 ld) ∧ Hid (∀ m, Calls Tryz.prog 17 #[.slice lb n0 ld, .slice la nl lc] (wr.drewN m) fun e w' => e = .returned (.int .i64 R) ∧ ∃ m', w' = (wr.drewN m).drewN m') ∧ decide (0 ≤ R) = false := by
            cases n with
            | zero => exact .inl rfl
            | succ j =>
              obtain ⟨⟨ls0, ps0⟩, hs0⟩ : ∃ s, S[j]? = some s := ⟨_, List.getElem?_eq_getElem (by have := EL.out; omega)⟩
              obtain ⟨sb', so', lb, ld, pb', pd', e', b0, _, sl, _⟩ := ser_cells (HK.out.rd.grown HGR.out) hs0
              cases e'
              have hc := sets_at HK.out.good hs0 hs
              have y1 := (HK.out.small _ (List.mem_of_getElem? hs0)).1
              simp only at b0 sl hc y1
              refine .inr ⟨j, lb, ls0.length, ld, cmpR ls0 ls, rfl, b0, fun m => ?_, by simp; omega⟩
              exact r_compareQ lb la ls0 ls _ _ ld lc _ (wr.drewN m) (sl.grown (gb_drewN wr m) (by simp)) (rl.grown (gb_drewN wr m) (by simp)) rfl enl.symm (by omega) (by omega) rfl
          clear hs rl rp hri hfr z1 enl enp hne
          go_upto_region 26 with fail
          go_cut [110] from 79 to 188 (fun t wc => t = .bool false ∧ ∃ m, wc = wr.drewN m)
          case first =>
            rcases hprev with rfl | ⟨j, lb, n0, ld, R, rfl, b0, HC, hR⟩
            · rw [Nat.zero_mul, Nat.add_zero] at c0 c1
              have hz0 : decide ((0 : Int) < ((0 : Nat) : Int)) = false := by simp
              go_quiet (fail)
              go_wp2
              go_meet
              case rel => exact ⟨rfl, _, rfl⟩
            · have hj1 : decide ((0 : Int) < ((j + 1 : Nat) : Int)) = true := by simp
              go_quiet (exact Calls.quiet_of (HC.out _))
              go_wp2
              go_meet
              case rel => exact ⟨rfl, _, rfl⟩
          case rest =>
            obtain ⟨rfl, nq, rfl⟩ := hcut
            clear hprev
            obtain ⟨w4, ew⟩ : ∃ w4, w4 = wr.drewN nq := ⟨_, rfl⟩
            rw [← ew]
            have HG4 : Hid (wr.grownBy w4 none) := by rw [ew]; exact gb_drewN wr nq
            have HG24 : Hid (w2.grownBy w4 none) := HGR.out.trans HG4.out
            have HGW4 : Hid (w.grownBy w4 none) := HK.out.gr.trans HG24.out
            have HRL4 : Hid (SRd labE w4 la ls) := HRL.out.grown HG4.out (by simp)
            have HRP4 : Hid (SRd pntE w4 pa ps) := HRP.out.grown HG4.out (by simp)
            have HG44 : Hid (w4.grownBy w4 none) := World.grownBy.refl _ _
            have g0 : w4.cell? ⟨sb, so + n * 2, none⟩ = some (.slice la nl lc) := by rw [ew]; exact c0
            have g1 : w4.cell? ⟨sb, so + n * 2 + 1, none⟩ = some (.slice pa np pc) := by rw [ew]; exact c1
            clear ew c0 c1 HRL HRP hnp
            go_wp2
            go_loopw [15] (fun i wr => ∃ m : Nat, m ≤ np ∧ i = .int .i64 m ∧ w4.grownBy wr none) (fun i _ => np - (intOf i).toNat)
            case atStart => exact ⟨0, Nat.zero_le _, rfl, HG44.out⟩
            case round =>
              obtain ⟨m, hm, rfl, hgq⟩ := hrel
              have HGQ : Hid (w4.grownBy wr none) := hgq
              have h0 := hgq.cell g0 (by simp)
              have h1 := hgq.cell g1 (by simp)
              clear hgq
              by_cases hml : m < np
              · have hmi : (m : Int) < (np : Int) := by omega
                obtain ⟨⟨pT, pV⟩, hp⟩ : ∃ p, ps[m]? = some p := ⟨_, List.getElem?_eq_getElem (by have := ENP.out; omega)⟩
                obtain ⟨pb, po, rfl, k0, k1⟩ := pnt_cells (HRP4.out.grown HGQ.out (by simp)) hp
                have HFP : Hid (∃ j, j < Q.length ∧ Q[j]? = some (ls, pT, pV)) := HFR.out _ (List.mem_of_getElem? hp)
                have hprev2 : m = 0 ∨ ∃ (i : Nat) (qT : Int), m = i + 1 ∧ wr.cell? ⟨pb, po + i * 2, none⟩ = some (.int .i64 qT) ∧ decide (pT ≤ qT) = false := by
                  cases m with
                  | zero => exact .inl rfl
                  | succ i =>
                    obtain ⟨⟨qT, qV⟩, hq⟩ : ∃ p, ps[i]? = some p := ⟨_, List.getElem?_eq_getElem (by have := ENP.out; omega)⟩
                    obtain ⟨pb', po', e', q0, _⟩ := pnt_cells (HRP4.out.grown HGQ.out (by simp)) hq
                    cases e'
                    have := rise_at HRI.out hq hp
                    simp only at this
                    exact .inr ⟨i, qT, rfl, q0, by simp; omega⟩
                clear hp
                have t0 : (wr.alloc (.cells #[.int .i64 pT, .int .u64 pV] 51)).cell? ⟨wr.heap.size, 0, none⟩ = some (.int .i64 pT) := row2.1
                have t1 : (wr.alloc (.cells #[.int .i64 pT, .int .u64 pV] 51)).cell? ⟨wr.heap.size, 1, none⟩ = some (.int .u64 pV) := row2.2
                have HG5 : Hid (wr.grownBy (wr.alloc (.cells #[.int .i64 pT, .int .u64 pV] 51)) none) := World.grownBy_alloc wr _ none
                have u0 := HG5.out.cell h0 (by simp)
                have u1 := HG5.out.cell h1 (by simp)
                go_upto_region 32 with fail
                go_cut [145] from 111 to 188 (fun t wc => t = .bool false ∧ ∃ m', wc = (wr.alloc (.cells #[.int .i64 pT, .int .u64 pV] 51)).drewN m')
                case first =>
                  rcases hprev2 with rfl | ⟨i, qT, rfl, q0, hqT⟩
                  · rw [Nat.zero_mul, Nat.add_zero] at k0 k1
                    have hz1 : decide ((0 : Int) < ((0 : Nat) : Int)) = false := by simp
                    go_quiet (fail)
                    go_wp2
                    go_meet
                    case rel => exact ⟨rfl, _, rfl⟩
                  · have hz1 : decide ((0 : Int) < ((i + 1 : Nat) : Int)) = true := by simp
                    have u2 := HG5.out.cell q0 (by simp)
                    go_quiet (fail)
                    go_wp2
                    go_meet
                    case rel => exact ⟨rfl, _, rfl⟩
                case rest =>
                  obtain ⟨rfl, nq, rfl⟩ := hcut
                  clear hprev2
                  obtain ⟨w5, e5⟩ : ∃ w5, w5 = (wr.alloc (.cells #[.int .i64 pT, .int .u64 pV] 51)).drewN nq := ⟨_, rfl⟩
                  rw [← e5]
                  have v0 : w5.cell? ⟨sb, so + n * 2, none⟩ = some (.slice la nl lc) := by rw [e5]; exact u0
                  have v2 : w5.cell? ⟨wr.heap.size, 0, none⟩ = some (.int .i64 pT) := by rw [e5]; exact t0
                  have v3 : w5.cell? ⟨wr.heap.size, 1, none⟩ = some (.int .u64 pV) := by rw [e5]; exact t1
                  have HG45 : Hid (w4.grownBy w5 none) := by rw [e5]; exact (HGQ.out.trans HG5.out).trans (gb_drewN _ nq)
                  generalize wr.heap.size = qb at v2 v3 ⊢
                  clear e5 t0 t1 u0 u1 h0 h1 k0 k1 HG5 HGQ
                  go_wp2
                  go_loopw [17, 18] (fun f i wr => ∃ y : Nat, y ≤ k ∧ i = .int .i64 y ∧ (∃ n, wr = w5.drewN n) ∧ (f = .bool true ∨ (f = .bool false ∧ ∀ j', j' < y → Q[j']? ≠ some (ls, pT, pV)))) (fun _ i _ => k - (intOf i).toNat)
                  case atStart => exact ⟨0, Nat.zero_le _, rfl, ⟨0, rfl⟩, .inr ⟨rfl, fun j h => by omega⟩⟩
                  case round =>
                    obtain ⟨y, hy, rfl, hwz, hfd⟩ := hrel
                    have HW : Hid (∃ n, wr = w5.drewN n) := hwz
                    have HGZ : Hid (w5.grownBy wr none) := by obtain ⟨n', e'⟩ := hwz; rw [e']; exact gb_drewN w5 n'
                    have x0 := HGZ.out.cell v0 (by simp)
                    have x2 := HGZ.out.cell v2 (by simp)
                    have x3 := HGZ.out.cell v3 (by simp)
                    clear hwz
                    by_cases hyk : y < k
                    · have hyi : (y : Int) < (k : Int) := by omega
                      rcases hfd with rfl | ⟨rfl, hno⟩
                      · go_wp2_with fail
                        go_quiet (fail)
                        go_wp2
                        go_roundw
                        case rel => exact ⟨y + 1, by omega, by go_num, drW HW.out _, .inl rfl⟩
                        case measure => simp [intOf]; omega
                      · have HNO : Hid (∀ j', j' < y → Q[j']? ≠ some (ls, pT, pV)) := hno
                        clear hno
                        obtain ⟨⟨l2, T2, V2⟩, hq2⟩ : ∃ q, Q[y]? = some q := ⟨_, List.getElem?_eq_getElem (by have := EM.out; omega)⟩
                        obtain ⟨b2, o2, la2, lc2, rfl, m0, m1, m2, rl2, _, zl2⟩ := smp_cells (HQ.out.grown ((HGW4.out.trans HG45.out).trans HGZ.out)) hq2
                        have HNX : Hid ((l2, T2, V2) ≠ (ls, pT, pV) → ∀ j', j' < y + 1 → Q[j']? ≠ some (ls, pT, pV)) := fun hne j' hj' => by
                          by_cases e : j' < y
                          · exact HNO.out j' e
                          · obtain rfl : j' = y := by omega
                            rw [hq2]
                            exact fun e => hne (Option.some.inj e)
                        have HC2 : Hid (∀ n', Calls Tryz.prog 17 #[.slice la2 l2.length lc2, .slice la nl lc] (wr.drewN n') fun e w' => e = .returned (.int .i64 (cmpR l2 ls)) ∧ ∃ m', w' = (wr.drewN n').drewN m') := fun n' => by
                          have hgz : wr.grownBy (wr.drewN n') none := gb_drewN _ n'
                          exact r_compareQ la2 la l2 ls _ _ lc2 lc _ _ (rl2.grown hgz (by simp)) (HRL4.out.grown ((HG45.out.trans HGZ.out).trans hgz) (by simp)) rfl ENL.out zl2 (by have := HZ1.out; have := ENL.out; omega) rfl
                        have HEQ : Hid ((cmpR l2 ls == 0) = false → l2 ≠ ls) := fun h e => by
                          have := (cmp_zero l2 ls).2 e
                          rw [this] at h
                          simp at h
                        generalize l2.length = n2 at m0 HC2
                        clear hq2 rl2 zl2
                        by_cases eT : T2 = pT
                        · have qT1 : (T2 == pT) = true := by simpa using eT
                          by_cases eV : V2 = pV
                          · have qV1 : (V2 == pV) = true := by simpa using eV
                            generalize hqq : (cmpR l2 ls == 0) = qq at HEQ
                            cases qq with
                            | true =>
                              generalize cmpR l2 ls = R2 at HC2 hqq
                              go_wp2_with fail
                              go_quiet (exact Calls.quiet_of (HC2.out _))
                              go_wp2
                              go_roundw
                              case rel => exact ⟨y + 1, by omega, by go_num, drW HW.out _, .inl rfl⟩
                              case measure => simp [intOf]; omega
                            | false =>
                              have HNN : Hid (∀ j', j' < y + 1 → Q[j']? ≠ some (ls, pT, pV)) := HNX.out (fun e => HEQ.out rfl (by simp only [Prod.mk.injEq] at e; exact e.1))
                              generalize cmpR l2 ls = R2 at HC2 hqq
                              go_wp2_with fail
                              go_quiet (exact Calls.quiet_of (HC2.out _))
                              go_wp2
                              go_roundw
                              case rel => exact ⟨y + 1, by omega, by go_num, drW HW.out _, .inr ⟨rfl, HNN.out⟩⟩
                              case measure => simp [intOf]; omega
                          · have qV1 : (V2 == pV) = false := by simpa using eV
                            have HNN : Hid (∀ j', j' < y + 1 → Q[j']? ≠ some (ls, pT, pV)) := HNX.out (fun e => eV (by simp only [Prod.mk.injEq] at e; exact e.2.2))
                            clear eV
                            go_wp2_with fail
                            go_quiet (fail)
                            go_wp2
                            go_roundw
                            case rel => exact ⟨y + 1, by omega, by go_num, drW HW.out _, .inr ⟨rfl, HNN.out⟩⟩
                            case measure => simp [intOf]; omega
                        · have qT1 : (T2 == pT) = false := by simpa using eT
                          have HNN : Hid (∀ j', j' < y + 1 → Q[j']? ≠ some (ls, pT, pV)) := HNX.out (fun e => eT (by simp only [Prod.mk.injEq] at e; exact e.2.1))
                          clear eT
                          go_wp2_with fail
                          go_quiet (fail)
                          go_wp2
                          go_roundw
                          case rel => exact ⟨y + 1, by omega, by go_num, drW HW.out _, .inr ⟨rfl, HNN.out⟩⟩
                          case measure => simp [intOf]; omega
                    · obtain rfl : y = k := by omega
                      have hyi : ¬ (y : Int) < (y : Int) := by omega
                      rcases hfd with rfl | ⟨rfl, hno⟩
                      · have HGX : Hid (w4.grownBy wr none) := HG45.out.trans HGZ.out
                        go_wp2
                        go_roundw
                        case rel => exact ⟨m + 1, by omega, by go_num, HGX.out⟩
                        case measure => simp [intOf]; omega
                      · exfalso
                        obtain ⟨j', h1, h2⟩ := HFP.out
                        exact hno j' (by have := EM.out; omega) h2
              · obtain rfl : m = np := by omega
                have hmi : ¬ (m : Int) < (m : Int) := by omega
                have HGX : Hid (w2.grownBy wr none) := HG24.out.trans HGQ.out
                go_wp2
                go_roundw
                case rel => exact ⟨n + 1, by omega, by go_num, HGX.out⟩
                case measure => simp [intOf]; omega
        · obtain rfl : n = l1 := by omega
          have hni : ¬ (n : Int) < (n : Int) := by omega
          go_wp2_with fail
          refine (h_awake wr).mono ?_
          rintro e w5 ⟨rfl, hg⟩
          have HG : Hid (w.grownBy w5 none) := (HK.out.gr.trans HGR.out).trans hg
          clear hg
          go_wp2
          go_ret
          exact ⟨rfl, HG.out⟩
end Go.Proofs.YthnkepngfddmdaaGreatDoor
