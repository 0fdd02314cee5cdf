/- HeadCuts: the walk. -/
import Derived.Test.YtpabbmiibehfjaaGreatDoorGv
namespace Go.Proofs.YtpabbmiibehfjaaGreatDoor
open Go.RowKit Go.Maps
set_option linter.unusedVariables false
set_option maxRecDepth 20000

theorem wrap_sub (b : Int) (h1 : -1099511627776 < b) (h2 : b ≤ 9223372036854775807) : IntKind.i64.wrap (b - 1) = b - 1 := by
  simp [IntKind.wrap, IntKind.bits, IntKind.signed]
  split <;> omega
theorem cuts_at {w w3 w5 w6 : World} {hb N P : Nat} {S : List Ser} {b : Int} {B B2 X : Nat → Prop} {a1 a2 a3 a4 a5 : Option Addr} {l1 l2 l3 l4 l5 c1 c2 c3 c4 c5 : Nat}
    (hr : RunAt w w3 hb 1024 N P S B) (hP : P ≤ 8796093022206) (h1 : SerOut w3 (fun k => ¬ B k) (.slice a1 l1 c1) S) (h3 : SerOut w3 (fun k => ¬ B k) (.slice a3 l3 c3) (keepS (lowT b) S)) (h4 : SerOut w3 (fun k => ¬ B k) (.slice a4 l4 c4) (keepS (highT b) S))
    (h2 : SerOut w5 X (.slice a2 l2 c2) (keepS (lowT b) S)) (hst : Step w3 w5 B B2) (hg : w5.grownBy w6 none) (h5 : SerOut w6 (fun k => ¬ B2 k) (.slice a5 l5 c5) (keepS (highT b) S)) (hr6 : RunAt w w6 hb 1024 (N + 20000) P (keepS (highT b) S) B2) :
    CutsAt w w6 hb (N + 20000) P S b B2 (a1, l1, c1) (a2, l2, c2) (a3, l3, c3) (a4, l4, c4) (a5, l5, c5) := by
  obtain ⟨k1, k2, k3⟩ := run_small hr hP
  exact ⟨hr6, k1, k2, k3, out_grown (out_cut h1 hst) hg, ⟨X, h2.grown hg⟩, out_grown (out_cut h3 hst) hg, out_grown (out_cut h4 hst) hg, ⟨_, h5⟩⟩
set_option maxHeartbeats 8000000 in
theorem cuts_walk (a : Option Addr) (raw : List (Sv × Int × Int)) (Q : List Smp) (c : Nat) (b : Int) (w : World) (hq : SmpRd w a raw Q) (hz : Q.length ≤ 3518437208882) (hb1 : -9223372036854775808 ≤ b) (hb2 : b ≤ 9223372036854775807) :
    Calls Tryz.prog 5 #[.slice a Q.length c, .int .i64 b] w fun e w' => e = .returned (.bool true) ∧ w.grownBy w' none := by
  have HQ : Hid (SmpRd w a raw Q) := hq
  have HN : Hid (Calls Tryz.prog 8 #[.int .i64 1024] w fun e w' => ∃ hb B, e = .returned (.pointer (some ⟨hb, 0, none⟩)) ∧ HeadAt w' w.heap.size hb 1024 0 0 [] B ∧ w.grownBy w' none) := by
    refine (h_new w.heap.size 1024 w (Nat.le_refl _)).mono ?_
    rintro e w' ⟨hb, B, rfl, hh, hg, _⟩
    rw [lim1024] at hh
    exact ⟨hb, B, rfl, hh, hg⟩
  obtain ⟨M, eM⟩ : ∃ M, M = Q.length := ⟨_, rfl⟩
  have EM : Hid (M = Q.length) := eM
  rw [← eM] at hz ⊢
  clear hq eM
  go_enter Tryz.func5, Tryz.ntmps5
  go_wp2_with fail
  refine HN.out.mono ?_
  rintro e w1 ⟨hb, B, rfl, hh, hg⟩
  have HR0 : Hid (RunAt w w1 hb 1024 (20 * 0) 0 (runS 1024 (Q.take 0)) B) := ⟨hh, hg⟩
  clear hh hg HN
  go_wp2
  go_loopw [6] (fun i wr => ∃ (k : Nat) (B : Nat → Prop), k ≤ M ∧ i = .int .i64 k ∧ RunAt w wr hb 1024 (20 * k) k (runS 1024 (Q.take k)) B) (fun i _ => M - (intOf i).toNat)
  case atStart => exact ⟨0, B, Nat.zero_le _, rfl, HR0.out⟩
  case round =>
    obtain ⟨k, Bk, hk, rfl, hrun⟩ := hrel
    have HR : Hid (RunAt w wr hb 1024 (20 * k) k (runS 1024 (Q.take k)) Bk) := hrun
    clear hrun
    by_cases hlt : k < M
    · have hi : (k : Int) < (M : Int) := by omega
      obtain ⟨⟨ls, T, V⟩, hs⟩ : ∃ s, Q[k]? = some s := ⟨_, List.getElem?_eq_getElem (by have := EM.out; omega)⟩
      obtain ⟨bb, off, la, lc, rfl, c0, c1, c2, hrd, hnil, hzl⟩ := smp_cells (HQ.out.grown HR.out.grown) hs
      have HADD : Hid (Calls Tryz.prog 15 #[.pointer (some ⟨hb, 0, none⟩), .agg #[.slice la ls.length lc, .int .i64 T, .int .u64 V]] wr (AddOut wr w.heap.size hb 1024 (20 * k) k (runS 1024 (Q.take k)) Bk ls T V)) := h_add w.heap.size hb 1024 (20 * k) k _ Bk la _ lc ls T V wr HR.out.head hrd rfl hzl hnil (by omega) (by omega)
      have HNX : Hid (runS 1024 (Q.take (k + 1)) = addR 1024 (runS 1024 (Q.take k)) ls T V) := runS_next hs
      generalize ls.length = LL at c0 HADD
      clear hs hrd hnil hzl
      go_wp2_with fail
      refine HADD.out.mono ?_
      rintro e w2 ⟨rfl, B2, hh, hst⟩
      rw [← HNX.out] at hh
      have HR2 : Hid (RunAt w w2 hb 1024 (20 * k + 20) (k + 1) (runS 1024 (Q.take (k + 1))) B2) := HR.out.step hst hh
      clear hh hst HADD HR
      go_wp2
      go_roundw
      case rel => exact ⟨k + 1, B2, by omega, by go_num, HR2.out⟩
      case measure => simp [intOf]; omega
    · obtain rfl : k = M := by omega
      have hi : ¬ (k : Int) < (k : Int) := by omega
      have HP : Hid (k ≤ 8796093022206) := by show _ ≤ _; omega
      have HNN : Hid (20 * k + 20000 + 20000 < 9223372036854775807) := by show _ < _; omega
      have HG0 : Hid (Good (runS 1024 (Q.take k))) := HR.out.head.good.1
      generalize runS 1024 (Q.take k) = S at HR HG0
      go_wp2_with fail
      refine (selectR (-1099511627776) 1099511627776 HR.out HP.out).mono ?_
      rintro e w2 ⟨a1, c1, rfl, ho1, hr2, hg2⟩
      rw [good_all HG0.out] at ho1 ⊢
      have HO1 : Hid (SerOut w2 (fun k => ¬ Bk k) (.slice a1 S.length c1) S) := ho1
      have HR2 : Hid (RunAt w w2 hb 1024 (20 * k) k S Bk) := hr2
      clear ho1 hr2 hg2 HR
      generalize S.length = l1 at HO1 ⊢
      -- the two halves
      obtain ⟨t, ht, hte⟩ : ∃ t, IntKind.i64.wrap (b - 1) = t ∧ (-1099511627776 < b → t = b - 1) := by
        exact ⟨_, rfl, fun h => wrap_sub b h hb2⟩
      have HTE : Hid (-1099511627776 < b → t = b - 1) := hte
      clear hte
      go_wp2_with fail
      refine (selectR (-1099511627776) t HR2.out HP.out).mono ?_
      rintro e w3 ⟨a3, c3, rfl, ho3, hr3, hg3⟩
      have HO3 : Hid (SerOut w3 (fun k => ¬ Bk k) (.slice a3 (keepS (within (-1099511627776) t) S).length c3) (keepS (within (-1099511627776) t) S)) := ho3
      have HO1' : Hid (SerOut w3 (fun k => ¬ Bk k) (.slice a1 l1 c1) S) := HO1.out.grown hg3
      have HR3 : Hid (RunAt w w3 hb 1024 (20 * k) k S Bk) := hr3
      clear ho3 hr3 hg3 HO1 HR2
      generalize hl3 : (keepS (within (-1099511627776) t) S).length = l3 at HO3 ⊢
      clear hl3
      go_wp2_with fail
      refine (selectR b 1099511627776 HR3.out HP.out).mono ?_
      rintro e w4 ⟨a4, c4, rfl, ho4, hr4, hg4⟩
      rw [good_above HG0.out] at ho4 ⊢
      have HO4 : Hid (SerOut w4 (fun k => ¬ Bk k) (.slice a4 (keepS (highT b) S).length c4) (keepS (highT b) S)) := ho4
      have HO3' : Hid (SerOut w4 (fun k => ¬ Bk k) (.slice a3 l3 c3) (keepS (within (-1099511627776) t) S)) := HO3.out.grown hg4
      have HO1'' : Hid (SerOut w4 (fun k => ¬ Bk k) (.slice a1 l1 c1) S) := HO1'.out.grown hg4
      have HR4 : Hid (RunAt w w4 hb 1024 (20 * k) k S Bk) := hr4
      clear ho4 hr4 hg4 HO1' HO3 HR3
      generalize hl4 : (keepS (highT b) S).length = l4 at HO4 ⊢
      clear hl4
      -- which halves stand
      obtain ⟨W4, eW4⟩ : ∃ W, W = w4 := ⟨_, rfl⟩
      by_cases hbl : b ≤ -1099511627776
      · have HLOW : Hid (SerOut w4 (fun k => ¬ Bk k) (.slice none 0 0) (keepS (lowT b) S)) := by rw [good_low0 HG0.out hbl]; exact SerOut.nil _ _
        have HHIGH : Hid (SerOut w4 (fun k => ¬ Bk k) (.slice a1 l1 c1) (keepS (highT b) S)) := by rw [good_high0 HG0.out hbl]; exact HO1''.out
        clear eW4 ht HTE HO3' HO4
        go_wp2_with fail
        refine (h_cut w.heap.size hb 1024 _ _ S Bk b w4 HR4.out.head HP.out (by have := HNN.out; omega)).mono ?_
        rintro e w5 ⟨v, X, B2, rfl, ho2, hh, hst, _⟩
        obtain ⟨a2, c2, r2, rfl, _⟩ := ho2.read
        have HO2 : Hid (SerOut w5 X (.slice a2 (keepS (lowT b) S).length c2) (keepS (lowT b) S)) := ho2
        have HST : Hid (Step w4 w5 Bk B2) := hst
        have HR5 : Hid (RunAt w w5 hb 1024 (20 * k + 20000) k (keepS (highT b) S) B2) := HR4.out.step hst hh
        clear ho2 hh hst
        generalize hl2 : (keepS (lowT b) S).length = l2 at HO2 ⊢
        clear hl2
        go_wp2_with fail
        refine (selectR (-1099511627776) 1099511627776 HR5.out HP.out).mono ?_
        rintro e w6 ⟨a5, c5, rfl, ho5, hr6, hg6⟩
        rw [good_all (keepS_good HG0.out _)] at ho5 ⊢
        generalize hl5 : (keepS (highT b) S).length = l5 at ho5 ⊢
        have HC : Hid (CutsAt w w6 hb (20 * k + 20000) k S b B2 (a1, l1, c1) (a2, l2, c2) (none, 0, 0) (a1, l1, c1) (a5, l5, c5)) := cuts_at HR4.out HP.out HO1''.out HLOW.out HHIGH.out HO2.out HST.out hg6 ho5 hr6
        clear ho5 hr6 hg6 hl5 HR4 HR5 HO1'' HLOW HHIGH HO2 HST
        go_wp2_with fail
        refine (HC.out.same1).mono ?_
        rintro e w7 ⟨rfl, hc⟩
        have HC7 : Hid (CutsAt w w7 hb (20 * k + 20000) k S b B2 (a1, l1, c1) (a2, l2, c2) (none, 0, 0) (a1, l1, c1) (a5, l5, c5)) := hc
        clear hc HC
        go_wp2_with fail
        refine (HC7.out.same2).mono ?_
        rintro e w8 ⟨rfl, hc⟩
        have HC8 : Hid (CutsAt w w8 hb (20 * k + 20000) k S b B2 (a1, l1, c1) (a2, l2, c2) (none, 0, 0) (a1, l1, c1) (a5, l5, c5)) := hc
        clear hc HC7
        have hpc := pts_cut b S
        have hpb := pts_bd HC8.out.len HC8.out.small
        have HP1 : Hid (Calls Tryz.prog 19 #[.slice a2 l2 c2] w8 fun e w' => e = .returned (.int .i64 (ptsN (keepS (lowT b) S))) ∧ w8 = w') := HC8.out.pts1
        have HP2 : Hid (Calls Tryz.prog 19 #[.slice a5 l5 c5] w8 fun e w' => e = .returned (.int .i64 (ptsN (keepS (highT b) S))) ∧ w8 = w') := HC8.out.pts2
        have HP3 : Hid (Calls Tryz.prog 19 #[.slice a1 l1 c1] w8 fun e w' => e = .returned (.int .i64 (ptsN S)) ∧ w8 = w') := HC8.out.pts3
        generalize ptsN (keepS (lowT b) S) = n1 at hpc HP1
        generalize ptsN (keepS (highT b) S) = n2 at hpc HP2
        generalize ptsN S = n3 at hpc hpb HP3
        subst hpc
        go_wp2_with fail
        refine HP1.out.mono ?_
        rintro e w9 ⟨rfl, rfl⟩
        go_wp2_with fail
        refine HP2.out.mono ?_
        rintro e w9 ⟨rfl, rfl⟩
        go_wp2_with fail
        refine HP3.out.mono ?_
        rintro e w9 ⟨rfl, rfl⟩
        clear HP1 HP2 HP3
        go_wp2_with fail
        refine (HC8.out.again HP.out HNN.out).mono ?_
        rintro e w9 ⟨a6, c6, rfl, hg9⟩
        have HG9 : Hid (w.grownBy w9 none) := hg9
        clear hg9 HC8
        go_wp2_with fail
        refine (h_awake w9).mono ?_
        rintro e w10 ⟨rfl, hg⟩
        have HG : Hid (w.grownBy w10 none) := HG9.out.trans hg
        clear hg
        go_wp2
        go_ret
        exact ⟨rfl, HG.out⟩
      · have HLOW : Hid (SerOut w4 (fun k => ¬ Bk k) (.slice a3 l3 c3) (keepS (lowT b) S)) := by
          rw [← good_below HG0.out b, ← HTE.out (by omega)]
          exact HO3'.out
        clear eW4 ht HTE HO3'
        have HHIGH : Hid (SerOut w4 (fun k => ¬ Bk k) (.slice a4 l4 c4) (keepS (highT b) S)) := HO4.out
        clear HO4
        go_wp2_with fail
        refine (h_cut w.heap.size hb 1024 _ _ S Bk b w4 HR4.out.head HP.out (by have := HNN.out; omega)).mono ?_
        rintro e w5 ⟨v, X, B2, rfl, ho2, hh, hst, _⟩
        obtain ⟨a2, c2, r2, rfl, _⟩ := ho2.read
        have HO2 : Hid (SerOut w5 X (.slice a2 (keepS (lowT b) S).length c2) (keepS (lowT b) S)) := ho2
        have HST : Hid (Step w4 w5 Bk B2) := hst
        have HR5 : Hid (RunAt w w5 hb 1024 (20 * k + 20000) k (keepS (highT b) S) B2) := HR4.out.step hst hh
        clear ho2 hh hst
        generalize hl2 : (keepS (lowT b) S).length = l2 at HO2 ⊢
        clear hl2
        go_wp2_with fail
        refine (selectR (-1099511627776) 1099511627776 HR5.out HP.out).mono ?_
        rintro e w6 ⟨a5, c5, rfl, ho5, hr6, hg6⟩
        rw [good_all (keepS_good HG0.out _)] at ho5 ⊢
        generalize hl5 : (keepS (highT b) S).length = l5 at ho5 ⊢
        have HC : Hid (CutsAt w w6 hb (20 * k + 20000) k S b B2 (a1, l1, c1) (a2, l2, c2) (a3, l3, c3) (a4, l4, c4) (a5, l5, c5)) := cuts_at HR4.out HP.out HO1''.out HLOW.out HHIGH.out HO2.out HST.out hg6 ho5 hr6
        clear ho5 hr6 hg6 hl5 HR4 HR5 HO1'' HLOW HHIGH HO2 HST
        go_wp2_with fail
        refine (HC.out.same1).mono ?_
        rintro e w7 ⟨rfl, hc⟩
        have HC7 : Hid (CutsAt w w7 hb (20 * k + 20000) k S b B2 (a1, l1, c1) (a2, l2, c2) (a3, l3, c3) (a4, l4, c4) (a5, l5, c5)) := hc
        clear hc HC
        go_wp2_with fail
        refine (HC7.out.same2).mono ?_
        rintro e w8 ⟨rfl, hc⟩
        have HC8 : Hid (CutsAt w w8 hb (20 * k + 20000) k S b B2 (a1, l1, c1) (a2, l2, c2) (a3, l3, c3) (a4, l4, c4) (a5, l5, c5)) := hc
        clear hc HC7
        have hpc := pts_cut b S
        have hpb := pts_bd HC8.out.len HC8.out.small
        have HP1 : Hid (Calls Tryz.prog 19 #[.slice a2 l2 c2] w8 fun e w' => e = .returned (.int .i64 (ptsN (keepS (lowT b) S))) ∧ w8 = w') := HC8.out.pts1
        have HP2 : Hid (Calls Tryz.prog 19 #[.slice a5 l5 c5] w8 fun e w' => e = .returned (.int .i64 (ptsN (keepS (highT b) S))) ∧ w8 = w') := HC8.out.pts2
        have HP3 : Hid (Calls Tryz.prog 19 #[.slice a1 l1 c1] w8 fun e w' => e = .returned (.int .i64 (ptsN S)) ∧ w8 = w') := HC8.out.pts3
        generalize ptsN (keepS (lowT b) S) = n1 at hpc HP1
        generalize ptsN (keepS (highT b) S) = n2 at hpc HP2
        generalize ptsN S = n3 at hpc hpb HP3
        subst hpc
        go_wp2_with fail
        refine HP1.out.mono ?_
        rintro e w9 ⟨rfl, rfl⟩
        go_wp2_with fail
        refine HP2.out.mono ?_
        rintro e w9 ⟨rfl, rfl⟩
        go_wp2_with fail
        refine HP3.out.mono ?_
        rintro e w9 ⟨rfl, rfl⟩
        clear HP1 HP2 HP3
        go_wp2_with fail
        refine (HC8.out.again HP.out HNN.out).mono ?_
        rintro e w9 ⟨a6, c6, rfl, hg9⟩
        have HG9 : Hid (w.grownBy w9 none) := hg9
        clear hg9 HC8
        go_wp2_with fail
        refine (h_awake w9).mono ?_
        rintro e w10 ⟨rfl, hg⟩
        have HG : Hid (w.grownBy w10 none) := HG9.out.trans hg
        clear hg
        go_wp2
        go_ret
        exact ⟨rfl, HG.out⟩
end Go.Proofs.YtpabbmiibehfjaaGreatDoor
