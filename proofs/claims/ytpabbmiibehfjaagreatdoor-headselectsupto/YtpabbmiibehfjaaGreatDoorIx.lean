/- HeadSelects: the walk. -/
import Derived.Test.YtpabbmiibehfjaaGreatDoorIw
import Derived.Test.YtpabbmiibehfjaaGreatDoorIr
import Derived.Test.YtpabbmiibehfjaaGreatDoorGv
import Derived.Deep.CutRange
namespace Go.Proofs.YtpabbmiibehfjaaGreatDoor
open Go.RowKit Go.Maps
set_option linter.unusedVariables false
set_option maxRecDepth 20000

theorem pick_le (ls : List Lab) (L : List Ser) (j : Nat) : (pickP ls (L.take j)).length ≤ (pickP ls L).length := by
  conv => rhs; rw [← List.take_append_drop j L]
  unfold pickP
  rw [List.flatMap_append, List.length_append]
  omega
/-- A list of series of a head: each is small and has points. -/
def SmallS (L : List Ser) : Prop := ∀ s ∈ L, s.1.length ≤ 16 ∧ s.2.length ≤ 8796093022206 ∧ s.2 ≠ []
theorem sel_small {S : List Ser} (say : List Lab → Bool) (f t : Int) (h : ∀ s ∈ S, s.1.length ≤ 16 ∧ s.2.length ≤ 8796093022206) : SmallS (selS say f t S) ∧ (selS say f t S).length ≤ S.length := by
  refine ⟨fun s hs => ?_, ?_⟩
  · unfold selS at hs
    obtain ⟨x, hx, hne, rfl⟩ := keepS_mem.1 hs
    have h1 := h x (List.mem_filter.1 hx).1
    exact ⟨h1.1, Nat.le_trans (List.length_filter_le _ _) h1.2, hne⟩
  · exact Nat.le_trans (keepS_len _ _) (List.length_filter_le _ _)
theorem wrap_add (b : Int) (h1 : -9223372036854775808 ≤ b) (h2 : b < 1099511627776) : IntKind.i64.wrap (b + 1) = b + 1 := by
  simp [IntKind.wrap, IntKind.bits, IntKind.signed]
  split <;> omega
/-- The three lists. -/
structure Three (w wr : World) (a1 a2 a3 : Option Addr) (r1 r2 r3 : List (Sv × Sv)) (L1 L2 L3 : List Ser) : Prop where
  gr : w.grownBy wr none
  rd1 : SerRd wr a1 r1 L1
  rd2 : SerRd wr a2 r2 L2
  rd3 : SerRd wr a3 r3 L3
  z1 : SmallS L1 ∧ L1.length ≤ 1024
  z2 : SmallS L2 ∧ L2.length ≤ 1024
  z3 : SmallS L3 ∧ L3.length ≤ 1024
  halves : ∀ s ∈ L3, pickP s.1 L1 ++ pickP s.1 L2 = s.2
  pts : ptsN L1 + ptsN L2 = ptsN L3
theorem SmallS.bd {L : List Ser} (h : SmallS L) (hz : L.length ≤ 1024) : ptsN L ≤ 9007199254739968 := pts_bd hz (fun s hs => ⟨(h s hs).1, (h s hs).2.1⟩)
set_option maxHeartbeats 16000000 in
theorem selects_walk (a : Option Addr) (raw : List (Sv × Int × Int)) (Q : List Smp) (c : Nat) (ma : Option Addr) (ms : List Mt.Mat) (mc : Nat) (f m t : Int) (w : World) (hq : SmpRd w a raw Q) (hz : Q.length ≤ 3518437208882) (hr : SRd Mt.matE w ma ms) (hms : MatOk ms) (hm : Mt.Mx w) (hm1 : -9223372036854775808 ≤ m) :
    Calls Tryz.prog 6 #[.slice a Q.length c, .slice ma ms.length mc, .int .i64 f, .int .i64 m, .int .i64 t] w fun e w' => e = .returned (.bool true) ∧ w.grownBy w' none := by
  have HQ : Hid (SmpRd w a raw Q) := hq
  have HMR : Hid (SRd Mt.matE w ma ms) := hr
  have HMS : Hid (MatOk ms) := hms
  have HMX : Hid (Mt.Mx w) := hm
  have HN : Hid (Calls Tryz.prog 8 #[.int .i64 1024] w fun e w' => ∃ hb B, e = .returned (.pointer (some ⟨hb, 0, none⟩)) ∧ HeadAt w' w.heap.size hb 1024 0 0 [] B ∧ w.grownBy w' none) := by
    refine (h_new w.heap.size 1024 w (Nat.le_refl _)).mono ?_
    rintro e w' ⟨hb, B, rfl, hh, hg, _⟩
    rw [lim1024] at hh
    exact ⟨hb, B, rfl, hh, hg⟩
  obtain ⟨M, eM⟩ : ∃ M, M = Q.length := ⟨_, rfl⟩
  have EM : Hid (M = Q.length) := eM
  rw [← eM] at hz ⊢
  obtain ⟨mn, emn⟩ : ∃ mn, mn = ms.length := ⟨_, rfl⟩
  have EMN : Hid (ms.length = mn) := emn.symm
  rw [← emn]
  clear hq eM hr hms hm emn
  go_enter Tryz.func6, Tryz.ntmps6
  go_wp2_with fail
  refine HN.out.mono ?_
  rintro e w1 ⟨hb, B, rfl, hh, hg⟩
  have HR0 : Hid (RunAt w w1 hb 1024 (20 * 0) 0 (runS 1024 (Q.take 0)) B) := ⟨hh, hg⟩
  have HG1 : Hid (w.grownBy w1 none) := hg
  clear hh hg HN
  by_cases c1 : m < f
  · go_wp2_with fail
    refine (h_awake w1).mono ?_
    rintro e w2 ⟨rfl, hg⟩
    have HG : Hid (w.grownBy w2 none) := HG1.out.trans hg
    clear hg
    go_wp2
    go_ret
    exact ⟨rfl, HG.out⟩
  by_cases c2 : t < m
  · go_wp2_with fail
    refine (h_awake w1).mono ?_
    rintro e w2 ⟨rfl, hg⟩
    have HG : Hid (w.grownBy w2 none) := HG1.out.trans hg
    clear hg
    go_wp2
    go_ret
    exact ⟨rfl, HG.out⟩
  by_cases c3 : 1099511627776 ≤ m
  · go_wp2_with fail
    refine (h_awake w1).mono ?_
    rintro e w2 ⟨rfl, hg⟩
    have HG : Hid (w.grownBy w2 none) := HG1.out.trans hg
    clear hg
    go_wp2
    go_ret
    exact ⟨rfl, HG.out⟩
  have HWR : Hid (IntKind.i64.wrap (m + 1) = m + 1) := wrap_add m hm1 (by omega)
  have HC1 : Hid (f ≤ m) := by show _ ≤ _; omega
  have HC2 : Hid (m ≤ t) := by show _ ≤ _; omega
  go_wp2
  clear c1 c2 c3 hm1
  go_loopw [12] (fun i wr => ∃ (k : Nat) (B : Nat → Prop), k ≤ M ∧ i = .int .i64 k ∧ RunAt w wr hb 1024 (20 * k) k (runS 1024 (Q.take k)) B) (fun i _ => M - (intOf i).toNat)
  case atStart => exact ⟨0, B, Nat.zero_le _, rfl, HR0.out⟩
  case round =>
    obtain ⟨k, Bk, hk, rfl, hrun⟩ := hrel
    have HR : Hid (RunAt w wr hb 1024 (20 * k) k (runS 1024 (Q.take k)) Bk) := hrun
    clear hrun
    by_cases hlt : k < M
    · have hi : (k : Int) < (M : Int) := by omega
      obtain ⟨⟨ls, T, V⟩, hs⟩ : ∃ s, Q[k]? = some s := ⟨_, List.getElem?_eq_getElem (by have := EM.out; omega)⟩
      obtain ⟨bb, off, la, lc, rfl, c0, c1, c2, hrd, hnil, hzl⟩ := smp_cells (HQ.out.grown HR.out.grown) hs
      have HADD : Hid (Calls Tryz.prog 15 #[.pointer (some ⟨hb, 0, none⟩), .agg #[.slice la ls.length lc, .int .i64 T, .int .u64 V]] wr (AddOut wr w.heap.size hb 1024 (20 * k) k (runS 1024 (Q.take k)) Bk ls T V)) := h_add w.heap.size hb 1024 (20 * k) k _ Bk la _ lc ls T V wr HR.out.head hrd rfl hzl hnil (by omega) (by omega)
      have HNX : Hid (runS 1024 (Q.take (k + 1)) = addR 1024 (runS 1024 (Q.take k)) ls T V) := runS_next hs
      generalize ls.length = LL at c0 HADD
      clear hs hrd hnil hzl
      go_wp2_with fail
      refine HADD.out.mono ?_
      rintro e w2 ⟨rfl, B2, hh, hst⟩
      rw [← HNX.out] at hh
      have HR2 : Hid (RunAt w w2 hb 1024 (20 * k + 20) (k + 1) (runS 1024 (Q.take (k + 1))) B2) := HR.out.step hst hh
      clear hh hst HADD HR
      go_wp2
      go_roundw
      case rel => exact ⟨k + 1, B2, by omega, by go_num, HR2.out⟩
      case measure => simp [intOf]; omega
    · obtain rfl : k = M := by omega
      have hi : ¬ (k : Int) < (k : Int) := by omega
      have HP : Hid (k ≤ 8796093022206) := by show _ ≤ _; omega
      obtain ⟨kg, kl, ks⟩ := run_small HR.out HP.out
      have HTH : Hid (∀ (w4 : World) (a1 a2 a3 : Option Addr) (r1 r2 r3 : List (Sv × Sv)), w.grownBy w4 none → SerRd w4 a1 r1 (selS (Mt.saysR ms) f m (runS 1024 (Q.take k))) → SerRd w4 a2 r2 (selS (Mt.saysR ms) (m + 1) t (runS 1024 (Q.take k))) → SerRd w4 a3 r3 (selS (Mt.saysR ms) f t (runS 1024 (Q.take k))) → Three w w4 a1 a2 a3 r1 r2 r3 (selS (Mt.saysR ms) f m (runS 1024 (Q.take k))) (selS (Mt.saysR ms) (m + 1) t (runS 1024 (Q.take k))) (selS (Mt.saysR ms) f t (runS 1024 (Q.take k)))) := by
        intro w4 a1 a2 a3 r1 r2 r3 hg h1 h2 h3
        obtain ⟨s1, s2⟩ := sel_small (Mt.saysR ms) f m ks
        obtain ⟨s3, s4⟩ := sel_small (Mt.saysR ms) (m + 1) t ks
        obtain ⟨s5, s6⟩ := sel_small (Mt.saysR ms) f t ks
        exact ⟨hg, h1, h2, h3, ⟨s1, by omega⟩, ⟨s3, by omega⟩, ⟨s5, by omega⟩, fun s hs => halves kg _ HC1.out HC2.out hs, pts_halves kg _ HC1.out HC2.out⟩
      have HS1 : Hid (∀ wx, RunAt w wx hb 1024 (20 * k) k (runS 1024 (Q.take k)) Bk → Calls Tryz.prog 12 #[.pointer (some ⟨hb, 0, none⟩), .slice ma mn mc, .int .i64 f, .int .i64 m] wx fun e w' => ∃ a' c', e = .returned (.slice a' (selS (Mt.saysR ms) f m (runS 1024 (Q.take k))).length c') ∧ (∃ raw, SerRd w' a' raw (selS (Mt.saysR ms) f m (runS 1024 (Q.take k)))) ∧ RunAt w w' hb 1024 (20 * k) k (runS 1024 (Q.take k)) Bk ∧ wx.grownBy w' none) := fun wx hx => by
        rw [← EMN.out]
        refine (selectM f m hx HP.out HMR.out HMS.out HMX.out).mono ?_
        rintro e w' ⟨a', c', rfl, ho, hr, hg⟩
        obtain ⟨a9, c9, r9, e9, h9⟩ := ho.read
        simp only [Value.slice.injEq, true_and] at e9
        obtain ⟨rfl, rfl⟩ := e9
        exact ⟨a', c', rfl, ⟨r9, h9⟩, hr, hg⟩
      have HS2 : Hid (∀ wx, RunAt w wx hb 1024 (20 * k) k (runS 1024 (Q.take k)) Bk → Calls Tryz.prog 12 #[.pointer (some ⟨hb, 0, none⟩), .slice ma mn mc, .int .i64 (m + 1), .int .i64 t] wx fun e w' => ∃ a' c', e = .returned (.slice a' (selS (Mt.saysR ms) (m + 1) t (runS 1024 (Q.take k))).length c') ∧ (∃ raw, SerRd w' a' raw (selS (Mt.saysR ms) (m + 1) t (runS 1024 (Q.take k)))) ∧ RunAt w w' hb 1024 (20 * k) k (runS 1024 (Q.take k)) Bk ∧ wx.grownBy w' none) := fun wx hx => by
        rw [← EMN.out]
        refine (selectM (m + 1) t hx HP.out HMR.out HMS.out HMX.out).mono ?_
        rintro e w' ⟨a', c', rfl, ho, hr, hg⟩
        obtain ⟨a9, c9, r9, e9, h9⟩ := ho.read
        simp only [Value.slice.injEq, true_and] at e9
        obtain ⟨rfl, rfl⟩ := e9
        exact ⟨a', c', rfl, ⟨r9, h9⟩, hr, hg⟩
      have HS3 : Hid (∀ wx, RunAt w wx hb 1024 (20 * k) k (runS 1024 (Q.take k)) Bk → Calls Tryz.prog 12 #[.pointer (some ⟨hb, 0, none⟩), .slice ma mn mc, .int .i64 f, .int .i64 t] wx fun e w' => ∃ a' c', e = .returned (.slice a' (selS (Mt.saysR ms) f t (runS 1024 (Q.take k))).length c') ∧ (∃ raw, SerRd w' a' raw (selS (Mt.saysR ms) f t (runS 1024 (Q.take k)))) ∧ RunAt w w' hb 1024 (20 * k) k (runS 1024 (Q.take k)) Bk ∧ wx.grownBy w' none) := fun wx hx => by
        rw [← EMN.out]
        refine (selectM f t hx HP.out HMR.out HMS.out HMX.out).mono ?_
        rintro e w' ⟨a', c', rfl, ho, hr, hg⟩
        obtain ⟨a9, c9, r9, e9, h9⟩ := ho.read
        simp only [Value.slice.injEq, true_and] at e9
        obtain ⟨rfl, rfl⟩ := e9
        exact ⟨a', c', rfl, ⟨r9, h9⟩, hr, hg⟩
      generalize runS 1024 (Q.take k) = S at HR HTH HS1 HS2 HS3 kg kl ks
      generalize selS (Mt.saysR ms) f m S = L1 at HTH HS1
      generalize selS (Mt.saysR ms) (m + 1) t S = L2 at HTH HS2
      generalize selS (Mt.saysR ms) f t S = L3 at HTH HS3
      clear kg kl ks HC1 HC2 HQ HMR HMS HMX HR0
      have hwr := HWR.out
      go_wp2_with fail
      refine (HS1.out _ HR.out).mono ?_
      rintro e w2 ⟨a1, d1, rfl, ⟨r1, hrd1⟩, hr2, hg2⟩
      have HR2' : Hid (RunAt w w2 hb 1024 (20 * k) k S Bk) := hr2
      have HD1 : Hid (SerRd w2 a1 r1 L1) := hrd1
      clear hr2 hrd1 HR HS1 hg2
      obtain ⟨ln1, eln1⟩ : ∃ n, n = L1.length := ⟨_, rfl⟩
      have EL1 : Hid (ln1 = L1.length) := eln1
      rw [← eln1]
      clear eln1
      go_wp2_with fail
      try rw [hwr]
      refine (HS2.out _ HR2'.out).mono ?_
      rintro e w3 ⟨a2, d2, rfl, ⟨r2, hrd2⟩, hr3, hg3⟩
      have HR3' : Hid (RunAt w w3 hb 1024 (20 * k) k S Bk) := hr3
      have HD1' : Hid (SerRd w3 a1 r1 L1) := HD1.out.grown hg3
      have HD2 : Hid (SerRd w3 a2 r2 L2) := hrd2
      clear hr3 hrd2 HR2' HS2 hg3 HD1
      obtain ⟨ln2, eln2⟩ : ∃ n, n = L2.length := ⟨_, rfl⟩
      have EL2 : Hid (ln2 = L2.length) := eln2
      rw [← eln2]
      clear eln2
      go_wp2_with fail
      refine (HS3.out _ HR3'.out).mono ?_
      rintro e w4 ⟨a3, d3, rfl, ⟨r3, hrd3⟩, hr4, hg4⟩
      have HT : Hid (Three w w4 a1 a2 a3 r1 r2 r3 L1 L2 L3) := HTH.out w4 a1 a2 a3 r1 r2 r3 hr4.grown (HD1'.out.grown hg4) (HD2.out.grown hg4) hrd3
      clear hr4 hrd3 HR3' HS3 hg4 HD1' HD2 HTH hwr
      obtain ⟨ln3, eln3⟩ : ∃ n, n = L3.length := ⟨_, rfl⟩
      have EL3 : Hid (ln3 = L3.length) := eln3
      rw [← eln3]
      have hl3 : ln3 ≤ 1024 := by rw [eln3]; exact HT.out.z3.2
      have hl2 : ln2 ≤ 1024 := by rw [EL2.out]; exact HT.out.z2.2
      have hl1 : ln1 ≤ 1024 := by rw [EL1.out]; exact HT.out.z1.2
      clear eln3 hi hlt hk
      have HG0 : Hid (w4.grownBy w4 none) := World.grownBy.refl _ _
      go_wp2
      go_loopw [16, 17] (fun t i wr => ∃ k : Nat, k ≤ ln3 ∧ i = .int .i64 k ∧ t = .int .i64 (ptsN (L3.take k)) ∧ w4.grownBy wr none) (fun _ i _ => ln3 - (intOf i).toNat)
      case atStart => exact ⟨0, Nat.zero_le _, rfl, by simp [ptsN], HG0.out⟩
      case round =>
        obtain ⟨k, hk, rfl, rfl, hgo⟩ := hrel
        have HGO : Hid (w4.grownBy wr none) := hgo
        clear hgo
        by_cases hkl : k < ln3
        · have hki : (k : Int) < (ln3 : Int) := by omega
          obtain ⟨⟨ls, ps⟩, hs⟩ : ∃ s, L3[k]? = some s := ⟨_, List.getElem?_eq_getElem (by have := EL3.out; omega)⟩
          obtain ⟨sb, so, la, lc, pa0, pc0, rfl, b0, b1, rl, rp⟩ := ser_cells (HT.out.rd3.grown HGO.out) hs
          obtain ⟨z1, z2, z3⟩ := HT.out.z3.1 _ (List.mem_of_getElem? hs)
          have hhv := HT.out.halves _ (List.mem_of_getElem? hs)
          have hsum := ptsN_take hs
          have hbn := SmallS.bd (L := L3.take (k + 1)) (fun s hs => HT.out.z3.1 s (List.mem_of_mem_take hs)) (Nat.le_trans (List.length_take_le _ _) (by have := EL3.out; omega))
          simp only at b0 b1 rl rp z1 z2 z3 hhv hsum
          have HSUM0 : Hid (ptsN (L3.take (k + 1)) = ptsN (L3.take k) + ps.length) := hsum
          have HZ1 : Hid (ls.length ≤ 16) := z1
          have HZ2 : Hid (ps.length ≤ 8796093022206) := z2
          have HHV : Hid (pickP ls L1 ++ pickP ls L2 = ps) := hhv
          have HPB2 : Hid (∀ j, (pickP ls L1 ++ pickP ls (L2.take j)).length ≤ 8796093022206) := fun j => by
            have h1 := congrArg List.length hhv
            have h2 := pick_le ls L2 j
            rw [List.length_append] at h1 ⊢
            omega
          have HPBD : Hid (∀ j, (pickP ls (L1.take j)).length ≤ 8796093022206) := fun j => by
            have h1 := congrArg List.length hhv
            have h2 := pick_le ls L1 j
            rw [List.length_append] at h1
            omega
          obtain ⟨nl, enl⟩ : ∃ nl, nl = ls.length := ⟨_, rfl⟩
          obtain ⟨np, enp⟩ : ∃ np, np = ps.length := ⟨_, rfl⟩
          have ENL : Hid (ls.length = nl) := enl.symm
          have ENP : Hid (ps.length = np) := enp.symm
          have HSUM : Hid (ptsN (L3.take (k + 1)) = ptsN (L3.take k) + np) := by rw [enp]; exact hsum
          rw [hsum, ← enp] at hbn
          generalize ptsN (L3.take k) = q at HSUM hbn ⊢
          have HBN : Hid (q + np ≤ 9007199254739968) := hbn
          rw [← enl] at b0
          rw [← enp] at b1
          have hx0 := XAt.start (lv := .slice la nl lc) (World.grownBy.refl wr none)
          obtain ⟨wo, ewo⟩ : ∃ wo, wo = wr := ⟨_, rfl⟩
          have HRL : Hid (SRd labE wo la ls) := by rw [ewo]; exact rl
          have HRP : Hid (SRd pntE wo pa0 ps) := by rw [ewo]; exact rp
          have g0 : wo.cell? ⟨sb, so + k * 2, none⟩ = some (.slice la nl lc) := by rw [ewo]; exact b0
          have g1 : wo.cell? ⟨sb, so + k * 2 + 1, none⟩ = some (.slice pa0 np pc0) := by rw [ewo]; exact b1
          have HR1 : Hid (SerRd wo a1 r1 L1) := by rw [ewo]; exact HT.out.rd1.grown HGO.out
          have HR2 : Hid (SerRd wo a2 r2 L2) := by rw [ewo]; exact HT.out.rd2.grown HGO.out
          have HZZ1 : Hid (SmallS L1) := HT.out.z1.1
          have HZZ2 : Hid (SmallS L2) := HT.out.z2.1
          have HX0' : Hid (XAt wo (wr.alloc (.cells #[.slice la nl lc, .slice none 0 0] 49)) wr.heap.size (.slice la nl lc) none 0 (pickP ls (L1.take 0))) := by
            rw [ewo]
            exact hx0
          have HGO' : Hid (w4.grownBy wo none) := by rw [ewo]; exact HGO.out
          clear rl rp z1 z2 z3 hhv hsum hbn enl enp hx0 hs
          go_upto_region 14 with fail
          generalize wr.alloc (.cells #[.slice la nl lc, .slice none 0 0] 49) = wx at HX0' ⊢
          generalize wr.heap.size = xb at HX0' ⊢
          have HX0 : Hid (XAt wo wx xb (.slice la nl lc) none 0 (pickP ls (L1.take 0))) := HX0'.out
          clear HX0' b0 b1 HGO ewo
          have HGO : Hid (w4.grownBy wo none) := HGO'.out
          clear HGO'
          go_wp2
          go_loopw [19] (fun i wr => ∃ (j : Nat) (pa : Option Addr) (pc : Nat), j ≤ ln1 ∧ i = .int .i64 j ∧ XAt wo wr xb (.slice la nl lc) pa pc (pickP ls (L1.take j))) (fun i _ => ln1 - (intOf i).toNat)
          case atStart => exact ⟨0, _, _, Nat.zero_le _, rfl, HX0.out⟩
          case round =>
            obtain ⟨j, pa, pc, hj, rfl, hx⟩ := hrel
            have HXJ : Hid (XAt wo wr xb (.slice la nl lc) pa pc (pickP ls (L1.take j))) := hx
            have x0 := HXJ.out.gr.cell g0 (by simp)
            have x1 := HXJ.out.gr.cell g1 (by simp)
            clear hx HX0
            by_cases hjl : j < ln1
            · have hji : (j : Int) < (ln1 : Int) := by omega
              obtain ⟨⟨l2, p2⟩, hs2⟩ : ∃ s, L1[j]? = some s := ⟨_, List.getElem?_eq_getElem (by have := EL1.out; omega)⟩
              obtain ⟨b2, o2, la2, lc2, pa2, pc2, rfl, m0, m1, rl2, rp2⟩ := ser_cells (HR1.out.grown HXJ.out.gr) hs2
              obtain ⟨y1, y2, y3⟩ := HZZ1.out _ (List.mem_of_getElem? hs2)
              simp only at m0 m1 rl2 rp2 y1 y2 y3
              have HNX : Hid (pickP ls (L1.take (j + 1)) = (pickP ls (L1.take j)) ++ (if l2 = ls then p2 else [])) := by
                show _ = _
                rw [pick_next hs2]
              have HC : Hid (∀ n, Calls Tryz.prog 17 #[.slice la2 l2.length lc2, .slice la nl lc] (wr.drewN n) fun e w' => e = .returned (.int .i64 (cmpR l2 ls)) ∧ ∃ m, w' = (wr.drewN n).drewN m) := fun n =>
                r_compareQ la2 la l2 ls _ _ lc2 lc _ (wr.drewN n) (rl2.grown (gb_drewN wr n) (by simp)) (HRL.out.grown (HXJ.out.gr.trans (gb_drewN wr n)) (by simp)) rfl ENL.out (by omega) (by have := HZ1.out; have := ENL.out; omega) rfl
              have HCZ : Hid ((cmpR l2 ls == 0) = decide (l2 = ls)) := by
                show _ = _
                rw [Bool.eq_iff_iff, decide_eq_true_iff, ← cmp_zero, beq_iff_eq]
              have HRP2 : Hid (SRd pntE wr pa2 p2) := rp2
              have HY2 : Hid (p2.length ≤ 8796093022206) := y2
              have HY3 : Hid (p2 ≠ []) := y3
              have HPB : Hid ((pickP ls (L1.take (j + 1))).length ≤ 8796093022206) := HPBD.out (j + 1)
              obtain ⟨np2, enp2⟩ : ∃ np2, np2 = p2.length := ⟨_, rfl⟩
              have ENP2 : Hid (p2.length = np2) := enp2.symm
              rw [← enp2] at m1
              generalize cmpR l2 ls = R at HC HCZ
              generalize l2.length = nl2 at HC m0
              clear hs2 rl2 rp2 y1 y2 y3 enp2
              have hRB : (R == 0) = decide (l2 = ls) := HCZ.out
              generalize hbb : decide (l2 = ls) = bb at hRB
              have HBB : Hid (decide (l2 = ls) = bb) := hbb
              clear hbb HCZ
              go_upto_region 17 with fail
              go_cut [100] from 83 to 109 (fun t wc => t = .bool bb ∧ ∃ m, wc = wr.drewN m)
              case first =>
                go_quiet (exact Calls.quiet_of (HC.out _))
                go_wp2
                go_meet
                case rel => exact ⟨rfl, _, rfl⟩
              case rest =>
                obtain ⟨rfl, nq, rfl⟩ := hcut
                obtain ⟨w5, e5⟩ : ∃ w5, w5 = wr.drewN nq := ⟨_, rfl⟩
                rw [← e5]
                have HG5 : Hid (wr.grownBy w5 none) := by rw [e5]; exact gb_drewN wr nq
                have HX5 : Hid (XAt wo w5 xb (.slice la nl lc) pa pc (pickP ls (L1.take j))) := HXJ.out.grew HG5.out
                have u1 := HG5.out.cell m1 (by simp)
                have u0 := HX5.out.cells.2
                clear e5 hRB HC m0 m1 x0 x1
                cases bb with
                | true =>
                  have hll : l2 = ls := of_decide_eq_true HBB.out
                  have HN2 : Hid (pickP ls (L1.take (j + 1)) = (pickP ls (L1.take j)) ++ p2) := by
                    show _ = _
                    rw [HNX.out, if_pos hll]
                  have HGD : Hid (w5.grownBy w5.drew none) := gb_drew (World.grownBy.refl _ _)
                  have HX6 : Hid (XAt wo w5.drew xb (.slice la nl lc) pa pc (pickP ls (L1.take j))) := HX5.out.grew HGD.out
                  obtain ⟨qb, qo, rfl, _⟩ := HRP2.out.at (by have := List.length_pos_iff.2 HY3.out; omega)
                  have HS6 : Hid (SRd pntE w5.drew (some ⟨qb, qo, none⟩) p2) := HRP2.out.grown (HG5.out.trans HGD.out) (by simp)
                  have HO6 : Hid (SOwn pntE 51 w5.drew xb (.slice pa (pickP ls (L1.take j)).length pc) (pickP ls (L1.take j)).length (pickP ls (L1.take j))) := HX6.out.own
                  have HB6 : Hid (xb ≤ w5.drew.heap.size) := Nat.le_of_lt HX6.out.row.lt
                  have HF6 : Hid (∀ (a2 : Option Addr) (c2 : Nat) (w2 : World), SOwn pntE 51 w2 xb (.slice a2 ((pickP ls (L1.take j)).length + np2) c2) ((pickP ls (L1.take j)).length + np2) ((pickP ls (L1.take j)) ++ p2) → w5.drew.grownBy w2 (Value.ownBlock (.slice pa (pickP ls (L1.take j)).length pc)) → w2.cell? ⟨xb, 1, none⟩ = some (.slice pa (pickP ls (L1.take j)).length pc) ∧ w2.frozen? ⟨xb, 1, none⟩ = false ∧ XAt wo (w2.setCell ⟨xb, 1, none⟩ (.slice a2 ((pickP ls (L1.take j)).length + np2) c2)) xb (.slice la nl lc) a2 c2 (pickP ls (L1.take (j + 1)))) := by
                    intro a2 c2 w2 k1 k2
                    rw [HN2.out]
                    exact HX6.out.app ENP2.out k1 k2
                  have hq1 := HPB.out
                  rw [HN2.out, List.length_append, ENP2.out] at hq1
                  generalize (pickP ls (L1.take j)) = P0 at HO6 HF6 u0 hq1
                  generalize P0.length = pn at HO6 HF6 u0 hq1
                  clear hll HN2 HX5 HX6 HRP2 HXJ HPB HBB HNX HY2 HY3
                  go_wp2
                  go_region_law (refine step_append_at pntT rfl (.tmp 102) (.tmp 107) rfl xb (.slice pa pn pc) pn P0 (by simp [Act.eval]) HO6.out ⟨qb, qo, none⟩ p2 np2 pc2 (by simp [Act.eval]) ENP2.out HS6.out ?b1 ?b2 HB6.out ?_; (case b1 => omega); (case b2 => unfold maxLen; omega); intro v6 w6 ho6 hg6 hw6; obtain ⟨a6, c6, rfl⟩ := sown_slice ho6; obtain ⟨cy, fy, hdone⟩ := HF6.out a6 c6 w6 ho6 hg6; have HDN : Hid (XAt wo (w6.setCell ⟨xb, 1, none⟩ (.slice a6 (pn + np2) c6)) xb (.slice la nl lc) a6 c6 (pickP ls (L1.take (j + 1)))) := hdone; clear ho6 hg6 hw6 hdone)
                  all_goals go_wp2
                  all_goals go_roundw
                  all_goals first
                    | exact ⟨j + 1, a6, c6, by omega, by go_num, HDN.out⟩
                    | (simp [intOf]; omega)
                | false =>
                  have hll : ¬ l2 = ls := of_decide_eq_false HBB.out
                  have HX6 : Hid (XAt wo w5 xb (.slice la nl lc) pa pc (pickP ls (L1.take (j + 1)))) := by
                    rw [HNX.out, if_neg hll, List.append_nil]
                    exact HX5.out
                  clear hll HX5 HXJ HPB HBB HNX HY2 HY3 HRP2
                  go_wp2
                  go_roundw
                  case rel => exact ⟨j + 1, pa, pc, by omega, by go_num, HX6.out⟩
                  case measure => simp [intOf]; omega
            · obtain rfl : j = ln1 := by omega
              have hji : ¬ (j : Int) < (j : Int) := by omega
              have HXE : Hid (XAt wo wr xb (.slice la nl lc) pa pc (pickP ls L1)) := by
                have h := HXJ.out
                rw [List.take_of_length_le (by have := EL1.out; omega)] at h
                exact h
              clear HXJ hji
              have HX0 : Hid (XAt wo wr xb (.slice la nl lc) pa pc (pickP ls L1 ++ pickP ls (L2.take 0))) := by
                have h := HXE.out
                rw [← List.append_nil (pickP ls L1)] at h
                exact h
              clear HXE x0 x1 HPBD
              have HPBD : Hid (∀ j, (pickP ls L1 ++ pickP ls (L2.take j)).length ≤ 8796093022206) := HPB2.out
              go_wp2
              go_loopw [20] (fun i wr => ∃ (j : Nat) (pa : Option Addr) (pc : Nat), j ≤ ln2 ∧ i = .int .i64 j ∧ XAt wo wr xb (.slice la nl lc) pa pc (pickP ls L1 ++ pickP ls (L2.take j))) (fun i _ => ln2 - (intOf i).toNat)
              case atStart => exact ⟨0, _, _, Nat.zero_le _, rfl, HX0.out⟩
              case round =>
                obtain ⟨j, pa, pc, hj, rfl, hx⟩ := hrel
                have HXJ : Hid (XAt wo wr xb (.slice la nl lc) pa pc (pickP ls L1 ++ pickP ls (L2.take j))) := hx
                have x0 := HXJ.out.gr.cell g0 (by simp)
                have x1 := HXJ.out.gr.cell g1 (by simp)
                clear hx HX0
                by_cases hjl : j < ln2
                · have hji : (j : Int) < (ln2 : Int) := by omega
                  obtain ⟨⟨l2, p2⟩, hs2⟩ : ∃ s, L2[j]? = some s := ⟨_, List.getElem?_eq_getElem (by have := EL2.out; omega)⟩
                  obtain ⟨b2, o2, la2, lc2, pa2, pc2, rfl, m0, m1, rl2, rp2⟩ := ser_cells (HR2.out.grown HXJ.out.gr) hs2
                  obtain ⟨y1, y2, y3⟩ := HZZ2.out _ (List.mem_of_getElem? hs2)
                  simp only at m0 m1 rl2 rp2 y1 y2 y3
                  have HNX : Hid (pickP ls L1 ++ pickP ls (L2.take (j + 1)) = (pickP ls L1 ++ pickP ls (L2.take j)) ++ (if l2 = ls then p2 else [])) := by
                    show _ = _
                    rw [pick_next hs2]
                    exact (List.append_assoc _ _ _).symm
                  have HC : Hid (∀ n, Calls Tryz.prog 17 #[.slice la2 l2.length lc2, .slice la nl lc] (wr.drewN n) fun e w' => e = .returned (.int .i64 (cmpR l2 ls)) ∧ ∃ m, w' = (wr.drewN n).drewN m) := fun n =>
                    r_compareQ la2 la l2 ls _ _ lc2 lc _ (wr.drewN n) (rl2.grown (gb_drewN wr n) (by simp)) (HRL.out.grown (HXJ.out.gr.trans (gb_drewN wr n)) (by simp)) rfl ENL.out (by omega) (by have := HZ1.out; have := ENL.out; omega) rfl
                  have HCZ : Hid ((cmpR l2 ls == 0) = decide (l2 = ls)) := by
                    show _ = _
                    rw [Bool.eq_iff_iff, decide_eq_true_iff, ← cmp_zero, beq_iff_eq]
                  have HRP2 : Hid (SRd pntE wr pa2 p2) := rp2
                  have HY2 : Hid (p2.length ≤ 8796093022206) := y2
                  have HY3 : Hid (p2 ≠ []) := y3
                  have HPB : Hid ((pickP ls L1 ++ pickP ls (L2.take (j + 1))).length ≤ 8796093022206) := HPBD.out (j + 1)
                  obtain ⟨np2, enp2⟩ : ∃ np2, np2 = p2.length := ⟨_, rfl⟩
                  have ENP2 : Hid (p2.length = np2) := enp2.symm
                  rw [← enp2] at m1
                  generalize cmpR l2 ls = R at HC HCZ
                  generalize l2.length = nl2 at HC m0
                  clear hs2 rl2 rp2 y1 y2 y3 enp2
                  have hRB : (R == 0) = decide (l2 = ls) := HCZ.out
                  generalize hbb : decide (l2 = ls) = bb at hRB
                  have HBB : Hid (decide (l2 = ls) = bb) := hbb
                  clear hbb HCZ
                  go_upto_region 22 with fail
                  go_cut [127] from 110 to 136 (fun t wc => t = .bool bb ∧ ∃ m, wc = wr.drewN m)
                  case first =>
                    go_quiet (exact Calls.quiet_of (HC.out _))
                    go_wp2
                    go_meet
                    case rel => exact ⟨rfl, _, rfl⟩
                  case rest =>
                    obtain ⟨rfl, nq, rfl⟩ := hcut
                    obtain ⟨w5, e5⟩ : ∃ w5, w5 = wr.drewN nq := ⟨_, rfl⟩
                    rw [← e5]
                    have HG5 : Hid (wr.grownBy w5 none) := by rw [e5]; exact gb_drewN wr nq
                    have HX5 : Hid (XAt wo w5 xb (.slice la nl lc) pa pc (pickP ls L1 ++ pickP ls (L2.take j))) := HXJ.out.grew HG5.out
                    have u1 := HG5.out.cell m1 (by simp)
                    have u0 := HX5.out.cells.2
                    clear e5 hRB HC m0 m1 x0 x1
                    cases bb with
                    | true =>
                      have hll : l2 = ls := of_decide_eq_true HBB.out
                      have HN2 : Hid (pickP ls L1 ++ pickP ls (L2.take (j + 1)) = (pickP ls L1 ++ pickP ls (L2.take j)) ++ p2) := by
                        show _ = _
                        rw [HNX.out, if_pos hll]
                      have HGD : Hid (w5.grownBy w5.drew none) := gb_drew (World.grownBy.refl _ _)
                      have HX6 : Hid (XAt wo w5.drew xb (.slice la nl lc) pa pc (pickP ls L1 ++ pickP ls (L2.take j))) := HX5.out.grew HGD.out
                      obtain ⟨qb, qo, rfl, _⟩ := HRP2.out.at (by have := List.length_pos_iff.2 HY3.out; omega)
                      have HS6 : Hid (SRd pntE w5.drew (some ⟨qb, qo, none⟩) p2) := HRP2.out.grown (HG5.out.trans HGD.out) (by simp)
                      have HO6 : Hid (SOwn pntE 51 w5.drew xb (.slice pa (pickP ls L1 ++ pickP ls (L2.take j)).length pc) (pickP ls L1 ++ pickP ls (L2.take j)).length (pickP ls L1 ++ pickP ls (L2.take j))) := HX6.out.own
                      have HB6 : Hid (xb ≤ w5.drew.heap.size) := Nat.le_of_lt HX6.out.row.lt
                      have HF6 : Hid (∀ (a2 : Option Addr) (c2 : Nat) (w2 : World), SOwn pntE 51 w2 xb (.slice a2 ((pickP ls L1 ++ pickP ls (L2.take j)).length + np2) c2) ((pickP ls L1 ++ pickP ls (L2.take j)).length + np2) ((pickP ls L1 ++ pickP ls (L2.take j)) ++ p2) → w5.drew.grownBy w2 (Value.ownBlock (.slice pa (pickP ls L1 ++ pickP ls (L2.take j)).length pc)) → w2.cell? ⟨xb, 1, none⟩ = some (.slice pa (pickP ls L1 ++ pickP ls (L2.take j)).length pc) ∧ w2.frozen? ⟨xb, 1, none⟩ = false ∧ XAt wo (w2.setCell ⟨xb, 1, none⟩ (.slice a2 ((pickP ls L1 ++ pickP ls (L2.take j)).length + np2) c2)) xb (.slice la nl lc) a2 c2 (pickP ls L1 ++ pickP ls (L2.take (j + 1)))) := by
                        intro a2 c2 w2 k1 k2
                        rw [HN2.out]
                        exact HX6.out.app ENP2.out k1 k2
                      have hq1 := HPB.out
                      rw [HN2.out, List.length_append, ENP2.out] at hq1
                      generalize (pickP ls L1 ++ pickP ls (L2.take j)) = P0 at HO6 HF6 u0 hq1
                      generalize P0.length = pn at HO6 HF6 u0 hq1
                      clear hll HN2 HX5 HX6 HRP2 HXJ HPB HBB HNX HY2 HY3
                      go_wp2
                      go_region_law (refine step_append_at pntT rfl (.tmp 129) (.tmp 134) rfl xb (.slice pa pn pc) pn P0 (by simp [Act.eval]) HO6.out ⟨qb, qo, none⟩ p2 np2 pc2 (by simp [Act.eval]) ENP2.out HS6.out ?b1 ?b2 HB6.out ?_; (case b1 => omega); (case b2 => unfold maxLen; omega); intro v6 w6 ho6 hg6 hw6; obtain ⟨a6, c6, rfl⟩ := sown_slice ho6; obtain ⟨cy, fy, hdone⟩ := HF6.out a6 c6 w6 ho6 hg6; have HDN : Hid (XAt wo (w6.setCell ⟨xb, 1, none⟩ (.slice a6 (pn + np2) c6)) xb (.slice la nl lc) a6 c6 (pickP ls L1 ++ pickP ls (L2.take (j + 1)))) := hdone; clear ho6 hg6 hw6 hdone)
                      all_goals go_wp2
                      all_goals go_roundw
                      all_goals first
                        | exact ⟨j + 1, a6, c6, by omega, by go_num, HDN.out⟩
                        | (simp [intOf]; omega)
                    | false =>
                      have hll : ¬ l2 = ls := of_decide_eq_false HBB.out
                      have HX6 : Hid (XAt wo w5 xb (.slice la nl lc) pa pc (pickP ls L1 ++ pickP ls (L2.take (j + 1)))) := by
                        rw [HNX.out, if_neg hll, List.append_nil]
                        exact HX5.out
                      clear hll HX5 HXJ HPB HBB HNX HY2 HY3 HRP2
                      go_wp2
                      go_roundw
                      case rel => exact ⟨j + 1, pa, pc, by omega, by go_num, HX6.out⟩
                      case measure => simp [intOf]; omega
                · obtain rfl : j = ln2 := by omega
                  have hji : ¬ (j : Int) < (j : Int) := by omega
                  have HXE : Hid (XAt wo wr xb (.slice la nl lc) pa pc (pickP ls L1 ++ pickP ls L2)) := by
                    have h := HXJ.out
                    rw [List.take_of_length_le (by have := EL2.out; omega)] at h
                    exact h
                  clear HXJ hji
                  have HXF : Hid (XAt wo wr xb (.slice la nl lc) pa pc ps) := by
                    have hxe := HXE.out
                    rw [HHV.out] at hxe
                    exact hxe
                  have HSP : Hid (∀ n, Calls Tryz.prog 20 #[.slice pa np pc, .slice pa0 np pc0] (wr.drewN n) fun e w' => e = .returned (.bool true) ∧ ∃ m, w' = (wr.drewN n).drewN m) := fun n => by
                    have h := psameQ pa pa0 ps ps pc pc0 (wr.drewN n) (SOwn.rd (HXF.out.grew (gb_drewN wr n)).own) (HRP.out.grown (HXF.out.gr.trans (gb_drewN wr n)) (by simp)) (by have := HZ2.out; omega)
                    rw [ENP.out, decide_eq_true (rfl : ps = ps)] at h
                    exact h
                  have yy1 := HXF.out.cells.2
                  rw [ENP.out] at yy1
                  clear HXE
                  go_upto_region 24 with fail
                  go_cut [145] from 71 to 150 (fun t wc => t = .bool false ∧ ∃ m, wc = wr.drewN m)
                  case first =>
                    go_quiet (exact Calls.quiet_of (HSP.out _))
                    go_wp2
                    go_meet
                    case rel => exact ⟨rfl, _, rfl⟩
                  case rest =>
                    obtain ⟨rfl, nq, rfl⟩ := hcut
                    obtain ⟨w7, e7⟩ : ∃ w7, w7 = wr.drewN nq := ⟨_, rfl⟩
                    rw [← e7]
                    have HG7 : Hid (wr.grownBy w7 none) := by rw [e7]; exact gb_drewN wr nq
                    have z1 := HG7.out.cell yy1 (by simp)
                    have HGX : Hid (w4.grownBy w7 none) := (HGO.out.trans HXF.out.gr).trans HG7.out
                    clear e7 yy1 x0 x1 HSP HXF HG7 g0 g1
                    have hb1 := HBN.out
                    go_wp2
                    go_roundw
                    case rel => exact ⟨k + 1, by omega, by go_num, by rw [HSUM.out]; go_num, HGX.out⟩
                    case measure => simp [intOf]; omega
        · obtain rfl : k = ln3 := by omega
          have hki : ¬ (k : Int) < (k : Int) := by omega
          have hpt := HT.out.pts
          have hpb := SmallS.bd HT.out.z3.1 HT.out.z3.2
          have HP1 : Hid (Calls Tryz.prog 19 #[.slice a1 ln1 d1] wr fun e w' => e = .returned (.int .i64 (ptsN L1)) ∧ wr = w') := by
            rw [EL1.out]
            exact h_points a1 r1 L1 d1 wr (HT.out.rd1.grown HGO.out) HT.out.z1.2 (fun s hs => by have := (HT.out.z1.1 s hs).2.1; omega)
          have HP2 : Hid (Calls Tryz.prog 19 #[.slice a2 ln2 d2] wr fun e w' => e = .returned (.int .i64 (ptsN L2)) ∧ wr = w') := by
            rw [EL2.out]
            exact h_points a2 r2 L2 d2 wr (HT.out.rd2.grown HGO.out) HT.out.z2.2 (fun s hs => by have := (HT.out.z2.1 s hs).2.1; omega)
          have HGW : Hid (w.grownBy wr none) := HT.out.gr.trans HGO.out
          rw [List.take_of_length_le (by have := EL3.out; omega)]
          generalize ptsN L1 = n1 at hpt HP1
          generalize ptsN L2 = n2 at hpt HP2
          generalize ptsN L3 = n3 at hpt hpb ⊢
          subst hpt
          go_wp2_with fail
          refine HP1.out.mono ?_
          rintro e w9 ⟨rfl, rfl⟩
          go_wp2_with fail
          refine HP2.out.mono ?_
          rintro e w9 ⟨rfl, rfl⟩
          clear HP1 HP2
          go_wp2_with fail
          refine (h_awake wr).mono ?_
          rintro e w10 ⟨rfl, hg⟩
          have HG : Hid (w.grownBy w10 none) := HGW.out.trans hg
          clear hg
          go_wp2
          go_ret
          exact ⟨rfl, HG.out⟩
end Go.Proofs.YtpabbmiibehfjaaGreatDoor
