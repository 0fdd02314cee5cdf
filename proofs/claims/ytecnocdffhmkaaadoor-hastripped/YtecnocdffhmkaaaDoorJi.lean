/- HaStripped: the walk. (Printed by mk_ji.py.) -/
import Derived.Test.YtecnocdffhmkaaaDoorJh
import Derived.Deep.CutRange
import Derived.Deep.Cut
namespace Go.Proofs.YtecnocdffhmkaaaDoor
open Go.RowKit
set_option linter.unusedVariables false
set_option maxRecDepth 20000

set_option maxHeartbeats 16000000 in
theorem haStripped_walk (a : Option Addr) (raw : List (Sv × Int × Int)) (Q : List Smp) (L c : Nat) (at_ : Int) (value : ByteArray) (w : World) (hq : SmpRd w a raw Q) (hL : Q.length = L) (hz : L ≤ 3518437208882) (hsm : ∀ s ∈ Q, s.1.length ≤ 4398046510976) (htab : Tab w) :
    Calls Tryd.prog 6 #[.slice a L c, .int .i64 at_, .string value] w fun e w' => e = .returned (.bool true) ∧ w.grownBy w' none := by
  have HT : Hid (Tab w) := htab
  have HAW : Hid (∀ w1, w.grownBy w1 none → Calls Tryd.prog 13 #[] w1 fun e w' => e = .returned (.bool true) ∧ w1.grownBy w' none) := fun w1 hg => h_awake w1 (HT.out.grown hg)
  have HQ : Hid (SmpRd w a raw Q) := hq
  have HL : Hid (Q.length = L) := hL
  have HSM : Hid (∀ s ∈ Q, s.1.length ≤ 4398046510976) := hsm
  have HCP : Hid (∀ w1, w.grownBy w1 none → Calls Tryd.prog 9 #[.slice a L c] w1 fun e w' => ∃ a' c' raw', e = .returned (.slice a' L c') ∧ Hid (SmsOwn w' w1.heap.size (.slice a' L c') Q raw') ∧ Hid (w1.grownBy w' none)) := fun w1 hg => (scopy a raw Q L c w1 (hq.grown hg) hL hz).mono fun e w' ⟨a', c', raw', h1, h2, h3⟩ => ⟨a', c', raw', h1, h2, h3⟩
  obtain ⟨C, R, Z, E, hS⟩ : ∃ C R Z E, splitR Q = (C, R, Z, E) := ⟨_, _, _, _, rfl⟩
  have HF : Hid (∀ (w1 : World) (a' : Option Addr) (c' : Nat) (raw' : List (Sv × Int × Int)), SmpRd w1 a' raw' Q → Calls Tryd.prog 10 #[.slice a' L c'] w1 fun e w' => SpOut w1 C R Z E e w') := fun w1 a' c' raw' h => f_split a' raw' Q L c' C R Z E w1 h hL hz hS
  have HLO : Hid (∀ u, Calls Tryd.prog 28 #[.int .i64 at_] u fun e w' => ∃ r, e = .returned (.int .i64 r) ∧ 0 ≤ r ∧ r ≤ 9223372036854775807 ∧ u = w') := Low_any at_
  unfold splitR at hS
  have hn0 : (noB.toList == []) = true := by rw [str_ne0]; simp
  by_cases hb : someB rpB Q = false
  · rw [if_pos hb] at hS
    cases hS
    have HSS : Hid (∀ (w1 : World) (a' : Option Addr) (c' : Nat) (raw' : List (Sv × Int × Int)), w.grownBy w1 none → SmpRd w1 a' raw' Q → Calls Tryd.prog 11 #[.slice a' L c', .slice a L c] w1 fun e w' => e = .returned (.bool true) ∧ w1.grownBy w' none) := fun w1 a' c' raw' hg h => by
      have h2 := ssame a' a raw' raw Q Q L L c' c w1 h (HQ.out.grown hg) HL.out HL.out hz
      rw [decide_eq_true rfl] at h2
      exact h2
    clear hq hsm htab hb HLO
    go_enter Tryd.func6, Tryd.ntmps6
    go_wp2_with fail
    refine (HCP.out w (World.grownBy.refl _ _)).mono ?_
    rintro e w1 ⟨a1, c1, raw1, rfl, HO1, HG1⟩
    go_wp2_with fail
    refine (HF.out w1 a1 c1 raw1 HO1.out.rd.1).mono ?_
    rintro e w2 ⟨a2, c2, raw2, rfl, ho2, hg2⟩
    rw [hL] at ho2 ⊢
    have HO2 : Hid (SmsOwn w2 w1.heap.size (.slice a2 L c2) Q raw2) := ho2
    have HG2 : Hid (w.grownBy w2 none) := HG1.out.trans hg2
    clear ho2 hg2 hL
    go_wp2_with fail
    refine (HSS.out w2 a2 c2 raw2 HG2.out HO2.out.rd.1).mono ?_
    rintro e w3 ⟨rfl, hg3⟩
    have HG3 : Hid (w.grownBy w3 none) := HG2.out.trans hg3
    clear hg3
    go_wp2_with (go_at_call 13; refine (HAW.out _ HG3.out).mono ?_; rintro e w9 ⟨rfl, hg9⟩)
    go_ret
    exact ⟨rfl, HG3.out.trans hg9⟩
  rw [if_neg hb] at hS
  by_cases hcr : comR clB Q = noB ∨ comR rpB Q = noB
  · rw [if_pos hcr] at hS
    cases hS
    clear hq hsm htab hb HLO hL hcr
    go_enter Tryd.func6, Tryd.ntmps6
    go_wp2_with fail
    refine (HCP.out w (World.grownBy.refl _ _)).mono ?_
    rintro e w1 ⟨a1, c1, raw1, rfl, HO1, HG1⟩
    go_wp2_with fail
    refine (HF.out w1 a1 c1 raw1 HO1.out.rd.1).mono ?_
    rintro e w2 ⟨a2, c2, raw2, rfl, ho2, hg2⟩
    have HG2 : Hid (w.grownBy w2 none) := HG1.out.trans hg2
    clear ho2 hg2
    go_wp2_with (go_at_call 13; refine (HAW.out _ HG2.out).mono ?_; rintro e w9 ⟨rfl, hg9⟩)
    go_ret
    exact ⟨rfl, HG2.out.trans hg9⟩
  rw [if_neg hcr] at hS
  have hcl : comR clB Q ≠ noB := fun h => hcr (.inl h)
  have hrp : comR rpB Q ≠ noB := fun h => hcr (.inr h)
  have HGC : Hid (∀ s ∈ Q, getR s.1 clB = comR clB Q) := com_all clB Q hcl
  have HGR : Hid (∀ s ∈ Q, getR s.1 rpB = comR rpB Q) := com_all rpB Q hrp
  have HBAD : Hid (∀ (k : Nat) (ls : List Lab) (T U : Int), Q[k]? = some (ls, T, U) → 2 ≤ Q.length → value ≠ comR rpB Q → splitR (Q.set k (withR ls rpB value, T, U)) = (noB, noB, [], 160)) := fun k ls T U h1 h2 h3 => strip_bad hrp h2 h1 h3
  cases hS
  have hr0 := str_ne0 (comR rpB Q)
  rw [decide_eq_false hrp] at hr0
  have hvr := str_eq value (comR rpB Q)
  generalize comR clB Q = C at HF HGC
  generalize comR rpB Q = R at HF HGR HBAD hr0 hvr
  obtain ⟨Zs, hZs⟩ : ∃ Zs, Q.map (stripN [rpB]) = Zs := ⟨_, rfl⟩
  have HZS : Hid (Q.map (stripN [rpB]) = Zs) := hZs
  have hZL : Zs.length = L := by rw [← hZs, List.length_map, hL]
  rw [hZs] at HF
  clear hq hsm htab hb hcr hcl hrp hn0 hL hZs
  go_enter Tryd.func6, Tryd.ntmps6
  go_wp2_with fail
  refine (HCP.out w (World.grownBy.refl _ _)).mono ?_
  rintro e w1 ⟨a1, c1, raw1, rfl, HO1, HG1⟩
  go_wp2_with fail
  refine (HF.out w1 a1 c1 raw1 HO1.out.rd.1).mono ?_
  rintro e w2 ⟨a2, c2, raw2, rfl, ho2, hg2⟩
  rw [hZL] at ho2 ⊢
  have HO2 : Hid (SmpRd w2 a2 raw2 Zs) := ho2.rd.1
  have HG2 : Hid (w.grownBy w2 none) := HG1.out.trans hg2
  clear ho2 hg2 HF hZL
  go_wp2
  go_loopw [11] (fun t11 wr => ∃ j : Nat, j ≤ L ∧ t11 = .int .i64 j ∧ w2.grownBy wr none) (fun t11 _ => L - (intOf t11).toNat)
  case atStart => exact ⟨0, Nat.zero_le _, rfl, World.grownBy.refl _ _⟩
  case round =>
    rename World => V
    obtain ⟨j, hj, rfl, hg⟩ := hrel
    have HG : Hid (w2.grownBy V none) := hg
    clear hg
    by_cases hlt : j < L
    · have hki : (j : Int) < (L : Int) := by omega
      have hl := HL.out
      obtain ⟨⟨ls, T, U⟩, ex⟩ : ∃ x, Q[j]? = some x := ⟨_, List.getElem?_eq_getElem (by omega)⟩
      have ez : Zs[j]? = some (someR ls [rpB] false, T, U) := by rw [← HZS.out, List.getElem?_map, ex]; rfl
      obtain ⟨b1, f1, la, lc, rfl, x0, x1, x2, hsr, hnil, hll⟩ := smp_cells (HQ.out.grown (HG2.out.trans HG.out)) ex
      obtain ⟨b2, f2, la2, lc2, rfl, y0, y1, y2, hsr2, hnil2, hll2⟩ := smp_cells (HO2.out.grown HG.out) ez
      have gC : getR ls clB = C := HGC.out _ (List.mem_of_getElem? ex)
      have gR : getR ls rpB = R := HGR.out _ (List.mem_of_getElem? ex)
      obtain ⟨n1, en1⟩ : ∃ n1, ls.length = n1 := ⟨_, rfl⟩
      obtain ⟨Rs, eRs⟩ : ∃ Rs, someR ls [rpB] false = Rs := ⟨_, rfl⟩
      rw [eRs] at hsr2 hll2 y0
      obtain ⟨n2, en2⟩ : ∃ n2, Rs.length = n2 := ⟨_, rfl⟩
      rw [en1] at x0 hll
      rw [en2] at y0 hll2
      have KC : Hid (∀ w', V.grownBy w' none → w'.cell? ⟨b2, f2 + j * 3, none⟩ = some (.slice la2 n2 lc2) ∧ w'.cell? ⟨b2, f2 + j * 3 + 1, none⟩ = some (.int .i64 T) ∧ w'.cell? ⟨b2, f2 + j * 3 + 2, none⟩ = some (.int .u64 U) ∧ w'.cell? ⟨b1, f1 + j * 3, none⟩ = some (.slice la n1 lc) ∧ w'.cell? ⟨b1, f1 + j * 3 + 1, none⟩ = some (.int .i64 T) ∧ w'.cell? ⟨b1, f1 + j * 3 + 2, none⟩ = some (.int .u64 U)) := fun u h => ⟨h.cell y0 (by simp), h.cell y1 (by simp), h.cell y2 (by simp), h.cell x0 (by simp), h.cell x1 (by simp), h.cell x2 (by simp)⟩
      have KE : Hid (∀ u w', Hid (V.grownBy u none) → u.grownBy w' none → Hid (V.grownBy w' none) ∧ w'.cell? ⟨b2, f2 + j * 3, none⟩ = some (.slice la2 n2 lc2) ∧ w'.cell? ⟨b2, f2 + j * 3 + 1, none⟩ = some (.int .i64 T) ∧ w'.cell? ⟨b2, f2 + j * 3 + 2, none⟩ = some (.int .u64 U) ∧ w'.cell? ⟨b1, f1 + j * 3, none⟩ = some (.slice la n1 lc) ∧ w'.cell? ⟨b1, f1 + j * 3 + 1, none⟩ = some (.int .i64 T) ∧ w'.cell? ⟨b1, f1 + j * 3 + 2, none⟩ = some (.int .u64 U)) := fun u u' h hg => ⟨h.out.trans hg, KC.out u' (h.out.trans hg)⟩
      have HDR : Hid (V.grownBy V.drew none) := gb_drewN V 1
      have HDA : Hid (V.grownBy (V.drew.alloc (.cells #[.string rpB] 9)) none) := HDR.out.trans (World.grownBy_alloc _ _ none)
      obtain ⟨p0, p1, p2, p3, p4, p5⟩ := KC.out _ HDA.out
      have H26 : Hid (Calls Tryd.prog 26 #[.slice la n1 lc, .slice (some ⟨V.heap.size, 0, none⟩) 1 1, .bool false] (V.drew.alloc (.cells #[.string rpB] 9)) fun e w' => ∃ a' c', e = .returned (.slice a' n2 c') ∧ Hid (SRd labE w' a' Rs) ∧ Hid (V.grownBy w' none) ∧ w'.cell? ⟨b2, f2 + j * 3, none⟩ = some (.slice la2 n2 lc2) ∧ w'.cell? ⟨b2, f2 + j * 3 + 1, none⟩ = some (.int .i64 T) ∧ w'.cell? ⟨b2, f2 + j * 3 + 2, none⟩ = some (.int .u64 U) ∧ w'.cell? ⟨b1, f1 + j * 3, none⟩ = some (.slice la n1 lc) ∧ w'.cell? ⟨b1, f1 + j * 3 + 1, none⟩ = some (.int .i64 T) ∧ w'.cell? ⟨b1, f1 + j * 3 + 2, none⟩ = some (.int .u64 U)) := by
        have h := r_some la (some ⟨V.drew.heap.size, 0, none⟩) ls [rpB] n1 1 lc 1 false (V.drew.alloc (.cells #[.string rpB] 9)) (hsr.grown HDA.out (by simp)) (tlit V.drew [rpB]) en1 rfl hll (by omega)
        rw [eRs] at h
        refine h.mono ?_
        rintro e w' ⟨v, n, rfl, h2, h3⟩
        have hln := SOwn.len h2
        obtain ⟨a', c', rfl⟩ := sown_slice h2
        obtain rfl : n = n2 := by omega
        exact ⟨a', c', rfl, SOwn.rd h2, KE.out _ w' HDA h3⟩
      have H25 : Hid (∀ (u : World) (a' : Option Addr) (c' : Nat), Hid (V.grownBy u none) → Hid (SRd labE u a' Rs) → Calls Tryd.prog 25 #[.slice la2 n2 lc2, .slice a' n2 c'] u fun e w' => e = .returned (.bool true) ∧ Hid (V.grownBy w' none) ∧ w'.cell? ⟨b2, f2 + j * 3, none⟩ = some (.slice la2 n2 lc2) ∧ w'.cell? ⟨b2, f2 + j * 3 + 1, none⟩ = some (.int .i64 T) ∧ w'.cell? ⟨b2, f2 + j * 3 + 2, none⟩ = some (.int .u64 U) ∧ w'.cell? ⟨b1, f1 + j * 3, none⟩ = some (.slice la n1 lc) ∧ w'.cell? ⟨b1, f1 + j * 3 + 1, none⟩ = some (.int .i64 T) ∧ w'.cell? ⟨b1, f1 + j * 3 + 2, none⟩ = some (.int .u64 U)) := fun u a' c' h h1 => by
        have h2 := lsameQ la2 a' Rs Rs n2 n2 lc2 c' u (hsr2.grown h.out (by simp)) h1.out en2 en2 (by omega)
        rw [decide_eq_true rfl] at h2
        refine h2.mono ?_
        rintro e w' ⟨rfl, m, rfl⟩
        exact ⟨rfl, KE.out u _ h (gb_drewN u m)⟩
      have H27 : Hid (∀ (nm : ByteArray) (u : World), Hid (V.grownBy u none) → Calls Tryd.prog 27 #[.slice la n1 lc, .string nm] u fun e w' => e = .returned (.string (getR ls nm)) ∧ Hid (V.grownBy w' none) ∧ w'.cell? ⟨b2, f2 + j * 3, none⟩ = some (.slice la2 n2 lc2) ∧ w'.cell? ⟨b2, f2 + j * 3 + 1, none⟩ = some (.int .i64 T) ∧ w'.cell? ⟨b2, f2 + j * 3 + 2, none⟩ = some (.int .u64 U) ∧ w'.cell? ⟨b1, f1 + j * 3, none⟩ = some (.slice la n1 lc) ∧ w'.cell? ⟨b1, f1 + j * 3 + 1, none⟩ = some (.int .i64 T) ∧ w'.cell? ⟨b1, f1 + j * 3 + 2, none⟩ = some (.int .u64 U)) := fun nm u h => (r_get la ls n1 lc nm _ u (hsr.grown h.out (by simp)) en1 (by omega) rfl).mono fun e w' ⟨h1, h2⟩ => ⟨h1, KE.out u w' h (h2 ▸ World.grownBy.refl _ _)⟩
      have q1 : ((getR ls ⟨#[99, 108, 117, 115, 116, 101, 114]⟩).toList != C.toList) = false := by rw [show getR ls ⟨#[99, 108, 117, 115, 116, 101, 114]⟩ = C from gC]; simp
      have q2 : ((getR ls ⟨#[114, 101, 112, 108, 105, 99, 97]⟩).toList != R.toList) = false := by rw [show getR ls ⟨#[114, 101, 112, 108, 105, 99, 97]⟩ = R from gR]; simp
      have q3 : ((getR ls ⟨#[99, 108, 117, 115, 116, 101, 114]⟩).toList == C.toList) = true := by rw [show getR ls ⟨#[99, 108, 117, 115, 116, 101, 114]⟩ = C from gC]; simp
      have q4 : ((getR ls ⟨#[114, 101, 112, 108, 105, 99, 97]⟩).toList == R.toList) = true := by rw [show getR ls ⟨#[114, 101, 112, 108, 105, 99, 97]⟩ = R from gR]; simp
      have q5 : (T != T) = false := by simp
      have q6 : (U != U) = false := by simp
      clear ex ez hsr hsr2 hnil hnil2 hl gC gR en1 en2 eRs KC KE
      generalize getR ls = G at H27 q1 q2 q3 q4
      go_wp2_with fail
      go_cut [124] from 59 to 124 (fun t124 wx => t124 = .bool false ∧ V.grownBy wx none)
      case first =>
        go_region_held3 (fun u => Hid (V.grownBy u none) ∧ u.cell? ⟨b2, f2 + j * 3, none⟩ = some (.slice la2 n2 lc2) ∧ u.cell? ⟨b2, f2 + j * 3 + 1, none⟩ = some (.int .i64 T) ∧ u.cell? ⟨b2, f2 + j * 3 + 2, none⟩ = some (.int .u64 U) ∧ u.cell? ⟨b1, f1 + j * 3, none⟩ = some (.slice la n1 lc) ∧ u.cell? ⟨b1, f1 + j * 3 + 1, none⟩ = some (.int .i64 T) ∧ u.cell? ⟨b1, f1 + j * 3 + 2, none⟩ = some (.int .u64 U)) (first | exact ⟨HDR, y0, y1, y2, x0, x1, x2⟩ | (refine ⟨?_, ?_, ?_, ?_, ?_, ?_, ?_⟩ <;> assumption)) (first
          | (go_at_call 26; refine H26.out.mono ?_; rintro e z26 ⟨a6, c6, rfl, o6, s26, i26, j26, k26, l26, m26, n26⟩)
          | (go_at_call 25; refine (H25.out _ a6 c6 ?h1 o6).mono ?_; (case h1 => first | exact HDR | exact HDA | assumption); rintro e z25 ⟨rfl, s25, i25, j25, k25, l25, m25, n25⟩)
          | (go_at_call 27; refine (H27.out _ _ ?h1).mono ?_; (case h1 => first | exact HDR | exact HDA | assumption); rintro e z27 ⟨rfl, s27, i27, j27, k27, l27, m27, n27⟩))
        all_goals (go_wp2_with fail; go_meet)
        all_goals (first | exact ⟨rfl, s27.out⟩)
      case rest =>
        obtain ⟨rfl, hgx⟩ := hcut
        have HGX : Hid (w2.grownBy wc none) := HG.out.trans hgx
        clear hgx x0 x1 x2 y0 y1 y2 p0 p1 p2 p3 p4 p5 H26 H25 H27 q1 q2 q3 q4 q5 q6 HDR HDA
        go_wp2
        go_roundw
        case rel => exact ⟨j + 1, by omega, by go_num, HGX.out⟩
        case measure => simp [intOf]; omega
    · obtain rfl : j = L := by omega
      have hki : ¬ (j : Int) < (j : Int) := by omega
      have HGV : Hid (w.grownBy V none) := HG2.out.trans HG.out
      clear HGC HGR
      by_cases h2 : j < 2
      · have q1 : decide ((j : Int) < 2) = true := by simp; omega
        clear hvr
        go_wp2_with (go_at_call 13; refine (HAW.out _ HGV.out).mono ?_; rintro e w9 ⟨rfl, hg9⟩)
        go_ret
        exact ⟨rfl, HGV.out.trans hg9⟩
      · have q1 : decide ((j : Int) < 2) = false := by simp; omega
        by_cases hv : value = R
        · rw [decide_eq_true hv] at hvr
          clear hv
          go_wp2_with (go_at_call 13; refine (HAW.out _ HGV.out).mono ?_; rintro e w9 ⟨rfl, hg9⟩)
          go_ret
          exact ⟨rfl, HGV.out.trans hg9⟩
        · rw [decide_eq_false hv] at hvr
          have HVN : Hid (value ≠ R) := hv
          clear hv
          go_wp2_with fail
          refine (HCP.out V HGV.out).mono ?_
          rintro e w3 ⟨a3, c3, raw3, rfl, HO3, HG3⟩
          go_wp2_with fail
          refine (HLO.out w3).mono ?_
          rintro e w3' ⟨r, rfl, hr1, hr2, rfl⟩
          obtain ⟨k, hrem, hk⟩ : ∃ k : Nat, r.tmod (j : Int) = (k : Int) ∧ k < j := by
            have h2 := Int.tmod_nonneg (j : Int) hr1
            have h3 := Int.tmod_lt_of_pos r (by omega : (0 : Int) < (j : Int))
            exact ⟨(r.tmod j).toNat, by omega, by omega⟩
          have hrem' : r % (j : Int) = (k : Int) := by rw [← hrem]; exact (Int.tmod_eq_emod_of_nonneg hr1).symm
          have hL0 : ¬ j = 0 := by omega
          have hL1 : ((j : Int) == 0) = false := by simp; omega
          have hki2 : (k : Int) < (j : Int) := by omega
          obtain ⟨⟨ls, T, U⟩, ex⟩ : ∃ x, Q[k]? = some x := ⟨_, List.getElem?_eq_getElem (by have := HL.out; omega)⟩
          obtain ⟨hrd, _, hlen⟩ := HO3.out.rd
          obtain ⟨X, cX, eX, hX1, hX2, hX3, hX4⟩ := SOwn.some HO3.out.row (by simp; have := HL.out; omega)
          have eX2 : a3 = some ⟨X, 0, none⟩ := by simp only [Value.slice.injEq] at eX; exact eX.1
          subst eX2
          clear eX
          obtain ⟨b3, f3, la3, lc3, e3, s0, s1, s2, hsr3, _, _⟩ := smp_cells hrd ex
          cases e3
          simp only [Nat.zero_add] at s0
          have hsl : ls.length ≤ 4398046510976 := HSM.out _ (List.mem_of_getElem? ex)
          have hrow := HO3.out.row
          rw [hlen] at hrow
          have f0 := sown_free hrow (k * 3)
          obtain ⟨n3, en3⟩ : ∃ n3, ls.length = n3 := ⟨_, rfl⟩
          rw [en3] at s0
          have HWI : Hid (Calls Tryd.prog 29 #[.slice la3 n3 lc3, .string rpB, .string value] w3 fun e w' => ∃ v n, e = .returned v ∧ SOwn labE 63 w' w3.heap.size v n (withR ls rpB value) ∧ w3.grownBy w' none) := r_with la3 ls n3 lc3 rpB value w3 hsr3 en3 (by omega)
          have HEX : Hid (Q[k]? = some (ls, T, U)) := ex
          have HWL : Hid ((withR ls rpB value).length ≤ 4398046511000) := Nat.le_trans (withR_len ls rpB value) (by omega)
          have HX : Hid (X < w3.heap.size) := hX2
          have HXV : Hid (V.heap.size ≤ X) := hX1
          have HF0 : Hid (w3.frozen? ⟨X, k * 3, none⟩ = false) := f0
          clear ex hrd hlen hsr3 hsl hrow en3 hX1 hX2 hX3 hX4 s1 s2 f0
          go_wp2_with fail
          refine HWI.out.mono ?_
          rintro e w5 ⟨v5, n5, rfl, ho5, hg5⟩
          obtain ⟨a5, c5, rfl⟩ := sown_slice ho5
          have HO5 : Hid (SOwn labE 63 w5 w3.heap.size (.slice a5 n5 c5) n5 (withR ls rpB value)) := ho5
          have HG5 : Hid (w3.grownBy w5 none) := hg5
          have t0 : w5.cell? ⟨X, k * 3, none⟩ = some (.slice la3 n3 lc3) := hg5.cell s0 (by simp)
          have tf : w5.frozen? ⟨X, k * 3, none⟩ = false := by
            have hb := hg5.block X HX.out (by simp)
            have h := HF0.out
            simp only [World.frozen?] at h ⊢
            rw [hb]
            exact h
          clear ho5 hg5 s0
          obtain ⟨W6, hW6⟩ : ∃ W6, w5.setCell ⟨X, k * 3, none⟩ (.slice a5 n5 c5) = W6 := ⟨_, rfl⟩
          have HW6 : Hid (w5.setCell ⟨X, k * 3, none⟩ (.slice a5 n5 c5) = W6) := hW6
          have HG6 : Hid (w.grownBy W6 none) := by
            rw [← hW6]
            exact gb_trans (row' := some X) ((HGV.out.trans HG3.out).trans HG5.out) (gb_set rfl) (fun k hk => .inl (by cases hk; have h1 := HXV.out; have h2 := HGV.out.size; omega))
          have HS6 : Hid (SmpRd W6 (some ⟨X, 0, none⟩) (raw3.set k ((a5, n5, c5), T, U)) (Q.set k (withR ls rpB value, T, U))) := by
            rw [← hW6]
            have h5 := sown_past (j := k * 3) HO5.out HX.out (.slice a5 n5 c5)
            refine own_set1 (HO3.out.grown HG5.out) HEX.out ⟨(SOwn.len h5).symm, SOwn.rd h5, (sown_cap h5).2, HWL.out, rfl⟩
          have HSP6 : Hid (∀ c', Calls Tryd.prog 10 #[.slice (some ⟨X, 0, none⟩) j c'] W6 fun e w' => SpOut W6 noB noB [] 160 e w') := fun c' => f_split _ _ _ j c' _ _ _ _ W6 HS6.out (by rw [List.length_set]; exact HL.out) hz (HBAD.out k ls T U HEX.out (by have := HL.out; omega) HVN.out)
          clear hW6
          go_upto_region 18 with fail
          (try rw [HW6.out])
          clear t0 tf
          go_wp2_with fail
          refine (HSP6.out _).mono ?_
          rintro e w7 ⟨a7, c7, raw7, rfl, ho7, hg7⟩
          have HG7 : Hid (w.grownBy w7 none) := HG6.out.trans hg7
          clear ho7 hg7
          go_wp2_with (go_at_call 13; refine (HAW.out _ HG7.out).mono ?_; rintro e w9 ⟨rfl, hg9⟩)
          go_ret
          exact ⟨rfl, HG7.out.trans hg9⟩
end Go.Proofs.YtecnocdffhmkaaaDoor
