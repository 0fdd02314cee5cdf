/- Points are read back from their bytes; points that differ have bytes that differ. -/
import Derived.Test.YtacpibidkfbojaaDoorKwalk
import Derived.Deep.RegionWith
import Derived.Deep.RegionHeld3
namespace Go.Proofs.YtacpibidkfbojaaDoor
open Go.ChangeShapes Go.WideShapes Go.ChangeAt Go.RowKit
set_option linter.unusedVariables false

theorem pflat_set : ∀ (l : List Pnt) (k : Nat) (t u v : Int), l[k]? = some (t, u) → pntE.flat (l.set k (t, v)) = (pntE.flat l).set (k * 2 + 1) (.int .u64 v)
  | [], k, t, u, v, h => by simp at h
  | q :: r, 0, t, u, v, h => by
    simp only [List.getElem?_cons_zero, Option.some.injEq] at h
    subst h
    rfl
  | q :: r, k + 1, t, u, v, h => by
    simp only [List.getElem?_cons_succ] at h
    have ih := pflat_set r k t u v h
    have e : ∀ (p : Pnt) (s : List Pnt), pntE.flat (p :: s) = .int .i64 p.1 :: .int .u64 p.2 :: pntE.flat s := fun p s => rfl
    rw [List.set_cons_succ, e, e, ih, show (k + 1) * 2 + 1 = (k * 2 + 1) + 1 + 1 from by omega, List.set_cons_succ, List.set_cons_succ]
theorem okTs_set : ∀ (l : List Pt) (s : Int) (k : Nat) (t u v : Int), l[k]? = some (t, u) → okTs s (l.set k (t, v)) = okTs s l
  | [], s, k, t, u, v, h => by simp at h
  | q :: r, s, 0, t, u, v, h => by
    simp only [List.getElem?_cons_zero, Option.some.injEq] at h
    subst h
    rfl
  | q :: r, s, k + 1, t, u, v, h => by
    simp only [List.getElem?_cons_succ] at h
    rw [List.set_cons_succ]
    unfold okTs
    rw [okTs_set r q.1 k t u v h]
theorem okTimes_set (l : List Pt) (k : Nat) (t u v : Int) (h : l[k]? = some (t, u)) : okTimes (l.set k (t, v)) = okTimes l := by
  cases l with
  | nil => simp at h
  | cons q r =>
    cases k with
    | zero =>
      simp only [List.getElem?_cons_zero, Option.some.injEq] at h
      subst h
      rfl
    | succ k =>
      simp only [List.getElem?_cons_succ] at h
      rw [List.set_cons_succ]
      simp only [okTimes]
      rw [okTs_set r q.1 k t u v h]
theorem vals_set {l : List Pt} {k : Nat} {t v : Int} (hv : ∀ q ∈ l, okV q.2) (h : okV v) : ∀ q ∈ l.set k (t, v), okV q.2 := by
  intro q hq
  rcases List.mem_or_eq_of_mem_set hq with h1 | rfl
  · exact hv q h1
  · exact h
theorem encB_inj {ps qs : List Pt} (hv : ∀ q ∈ ps, okV q.2) (hv' : ∀ q ∈ qs, okV q.2) (h : encC ps = 0) (h' : encC qs = 0) (e : encB ps = encB qs) : ps = qs := by
  unfold encB at e
  rw [if_pos h, if_pos h'] at e
  obtain ⟨a1, a2⟩ := encC_zero.1 h
  obtain ⟨b1, b2⟩ := encC_zero.1 h'
  exact enc_inj a2 hv a1 b2 hv' b1 e
theorem POwn.setV {w : World} {base g n c : Nat} {l : List Pnt} (h : POwn w base g n c l) (k : Nat) (t u v : Int) (hk : l[k]? = some (t, u)) : POwn (w.setCell ⟨g, k * 2 + 1, none⟩ (.int .u64 v)) base g n c (l.set k (t, v)) := by
  unfold POwn SOwn at h ⊢
  rw [pflat_set l k t u v hk]
  exact (h.stored (k * 2 + 1) _).1
set_option maxRecDepth 100000 in
set_option maxHeartbeats 2000000 in
theorem chunkBack_walk (a0 : Option Addr) (z0 : List Pnt) (cap0 : Nat) (at1 v2 : Int) (W : World) (r0 : SRd pntE W a0 z0) (n0 : a0 = none → cap0 = 0) (l0 : z0.length ≤ 8796093021952) (hv : ∀ q ∈ z0, okV q.2)
    (w1 : (Lit.int .i64 at1).wf = true) (w2 : (Lit.int .u64 v2).wf = true) (hB : Bf W) :
    Calls Tryd.prog 5 #[.slice a0 z0.length cap0, .int .i64 at1, .int .u64 v2] W fun e w' => e = .returned (.bool true) ∧ Below W.heap.size W w' := by
  have hv2 : okV v2 := by
    simp only [Lit.wf, Bool.and_eq_true, decide_eq_true_eq] at w2
    have e1 : IntKind.u64.min = 0 := rfl
    have e2 : IntKind.u64.max = 18446744073709551615 := rfl
    have e3 : (2 : Int) ^ 64 = 18446744073709551616 := rfl
    exact ⟨by omega, by omega⟩
  clear w1 w2
  obtain ⟨cc, ecc⟩ : ∃ cc, cc = encC z0 := ⟨_, rfl⟩
  obtain ⟨bb, ebb⟩ : ∃ bb, bb = encB z0 := ⟨_, rfl⟩
  have HBY : Hid (∀ z ∈ bb, 0 ≤ z ∧ z ≤ 255) := by show ∀ z ∈ bb, _; rw [ebb]; exact encB_byte _
  have hbl : bb.length ≤ 137438954000 := by rw [ebb]; exact encB_len hv
  have HBL : Hid (bb.length ≤ 137438954000) := hbl
  have HNIL : Hid (cc ≠ 0 → bb.length = 0) := by
    intro h
    rw [ebb]
    unfold encB
    rw [if_neg (by rw [← ecc]; exact h)]
    rfl
  have HCopy : Hid (∀ w, W.grownBy w none → Calls Tryd.prog 13 #[.slice a0 z0.length cap0] w fun e w' => ∃ g c, e = .returned (.slice (some ⟨g, 0, none⟩) z0.length c) ∧ POwn w' w.heap.size g z0.length c z0 ∧ w.grownBy w' none) := fun w hg => pcopy a0 z0 _ cap0 w (r0.grown hg (by simp)) rfl n0 (by omega)
  have HF : Hid (∀ (g c : Nat) (w : World), W.grownBy w none → SRd pntE w (some ⟨g, 0, none⟩) z0 → Calls Tryd.prog 11 #[.slice (some ⟨g, 0, none⟩) z0.length c] w fun e w' => ∃ v n c, e = .returned (.tuple #[.slice v n c, .int .i64 cc]) ∧ BO w' w.heap.size v n c bb ∧ w.grownBy w' none) := by
    intro g c w hg hr
    refine (k_enc _ z0 _ c w hr rfl (by omega) hv (hB.grown hg (by simp))).mono ?_
    rintro e w' ⟨v, n, c', rfl, hn, ho, hg'⟩
    rw [← ecc]
    rw [← ebb] at ho hn
    exact ⟨v, n, c', rfl, ho, hg'⟩
  have HF2 : Hid (cc = 0 → ∀ (k : Nat) (t u : Int), z0[k]? = some (t, u) → ∃ b2 : List Int, (∀ z ∈ b2, 0 ≤ z ∧ z ≤ 255) ∧ b2.length ≤ 137438954000 ∧ (bb = b2 ↔ v2 = u) ∧ ∀ (g c : Nat) (w : World), W.grownBy w none → SRd pntE w (some ⟨g, 0, none⟩) (z0.set k (t, v2)) → Calls Tryd.prog 11 #[.slice (some ⟨g, 0, none⟩) z0.length c] w fun e w' => ∃ v n c, e = .returned (.tuple #[.slice v n c, .int .i64 0]) ∧ BO w' w.heap.size v n c b2 ∧ w.grownBy w' none) := by
    intro h0 k t u hk
    have hz : encC z0 = 0 := ecc.symm.trans h0
    have hs : encC (z0.set k (t, v2)) = 0 := by
      obtain ⟨x1, x2⟩ := encC_zero.1 hz
      exact encC_zero.2 ⟨by rw [List.length_set]; exact x1, by rw [okTimes_set z0 k t u v2 hk]; exact x2⟩
    have hvs := vals_set (k := k) (t := t) hv hv2
    refine ⟨encB (z0.set k (t, v2)), encB_byte _, encB_len hvs, ⟨fun e => ?_, fun e => ?_⟩, fun g c w hg hr => ?_⟩
    · rw [ebb] at e
      have h := encB_inj hv hvs hz hs e
      have hlt := (List.getElem?_eq_some_iff.1 hk).1
      have h2 : (z0.set k (t, v2))[k]? = some (t, v2) := by rw [List.getElem?_set_self hlt]
      rw [← h, hk] at h2
      simp only [Option.some.injEq, Prod.mk.injEq, true_and] at h2
      exact h2.symm
    · subst e
      rw [ebb]
      congr 1
      obtain ⟨hlt, hq⟩ := List.getElem?_eq_some_iff.1 hk
      rw [← hq, List.set_getElem_self]
    · refine (k_enc _ (z0.set k (t, v2)) _ c w hr (by rw [List.length_set]) (by omega) hvs (hB.grown hg (by simp))).mono ?_
      rintro e w' ⟨v, n, c', rfl, hn, ho, hg'⟩
      rw [hs]
      exact ⟨v, n, c', rfl, ho, hg'⟩
  have HAw : Hid (∀ w, W.grownBy w none → Calls Tryd.prog 16 #[] w fun e w' => e = .returned (.bool true) ∧ W.grownBy w' none) := by
    intro w hg
    refine (awake_chunk w (hB.grown hg (by simp))).mono ?_
    rintro e w' ⟨rfl, hg'⟩
    exact ⟨rfl, hg.trans hg'⟩
  have HAq : Hid (∀ w, W.grownBy w none → Calls Tryd.prog 16 #[] w fun e w' => e = .returned (.bool true) ∧ w.grownBy w' none) := fun w hg => awake_chunk w (hB.grown hg (by simp))
  have HD : Hid (cc = 0 → ∀ (a : Option Addr) (L c : Nat) (w : World), W.grownBy w none → Rd w a bb → bb.length = L → Calls Tryd.prog 19 #[.slice a L c] w fun e w' => ∃ v n c', e = .returned (.tuple #[.slice v n c', .int .i64 0]) ∧ n = z0.length ∧ PO w' w.heap.size v n c' z0 ∧ w.grownBy w' none) := by
    intro h0 a L c w hg hr hL
    refine (k_dec a bb L c w hr hL (by omega) (hB.grown hg (by simp))).mono ?_
    rintro e w' ⟨v, n, c', ps, d, rfl, hn, ho, hg', hd⟩
    have hz : decR bb = some z0 := by rw [ebb]; exact dec_encB hv (ecc.symm.trans h0)
    obtain ⟨rfl, rfl⟩ := (DecAns.some hz).det hd
    exact ⟨v, n, c', rfl, hn, ho, hg'⟩
  have HR : Hid (SRd pntE W a0 z0) := r0
  obtain ⟨L, eL⟩ : ∃ L, L = z0.length := ⟨_, rfl⟩
  have HL : Hid (z0.length = L) := eL.symm
  rw [← eL] at HCopy HF HF2 HD l0 ⊢
  clear r0 n0 eL hB hv ecc ebb hbl hv2
  go_enter Tryd.func5, Tryd.ntmps5
  go_wp2_with fail
  refine (HCopy.out W (World.grownBy.refl _ _)).mono ?_
  rintro e w1 ⟨g1, c1, rfl, ho1, hg1⟩
  have HO1 : Hid (POwn w1 W.heap.size g1 L c1 z0) := ho1
  have HG1 : Hid (W.grownBy w1 none) := hg1
  clear ho1 hg1
  go_wp2_with fail
  refine (HF.out g1 c1 w1 HG1.out HO1.out.rd).mono ?_
  rintro e w2 ⟨v1, m1, k1, rfl, lo1, hg2⟩
  have HLO1 : Hid (BO w2 w1.heap.size v1 m1 k1 bb) := lo1
  have HG2 : Hid (W.grownBy w2 none) := HG1.out.trans hg2
  clear lo1 hg2 HF HO1
  by_cases hcc : cc = 0
  · subst hcc
    have HDD := HD.out rfl v1 m1 k1 w2 HG2.out (HLO1.out.rd HBY.out) HLO1.out.len
    have HDE : Hid (Calls Tryd.prog 19 #[.slice v1 m1 k1] w2 fun e w' => ∃ v n c', e = .returned (.tuple #[.slice v n c', .int .i64 0]) ∧ n = L ∧ PO w' w2.heap.size v n c' z0 ∧ w2.grownBy w' none) := HDD
    have HFF : Hid (∀ (k : Nat) (t u : Int), z0[k]? = some (t, u) → ∃ b2 : List Int, (∀ z ∈ b2, 0 ≤ z ∧ z ≤ 255) ∧ b2.length ≤ 137438954000 ∧ (bb = b2 ↔ v2 = u) ∧ ∀ (g c : Nat) (w : World), W.grownBy w none → SRd pntE w (some ⟨g, 0, none⟩) (z0.set k (t, v2)) → Calls Tryd.prog 11 #[.slice (some ⟨g, 0, none⟩) L c] w fun e w' => ∃ v n c, e = .returned (.tuple #[.slice v n c, .int .i64 0]) ∧ BO w' w.heap.size v n c b2 ∧ w.grownBy w' none) := HF2.out rfl
    clear HD HF2 HNIL HDD
    go_wp2_with fail
    refine HDE.out.mono ?_
    rintro e w3 ⟨v3, m3, k3, rfl, rfl, lo3, hg3⟩
    have HLO3 : Hid (PO w3 w2.heap.size v3 m3 k3 z0) := lo3
    have HG3 : Hid (W.grownBy w3 none) := HG2.out.trans hg3
    have HLO13 : Hid (BO w3 w1.heap.size v1 m1 k1 bb) := HLO1.out.kept hg3
    clear lo3 hg3 HDE HLO1
    go_wp2_with fail
    refine (psame v3 a0 z0 z0 m3 m3 k3 cap0 w3 HLO3.out.rd (HR.out.grown HG3.out (by simp)) HL.out HL.out (by omega)).mono ?_
    rintro e w4 ⟨rfl, hg4⟩
    have htt : decide (z0 = z0) = true := by simp
    rw [htt]
    clear htt
    have HG4 : Hid (W.grownBy w4 none) := HG3.out.trans hg4
    have HLO14 : Hid (BO w4 w1.heap.size v1 m1 k1 bb) := HLO13.out.kept hg4
    clear hg4 HLO13 HLO3
    by_cases hL0 : m3 = 0
    · subst hL0
      clear HFF HCopy
      go_wp2_with fail
      refine (HAw.out w4 HG4.out).mono ?_
      rintro e w5 ⟨rfl, hg5⟩
      have HG5 : Hid (W.grownBy w5 none) := hg5
      clear hg5
      go_wp2
      go_ret
      exact ⟨rfl, gb_below HG5.out⟩
    · have qL : ((m3 : Int) == 0) = false := by simp; omega
      go_wp2_with fail
      refine (Low_any _ _).mono ?_
      rintro e w5 ⟨r, rfl, hr0, hr1, rfl⟩
      have hpos : (0 : Int) < (m3 : Int) := by omega
      have hq0 := Int.emod_nonneg r (show (m3 : Int) ≠ 0 by omega)
      have hq1 := Int.emod_lt_of_pos r hpos
      go_wp2_with fail
      obtain ⟨K, hK⟩ : ∃ K : Nat, r % (m3 : Int) = (K : Int) := ⟨(r % (m3 : Int)).toNat, by omega⟩
      rw [hK] at hq1 ⊢
      have hKL : (K : Int) < (m3 : Int) := hq1
      clear hq0 hq1 hK hr0 hr1 hpos
      refine (HCopy.out w4 HG4.out).mono ?_
      rintro e w6 ⟨g6, c6, rfl, ho6, hg6⟩
      obtain ⟨⟨t, u⟩, hk⟩ : ∃ x, z0[K]? = some x := ⟨_, List.getElem?_eq_getElem (by have := HL.out; omega)⟩
      obtain ⟨b2, hb2, hbl2, hiff, henc⟩ := HFF.out K t u hk
      have HB2 : Hid (∀ z ∈ b2, 0 ≤ z ∧ z ≤ 255) := hb2
      have HBL2 : Hid (b2.length ≤ 137438954000) := hbl2
      have HIFF : Hid (bb = b2 ↔ v2 = u) := hiff
      have HG6 : Hid (W.grownBy w6 none) := HG4.out.trans hg6
      have HLO16 : Hid (BO w6 w1.heap.size v1 m1 k1 bb) := HLO14.out.kept hg6
      have hcell : ∃ y, w6.cell? ⟨g6, K * 2 + 1, none⟩ = some y := ho6.row.cells (K * 2 + 1) (by have := ho6.cap.1; omega) |>.1
      obtain ⟨y, hy⟩ := hcell
      have hfr : w6.frozen? ⟨g6, K * 2 + 1, none⟩ = false := (ho6.row.cells (K * 2 + 1) (by have := ho6.cap.1; omega)).2
      have HGE : Hid (w4.heap.size ≤ g6) := ho6.ge.1
      have hbk : (v1 = none) ∨ ∃ x, v1 = some x ∧ x.block < w4.heap.size := by
        cases v1 with
        | none => exact .inl rfl
        | some x => exact .inr ⟨x, rfl, (HLO14.out.block x rfl).2⟩
      have hgs : w6.grownBy (w6.setCell ⟨g6, K * 2 + 1, none⟩ (.int .u64 v2)) (some g6) := gb_set rfl
      have HLO17 : Hid (BO (w6.setCell ⟨g6, K * 2 + 1, none⟩ (.int .u64 v2)) w1.heap.size v1 m1 k1 bb) := SOwn.kept HLO16.out hgs (by
        rcases hbk with rfl | ⟨x, rfl, hx⟩
        · exact .inl rfl
        · right
          intro e
          simp only [Value.ownBlock, Option.some.injEq] at e
          have := HGE.out
          omega)
      have HG7 : Hid (W.grownBy (w6.setCell ⟨g6, K * 2 + 1, none⟩ (.int .u64 v2)) none) := gb_trans HG6.out hgs (fun j hj => .inl (by simp at hj; have := HGE.out; have := HG4.out.size; omega))
      have HE : Hid (Calls Tryd.prog 11 #[.slice (some ⟨g6, 0, none⟩) m3 c6] (w6.setCell ⟨g6, K * 2 + 1, none⟩ (.int .u64 v2)) fun e w' => ∃ v n c, e = .returned (.tuple #[.slice v n c, .int .i64 0]) ∧ BO w' w6.heap.size v n c b2 ∧ (w6.setCell ⟨g6, K * 2 + 1, none⟩ (.int .u64 v2)).grownBy w' none) := by
        have h := henc g6 c6 _ HG7.out (POwn.rd (ho6.setV K t u v2 hk))
        rw [show (w6.setCell ⟨g6, K * 2 + 1, none⟩ (.int .u64 v2)).heap.size = w6.heap.size from World.size_setCell _ _ _] at h
        exact h
      have HK : Hid (z0[K]? = some (t, u)) := hk
      obtain ⟨w7, hw7⟩ : ∃ w7, w7 = w6.setCell ⟨g6, K * 2 + 1, none⟩ (.int .u64 v2) := ⟨_, rfl⟩
      rw [← hw7] at HE HG7 HLO17
      have HW7 : Hid (w7 = w6.setCell ⟨g6, K * 2 + 1, none⟩ (.int .u64 v2)) := hw7
      clear hb2 hbl2 hiff henc ho6 hg6 hgs hbk hk HFF HCopy HLO14 HLO16 hw7
      go_wp2_with fail
      rw [← HW7.out]
      refine HE.out.mono ?_
      rintro e w8 ⟨v8, m8, k8, rfl, lo8, hg8⟩
      have HLO8 : Hid (BO w8 w6.heap.size v8 m8 k8 b2) := lo8
      have HG8 : Hid (W.grownBy w8 none) := HG7.out.trans hg8
      have HLO18 : Hid (BO w8 w1.heap.size v1 m1 k1 bb) := HLO17.out.kept hg8
      clear lo8 hg8 HE HW7 HLO17 HG7 hy hfr
      have hl := HL.out
      obtain ⟨ba, off, rfl, hcc⟩ := (HR.out.grown HG8.out (by simp)).at (by omega)
      have c1' : w8.cell? ⟨ba, off + K * 2 + 1, none⟩ = some (.int .u64 u) := by rw [Nat.add_assoc]; exact hcc K _ 1 _ HK.out rfl
      have HS : Hid (∀ w, Hid (w8.grownBy w none) → Calls Tryd.prog 14 #[.slice v1 m1 k1, .slice v8 m8 k8] w fun e w' => e = .returned (.bool (decide (bb = b2))) ∧ Hid (w8.grownBy w' none) ∧ w'.cell? ⟨ba, off + K * 2 + 1, none⟩ = some (.int .u64 u)) := by
        intro w hg
        refine (same_any v1 v8 bb b2 m1 m8 k1 k8 w ((HLO18.out.kept hg.out).rd HBY.out) ((HLO8.out.kept hg.out).rd HB2.out) HLO18.out.len HLO8.out.len (by have h1 := HLO18.out.len; have h2 := HBL.out; omega)).mono ?_
        rintro e w' ⟨rfl, hg'⟩
        exact ⟨rfl, hg.out.trans hg', (hg.out.trans hg').cell c1' (by simp)⟩
      have HA8 : Hid (∀ w, Hid (w8.grownBy w none) → Calls Tryd.prog 16 #[] w fun e w' => e = .returned (.bool true) ∧ Hid (w8.grownBy w' none) ∧ w'.cell? ⟨ba, off + K * 2 + 1, none⟩ = some (.int .u64 u)) := by
        intro w hg
        refine (HAq.out w (HG8.out.trans hg.out)).mono ?_
        rintro e w' ⟨rfl, hg'⟩
        exact ⟨rfl, hg.out.trans hg', (hg.out.trans hg').cell c1' (by simp)⟩
      clear hcc hl HLO8 HLO18 HAw HAq HBY HB2 HBL HBL2 HR HL
      have HDR : Hid (w8.grownBy w8.drew none) := gb_drew (World.grownBy.refl _ _)
      have hK0 : (0 : Int) ≤ (K : Int) := by omega
      by_cases hvu : v2 = u
      · subst hvu
        have hbt : decide (bb = b2) = true := by simpa using HIFF.out
        rw [hbt] at HS
        clear hbt HIFF
        go_upto_region 13 with fail
        go_region_held3 (fun w' => Hid (w8.grownBy w' none) ∧ w'.cell? ⟨ba, off + K * 2 + 1, none⟩ = some (.int .u64 v2)) (first | exact ⟨HDR, c1'⟩ | (constructor <;> assumption)) (first | (go_at_call 14; refine (HS.out _ ?h1).mono ?_; (case h1 => exact HDR); rintro e w9 ⟨rfl, h9, c9⟩) | (go_at_call 16; refine (HA8.out _ ?h1).mono ?_; (case h1 => assumption); rintro e w10 ⟨rfl, h10, c10⟩))
        all_goals go_wp2
        all_goals go_ret
        all_goals exact ⟨rfl, gb_below (HG8.out.trans h10.out)⟩
      · have hbt : decide (bb = b2) = false := by simp [HIFF.out, hvu]
        have hqv : (v2 == u) = false := by simpa using hvu
        rw [hbt] at HS
        clear hbt HIFF hvu
        go_upto_region 13 with fail
        go_region_held3 (fun w' => Hid (w8.grownBy w' none) ∧ w'.cell? ⟨ba, off + K * 2 + 1, none⟩ = some (.int .u64 u)) (first | exact ⟨HDR, c1'⟩ | (constructor <;> assumption)) (first | (go_at_call 14; refine (HS.out _ ?h1).mono ?_; (case h1 => exact HDR); rintro e w9 ⟨rfl, h9, c9⟩) | (go_at_call 16; refine (HA8.out _ ?h1).mono ?_; (case h1 => assumption); rintro e w10 ⟨rfl, h10, c10⟩))
        all_goals go_wp2
        all_goals go_ret
        all_goals exact ⟨rfl, gb_below (HG8.out.trans h10.out)⟩
  · have qc : (cc != 0) = true := by simpa using hcc
    have hm : m1 = 0 := by have h1 := HNIL.out hcc; have h2 := HLO1.out.len; omega
    subst hm
    go_wp2_with fail
    refine (HAw.out w2 HG2.out).mono ?_
    rintro e w3 ⟨rfl, hg3⟩
    have HG3 : Hid (W.grownBy w3 none) := hg3
    clear hg3
    go_wp2
    go_ret
    exact ⟨rfl, gb_below HG3.out⟩
end Go.Proofs.YtacpibidkfbojaaDoor
