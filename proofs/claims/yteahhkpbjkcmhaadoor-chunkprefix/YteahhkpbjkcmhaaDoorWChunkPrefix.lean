/- The bits of a beginning of points, behind the count, are a beginning of the bits of all. -/
import Derived.Test.YteahhkpbjkcmhaaDoorKwalk
import Derived.Deep.RegionHeld3
namespace Go.Proofs.YteahhkpbjkcmhaaDoor
open Go.ChangeShapes Go.WideShapes Go.ChangeAt Go.RowKit
set_option linter.unusedVariables false

theorem xor_bit (x y : Int) (s : Nat) (h0 : 0 ≤ x ∧ x ≤ 255) (h1 : 0 ≤ y ∧ y ≤ 255) (he : x / 2 ^ s % 2 = y / 2 ^ s % 2) : bits .and .u8 (bits .xor .u8 x y / 2 ^ s) 1 = 0 := by
  rw [u8_xor x y h0.1 (by omega) h1.1 (by omega)]
  obtain ⟨m, rfl⟩ : ∃ m : Nat, x = m := ⟨x.toNat, by omega⟩
  obtain ⟨n, rfl⟩ : ∃ n : Nat, y = n := ⟨y.toNat, by omega⟩
  have hlt : m ^^^ n < 2 ^ 8 := Nat.xor_lt_two_pow (by omega) (by omega)
  rw [Int.toNat_natCast, Int.toNat_natCast, and_one _ s (by omega) (by omega)]
  have hp : ((2 : Int) ^ s) = ((2 ^ s : Nat) : Int) := by simp
  rw [hp] at he ⊢
  have hn : m / 2 ^ s % 2 = n / 2 ^ s % 2 := by exact_mod_cast he
  have ht : Nat.testBit m s = Nat.testBit n s := by
    rw [Nat.testBit_eq_decide_div_mod_eq, Nat.testBit_eq_decide_div_mod_eq, hn]
  have hx : Nat.testBit (m ^^^ n) s = false := by rw [Nat.testBit_xor, ht]; simp
  rw [Nat.testBit_eq_decide_div_mod_eq] at hx
  have hx' : ¬ (m ^^^ n) / 2 ^ s % 2 = 1 := by simpa using hx
  have : (m ^^^ n) / 2 ^ s % 2 = 0 := by omega
  exact_mod_cast this
theorem okTs_take : ∀ (ps : List Pt) (t : Int) (k : Nat), okTs t ps = true → okTs t (ps.take k) = true
  | [], t, k, h => by simpa using h
  | q :: r, t, 0, h => rfl
  | q :: r, t, k + 1, h => by
    rw [List.take_succ_cons]
    simp only [okTs, Bool.and_eq_true] at h ⊢
    exact ⟨h.1, okTs_take r q.1 k h.2⟩
theorem okTimes_take {ps : List Pt} (k : Nat) (h : okTimes ps = true) : okTimes (ps.take k) = true := by
  cases ps with
  | nil => simpa using h
  | cons q r =>
    cases k with
    | zero => rfl
    | succ k =>
      rw [List.take_succ_cons]
      simp only [okTimes, Bool.and_eq_true] at h ⊢
      exact ⟨h.1, okTs_take r q.1 k h.2⟩
theorem enc_take {ps : List Pt} (k : Nat) (h : encC ps = 0) : encC (ps.take k) = 0 := by
  obtain ⟨h1, h2⟩ := encC_zero.1 h
  exact encC_zero.2 ⟨by rw [List.length_take]; omega, okTimes_take k h2⟩
theorem encB_pre {ps : List Pt} (k : Nat) (h : encC ps = 0) : 2 ≤ (encB (ps.take k)).length ∧ (encB (ps.take k)).length ≤ (encB ps).length ∧
    ∀ i, 13 ≤ i → i < 8 * ((encB (ps.take k)).length - 1) → (encB ps).getD (i / 8) 0 / 2 ^ (7 - i % 8) % 2 = (encB (ps.take k)).getD (i / 8) 0 / 2 ^ (7 - i % 8) % 2 := by
  have e1 : encB ps = pack (encP ps) := by unfold encB; rw [if_pos h]
  have e2 : encB (ps.take k) = pack (encP (ps.take k)) := by unfold encB; rw [if_pos (enc_take k h)]
  obtain ⟨r, hr⟩ := encP_take ps k
  have m1 := encP_min (ps.take k)
  have m2 := encP_min ps
  have hl := congrArg List.length hr
  rw [List.length_append, List.length_drop, List.length_drop] at hl
  rw [e1, e2, pack_len, pack_len]
  refine ⟨by omega, by omega, fun i h1 h2 => ?_⟩
  have b1 := pack_bit (encP ps) i
  have b2 := pack_bit (encP (ps.take k)) i
  unfold bitOf at b1 b2
  rw [b1, b2]
  have hg : (encP ps).getD i false = (encP (ps.take k)).getD i false := by
    have g1 : ((encP ps).drop 13)[i - 13]? = (encP ps)[i]? := by rw [List.getElem?_drop]; congr 1; omega
    have g2 : ((encP (ps.take k)).drop 13)[i - 13]? = (encP (ps.take k))[i]? := by rw [List.getElem?_drop]; congr 1; omega
    have g3 : ((encP ps).drop 13)[i - 13]? = ((encP (ps.take k)).drop 13)[i - 13]? := by
      rw [hr, List.getElem?_append_left (by rw [List.length_drop]; omega)]
    simp only [List.getD_eq_getElem?_getD]
    rw [← g1, g3, g2]
  rw [hg]
theorem srd_take {α : Type} {E : Elem α} {w : World} {a : Option Addr} {l : List α} (h : SRd E w a l) (k : Nat) : SRd E w a (l.take k) := by
  rcases h with h | ⟨b, off, e, h⟩
  · rw [h]; exact .inl (by simp)
  · refine .inr ⟨b, off, e, fun j v hj => h j v ?_⟩
    rw [E.flat_take] at hj
    rw [List.getElem?_take] at hj
    split at hj
    · exact hj
    · cases hj
set_option maxRecDepth 100000 in
set_option maxHeartbeats 4000000 in
theorem chunkPrefix_walk (a0 : Option Addr) (z0 : List Pnt) (cap0 : Nat) (at1 : Int) (W : World) (r0 : SRd pntE W a0 z0) (n0 : a0 = none → cap0 = 0) (l0 : z0.length ≤ 8796093021952) (hcp : z0.length ≤ cap0) (hv : ∀ q ∈ z0, okV q.2)
    (w1 : (Lit.int .i64 at1).wf = true) (hB : Bf W) :
    Calls Tryd.prog 8 #[.slice a0 z0.length cap0, .int .i64 at1] W fun e w' => e = .returned (.bool true) ∧ Below W.heap.size W w' := by
  clear w1
  obtain ⟨cc, ecc⟩ : ∃ cc, cc = encC z0 := ⟨_, rfl⟩
  have HCopy : Hid (Calls Tryd.prog 13 #[.slice a0 z0.length cap0] W fun e w' => ∃ g c, e = .returned (.slice (some ⟨g, 0, none⟩) z0.length c) ∧ POwn w' W.heap.size g z0.length c z0 ∧ W.grownBy w' none) := pcopy a0 z0 _ cap0 W r0 rfl n0 (by omega)
  have HCk : Hid (∀ (k : Nat) (a : Option Addr) (w : World), a = a0 → k < z0.length → W.grownBy w none → Calls Tryd.prog 13 #[.slice a k cap0] w fun e w' => ∃ g c, e = .returned (.slice (some ⟨g, 0, none⟩) k c) ∧ POwn w' w.heap.size g k c (z0.take k) ∧ w.grownBy w' none) := by
    intro k a w ha hk hg
    subst ha
    exact pcopy a (z0.take k) k cap0 w (srd_take (r0.grown hg (by simp)) k) (by rw [List.length_take]; omega) n0 (by omega)
  have HF : Hid (∀ (g c : Nat) (w : World), W.grownBy w none → SRd pntE w (some ⟨g, 0, none⟩) z0 → Calls Tryd.prog 11 #[.slice (some ⟨g, 0, none⟩) z0.length c] w fun e w' => ∃ v n c, e = .returned (.tuple #[.slice v n c, .int .i64 cc]) ∧ BO w' w.heap.size v n c (encB z0) ∧ w.grownBy w' none) := by
    intro g c w hg hr
    refine (k_enc _ z0 _ c w hr rfl (by omega) hv (hB.grown hg (by simp))).mono ?_
    rintro e w' ⟨v, n, c', rfl, hn, ho, hg'⟩
    rw [← ecc]
    exact ⟨v, n, c', rfl, ho, hg'⟩
  have HFk : Hid (cc = 0 → ∀ (k g c : Nat) (w : World), k < z0.length → W.grownBy w none → SRd pntE w (some ⟨g, 0, none⟩) (z0.take k) → Calls Tryd.prog 11 #[.slice (some ⟨g, 0, none⟩) k c] w fun e w' => ∃ v n c, e = .returned (.tuple #[.slice v n c, .int .i64 0]) ∧ BO w' w.heap.size v n c (encB (z0.take k)) ∧ w.grownBy w' none) := by
    intro h0 k g c w hk hg hr
    refine (k_enc _ (z0.take k) k c w hr (by rw [List.length_take]; omega) (by omega) (fun q hq => hv q (List.mem_of_mem_take hq)) (hB.grown hg (by simp))).mono ?_
    rintro e w' ⟨v, n, c', rfl, hn, ho, hg'⟩
    rw [enc_take k (ecc.symm.trans h0)]
    exact ⟨v, n, c', rfl, ho, hg'⟩
  have HPR : Hid (cc = 0 → ∀ k, 2 ≤ (encB (z0.take k)).length ∧ (encB (z0.take k)).length ≤ (encB z0).length ∧ ∀ i, 13 ≤ i → i < 8 * ((encB (z0.take k)).length - 1) → (encB z0).getD (i / 8) 0 / 2 ^ (7 - i % 8) % 2 = (encB (z0.take k)).getD (i / 8) 0 / 2 ^ (7 - i % 8) % 2) := fun h0 k => encB_pre k (ecc.symm.trans h0)
  have HBL : Hid ((encB z0).length ≤ 137438954000) := encB_len hv
  have HAw : Hid (∀ w, W.grownBy w none → Calls Tryd.prog 16 #[] w fun e w' => e = .returned (.bool true) ∧ w.grownBy w' none) := fun w hg => awake_chunk w (hB.grown hg (by simp))
  have HA0 : Hid (0 < z0.length → ∃ b off, a0 = some ⟨b, off, none⟩) := by
    intro h
    obtain ⟨b, off, e, _⟩ := r0.at h
    exact ⟨b, off, e⟩
  obtain ⟨L, eL⟩ : ∃ L, L = z0.length := ⟨_, rfl⟩
  rw [← eL] at HCopy HCk HF HFk HA0 l0 hcp ⊢
  clear r0 n0 eL hB hv ecc
  go_enter Tryd.func8, Tryd.ntmps8
  go_wp2_with fail
  refine HCopy.out.mono ?_
  rintro e w1 ⟨g1, c1, rfl, ho1, hg1⟩
  have HO1 : Hid (POwn w1 W.heap.size g1 L c1 z0) := ho1
  have HG1 : Hid (W.grownBy w1 none) := hg1
  clear ho1 hg1 HCopy
  go_wp2_with fail
  refine (HF.out g1 c1 w1 HG1.out HO1.out.rd).mono ?_
  rintro e w2 ⟨v1, m1, k1, rfl, lo1, hg2⟩
  have HLO1 : Hid (BO w2 w1.heap.size v1 m1 k1 (encB z0)) := lo1
  have HG2 : Hid (W.grownBy w2 none) := HG1.out.trans hg2
  clear lo1 hg2 HF HO1
  by_cases hcc : cc = 0
  · subst hcc
    by_cases hL0 : L = 0
    · subst hL0
      go_wp2_with fail
      refine (HAw.out w2 HG2.out).mono ?_
      rintro e w3 ⟨rfl, hg3⟩
      have HG3 : Hid (W.grownBy w3 none) := HG2.out.trans hg3
      clear hg3
      go_wp2
      go_ret
      exact ⟨rfl, gb_below HG3.out⟩
    · have qL : ((L : Int) == 0) = false := by simp; omega
      go_wp2_with fail
      refine (Low_any _ _).mono ?_
      rintro e w3 ⟨r, rfl, hr0, hr1, rfl⟩
      have hpos : (0 : Int) < (L : Int) := by omega
      have hq0 := Int.emod_nonneg r (show (L : Int) ≠ 0 by omega)
      have hq1 := Int.emod_lt_of_pos r hpos
      obtain ⟨ba, off, rfl⟩ := HA0.out (by omega)
      obtain ⟨K, hK⟩ : ∃ K : Nat, r % (L : Int) = (K : Int) := ⟨(r % (L : Int)).toNat, by omega⟩
      have hKL : K < L := by omega
      have hKc : r % (L : Int) ≤ (cap0 : Int) := by omega
      go_wp2_with fail
      rw [hK]
      have HKF : Hid (Calls Tryd.prog 13 #[.slice (some ⟨ba, off, none⟩) K cap0] w2 fun e w' => ∃ g c, e = .returned (.slice (some ⟨g, 0, none⟩) K c) ∧ POwn w' w2.heap.size g K c (z0.take K) ∧ w2.grownBy w' none) := HCk.out K _ w2 rfl hKL HG2.out
      have HFF : Hid (∀ (g c : Nat) (w : World), W.grownBy w none → SRd pntE w (some ⟨g, 0, none⟩) (z0.take K) → Calls Tryd.prog 11 #[.slice (some ⟨g, 0, none⟩) K c] w fun e w' => ∃ v n c, e = .returned (.tuple #[.slice v n c, .int .i64 0]) ∧ BO w' w.heap.size v n c (encB (z0.take K)) ∧ w.grownBy w' none) := fun g c w hg hr => HFk.out (by trivial) K g c w hKL hg hr
      have HPP : Hid (2 ≤ (encB (z0.take K)).length ∧ (encB (z0.take K)).length ≤ (encB z0).length ∧ ∀ i, 13 ≤ i → i < 8 * ((encB (z0.take K)).length - 1) → (encB z0).getD (i / 8) 0 / 2 ^ (7 - i % 8) % 2 = (encB (z0.take K)).getD (i / 8) 0 / 2 ^ (7 - i % 8) % 2) := HPR.out (by trivial) K
      clear HCk HFk HPR HA0 hq0 hq1 hr0 hr1 hpos hKc hK
      refine HKF.out.mono ?_
      rintro e w4 ⟨g4, c4, rfl, ho4, hg4⟩
      have HO4 : Hid (POwn w4 w2.heap.size g4 K c4 (z0.take K)) := ho4
      have HG4 : Hid (W.grownBy w4 none) := HG2.out.trans hg4
      have HLO4 : Hid (BO w4 w1.heap.size v1 m1 k1 (encB z0)) := HLO1.out.kept hg4
      clear ho4 hg4 HKF HLO1
      go_wp2_with fail
      refine (HFF.out g4 c4 w4 HG4.out HO4.out.rd).mono ?_
      rintro e w5 ⟨v5, m5, k5, rfl, lo5, hg5⟩
      have HLO5 : Hid (BO w5 w4.heap.size v5 m5 k5 (encB (z0.take K))) := lo5
      have HG5 : Hid (W.grownBy w5 none) := HG4.out.trans hg5
      have HLO15 : Hid (BO w5 w1.heap.size v1 m1 k1 (encB z0)) := HLO4.out.kept hg5
      clear lo5 hg5 HFF HLO4 HO4
      have h51 : m5 ≤ m1 ∧ 2 ≤ m5 ∧ m1 ≤ 137438954000 := by have h1 := HLO5.out.len; have h2 := HLO15.out.len; have h3 := HPP.out; have h4 := HBL.out; omega
      have q51 : decide ((m1 : Int) < (m5 : Int)) = false := by simp; omega
      have q52 : decide ((m5 : Int) < 2) = false := by simp; omega
      have HR5 : Hid (Rd w5 v5 (encB (z0.take K))) := HLO5.out.rd (encB_byte _)
      have HR1 : Hid (Rd w5 v1 (encB z0)) := HLO15.out.rd (encB_byte _)
      have HL5 : Hid ((encB (z0.take K)).length = m5) := HLO5.out.len
      have HL1 : Hid ((encB z0).length = m1) := HLO15.out.len
      clear HLO5 HLO15
      go_wp2
      go_loopw [10] (fun i wr => ∃ k : Nat, 13 ≤ k ∧ i = .int .i64 k ∧ w5.grownBy wr none) (fun i _ => 8 * m5 - (intOf i).toNat)
      case atStart => exact ⟨13, by omega, rfl, World.grownBy.refl _ _⟩
      case round =>
        obtain ⟨k, hk, rfl, hgr⟩ := hrel
        have HGR : Hid (w5.grownBy wr none) := hgr
        clear hgr
        by_cases hlt : k < 8 * (m5 - 1)
        · have hi : decide ((k : Int) < 8 * ((m5 : Int) - 1)) = true := by simp; omega
          have l5 := HL5.out
          have l1 := HL1.out
          have hbit := HPP.out.2.2 k hk (by rw [l5]; exact hlt)
          obtain ⟨b5, o5, rfl, hc5⟩ := (HR5.out.grown HGR.out (by simp)).at (by omega)
          obtain ⟨b1, o1, rfl, hc1⟩ := (HR1.out.grown HGR.out (by simp)).at (by omega)
          have d5 := hc5 (k / 8) (by omega)
          have d1 := hc1 (k / 8) (by omega)
          have y5 := HR5.out.byte (k / 8)
          have y1 := HR1.out.byte (k / 8)
          generalize (encB (z0.take K)).getD (k / 8) 0 = Y at hbit d5 y5
          generalize (encB z0).getD (k / 8) 0 = X at hbit d1 y1
          have hxb := xor_bit X Y (7 - k % 8) y1 y5 hbit
          obtain ⟨sf, hsf⟩ : ∃ sf : Nat, sf = 7 - k % 8 := ⟨_, rfl⟩
          have hw7 : IntKind.i64.wrap (7 - (k : Int).tmod 8) = (sf : Int) := by rw [Int.tmod_eq_emod_of_nonneg (by omega), wrap_id _ (by omega)]; omega
          have hs0 : (0 : Int) ≤ (sf : Int) := by omega
          have hs8 : (sf : Int) < 8 := by omega
          rw [← hsf] at hxb
          clear hsf
          obtain ⟨q, hq⟩ : ∃ q : Nat, q = k / 8 := ⟨_, rfl⟩
          have hw8 : IntKind.i64.wrap ((k : Int) / 8) = (q : Int) := by rw [wrap_id _ (by omega)]; omega
          have hqa : (q : Int) < (m5 : Int) := by omega
          have hqb : (q : Int) < (m1 : Int) := by omega
          have hq0 : (0 : Int) ≤ (q : Int) := by omega
          have hkm : (k : Int) ≤ 1099511632000 := by omega
          have hr0 : (0 : Int) ≤ (k : Int) % 8 := by omega
          have hr1 : (k : Int) % 8 < 8 := by omega
          rw [← hq] at d5 d1
          clear hq
          clear hc5 hc1 hbit y5 y1 l5 l1
          go_wp2
          go_region_held3 (fun w' => w'.cell? ⟨b5, o5 + q, none⟩ = some (.int .u8 Y) ∧ w'.cell? ⟨b1, o1 + q, none⟩ = some (.int .u8 X)) (go_keep) (fail)
          go_wp2
          go_roundw
          case rel => exact ⟨k + 1, by omega, by go_num, gb_drew HGR.out⟩
          case measure => simp [intOf]; omega
        · have hi : decide ((k : Int) < 8 * ((m5 : Int) - 1)) = false := by simp; omega
          go_wp2_with fail
          refine (HAw.out wr (HG5.out.trans HGR.out)).mono ?_
          rintro e w6 ⟨rfl, hg6⟩
          have HG6 : Hid (W.grownBy w6 none) := (HG5.out.trans HGR.out).trans hg6
          clear hg6
          go_wp2
          go_ret
          exact ⟨rfl, gb_below HG6.out⟩
  · have qc : (cc != 0) = true := by simpa using hcc
    go_wp2_with fail
    refine (HAw.out w2 HG2.out).mono ?_
    rintro e w3 ⟨rfl, hg3⟩
    have HG3 : Hid (W.grownBy w3 none) := HG2.out.trans hg3
    clear hg3
    go_wp2
    go_ret
    exact ⟨rfl, gb_below HG3.out⟩
end Go.Proofs.YteahhkpbjkcmhaaDoor
