/- WalTwice: the walk. -/
import Derived.Test.YtbhffjeoakalbaaGreatDoorXd
namespace Go.Proofs.YtbhffjeoakalbaaGreatDoor
open Go.RowKit Go.Maps Go.Sort
set_option linter.unusedVariables false
set_option maxRecDepth 20000

theorem own_none (o : Option Nat) : o = none ∨ o ≠ none := by cases o <;> simp
def blE : Elem Bool where
  cells b := [.bool b]
  size := 1
  pos := by decide
  len _ := rfl
  one t v h := by
    simp only [List.mem_cons, List.mem_nil_iff, or_false] at h
    subst h
    rfl
/-- Records as they come in. -/
structure RecsIn (W : World) (a : Option Addr) (ts : List Sl) (recs : List (List Int)) : Prop where
  rd : SRd slE W a ts
  len : ts.length = recs.length
  at_ : ∀ (i : Nat) (t : Sl) (r : List Int), ts[i]? = some t → recs[i]? = some r → t.2.1 = r.length ∧ Rd W t.1 r ∧ (t.1 = none → t.2.2 = 0) ∧ r.length ≤ 1048576
theorem RecsIn.get {W : World} {a : Option Addr} {ts : List Sl} {recs : List (List Int)} (h : RecsIn W a ts recs) {i : Nat} (hi : i < recs.length) : ∃ (b off : Nat) (t : Sl) (r : List Int), a = some ⟨b, off, none⟩ ∧ (∀ w, W.grownBy w none → w.cell? ⟨b, off + i, none⟩ = some (.slice t.1 t.2.1 t.2.2)) ∧ recs[i]? = some r ∧ t.2.1 = r.length ∧ Rd W t.1 r ∧ (t.1 = none → t.2.2 = 0) ∧ r.length ≤ 1048576 := by
  have hl := h.len
  obtain ⟨r, hr⟩ : ∃ r, recs[i]? = some r := ⟨_, List.getElem?_eq_getElem hi⟩
  obtain ⟨t, ht⟩ : ∃ t, ts[i]? = some t := ⟨_, List.getElem?_eq_getElem (by omega)⟩
  obtain ⟨kb, koff, e, hkc⟩ := h.rd.at (by omega)
  have a0 := hkc i _ 0 _ ht rfl
  obtain ⟨h1, h2, h3, h4⟩ := h.at_ i t r ht hr
  exact ⟨kb, koff, t, r, e, fun w hg => hg.cell (by simpa [slE, slV] using a0) (by simp), hr, h1, h2, h3, h4⟩
theorem bools_get {W : World} {a : Option Addr} {bs : List Bool} (h : SRd blE W a bs) {i : Nat} (hi : i < bs.length) : ∃ b off x, a = some ⟨b, off, none⟩ ∧ ∀ w, W.grownBy w none → w.cell? ⟨b, off + i, none⟩ = some (.bool x) := by
  obtain ⟨x, hx⟩ : ∃ x, bs[i]? = some x := ⟨_, List.getElem?_eq_getElem hi⟩
  obtain ⟨kb, koff, e, hkc⟩ := h.at (by omega)
  have a0 := hkc i _ 0 _ hx rfl
  exact ⟨kb, koff, x, e, fun w hg => hg.cell (by simpa [blE] using a0) (by simp)⟩
set_option maxHeartbeats 16000000 in
theorem w_twice (a : Option Addr) (ts : List Sl) (recs : List (List Int)) (N c : Nat) (oa : Option Addr) (opens : List Bool) (M oc : Nat) (w : World) (ht : Tab w) (hr : RecsIn w a ts recs) (hN : recs.length = N) (hN4 : N ≤ 1048576) (ho : SRd blE w oa opens) (hM : opens.length = M) :
    Calls Tryz.prog 8 #[.slice a N c, .slice oa M oc] w fun e w' => e = .returned (.bool true) ∧ w.grownBy w' none := by
  have HT : Hid (Tab w) := ht
  have HR : Hid (RecsIn w a ts recs) := hr
  have HO : Hid (SRd blE w oa opens) := ho
  have HN : Hid (recs.length = N) := hN
  have HM : Hid (opens.length = M) := hM
  clear ht hr ho hN hM
  go_enter Tryz.func8, Tryz.ntmps8
  go_wp2_with fail
  refine (v_new w).mono ?_
  rintro e w1 ⟨d, mb, B0, rfl, hd1, hg1, hl1⟩
  have hDe1 : De w w1 d mb 0 x0 dirX none [] (fun k => B0 k ∧ k < w1.heap.size) := ⟨DS.bound hd1, log0 dirX, x0_calm, hg1, fun k hk => hl1 k hk.1, fun k hk => hk.2, HT.out⟩
  have HO1 := s_open hDe1 dirX_ok (by decide) (by decide) (by decide)
  clear hd1 hg1 hl1 hDe1
  go_wp2_with fail
  refine HO1.mono ?_
  rintro e w2 ⟨p0, v0, m0, lo0, A0, rfl, hSe2, hro2, _, _, _⟩
  obtain ⟨ts2, _, _, _, hnil2⟩ := hro2
  rw [hnil2 rfl]
  have HTW : Hid (TwAt w w2 d mb 0 (3 * (0 : Nat)) p0 (none, 0, 0) [] []) := ⟨0, x0, [], _, _, [], hSe2, rfl, ⟨rfl, fun i t r h => by simp at h⟩, SOwn.nil 27 _ _, (fun k hk => by cases hk), by omega, by decide, by decide, by decide, by decide⟩
  clear HO1 hSe2 hnil2
  go_wp2_with fail
  go_loopw [6, 9, 10] (fun t6 t9 t10 wr => ∃ (i p : Nat) (v : Sl) (rs : List (List Int)), i ≤ N ∧ t6 = .pointer (some ⟨p, 0, none⟩) ∧ t9 = .slice v.1 v.2.1 v.2.2 ∧ t10 = .int .i64 i ∧ TwAt w wr d mb i (3 * (i : Int)) p v rs rs) (fun _ _ t10 _ => N - (intOf t10).toNat)
  case atStart => exact ⟨0, p0, (none, 0, 0), [], Nat.zero_le _, rfl, rfl, rfl, HTW.out⟩
  case round =>
    obtain ⟨i, p, v, rs, hi, rfl, rfl, rfl, htw⟩ := hrel
    have HW : Hid (TwAt w wr d mb i (3 * (i : Int)) p v rs rs) := htw
    by_cases hlt : i < N
    · have hii : (i : Int) < (N : Int) := by omega
      obtain ⟨b1, o1, t, r, rfl, hcl, hri, hl, hrd, hnil, hlen⟩ := HR.out.get (i := i) (by rw [HN.out]; exact hlt)
      obtain ⟨ta, tn, tc⟩ := t
      dsimp only at hcl hl hrd hnil
      have c1 := hcl wr htw.from_
      have HCL : Hid (∀ w', w.grownBy w' none → w'.cell? ⟨b1, o1 + i, none⟩ = some (.slice ta tn tc)) := hcl
      clear hcl
      have HRD : Hid (Rd w ta r) := hrd
      have HL : Hid (tn = r.length) := hl
      have HNIL : Hid (ta = none → tc = 0) := hnil
      clear hri hnil hrd
      by_cases hbig : 65536 < tn
      · have hbb : (65536 : Int) < (tn : Int) := by omega
        clear htw hl
        go_wp2
        go_roundw
        case rel => exact ⟨i + 1, p, v, rs, by omega, rfl, rfl, by go_num, HW.out.more (by omega) (by omega)⟩
        case measure => simp [intOf]; omega
      · have hbb : ¬ (65536 : Int) < (tn : Int) := by omega
        have HC : Hid (Calls Tryz.prog 18 #[.slice ta tn tc] wr fun e w' => ∃ g c, e = .returned (.slice (some ⟨g, 0, none⟩) tn c) ∧ Own w' wr.heap.size g tn c r ∧ wr.grownBy w' none) := by
          show Calls _ _ _ _ _
          rw [hl]
          exact copy_any ta r tc wr (HRD.out.grown htw.from_ (by simp)) HNIL.out (by omega)
        clear htw hl
        go_wp2_with fail
        refine HC.out.mono ?_
        rintro e w3 ⟨g3, c3, rfl, hown3, hg3⟩
        have HA : Hid (Calls Tryz.prog 17 #[.pointer (some ⟨p, 0, none⟩), .slice (some ⟨g3, 0, none⟩) tn c3] w3 fun e w' => e = .returned (.int .i64 0) ∧ TwAt w w' d mb (i + 1) (3 * (i : Int) + 2) p v (rs ++ [r]) rs) := tw_append (HW.out.grown hg3) (some ⟨g3, 0, none⟩) r tn c3 hown3.rd HL.out.symm (by simp) (by omega) (by omega) (by omega)
        clear hown3 hg3 HC
        go_wp2_with fail
        refine HA.out.mono ?_
        rintro e w4 ⟨rfl, h4⟩
        obtain ⟨n4, x4, Ls4, A4, B4, tt, k1, k2, k3, k4, k5, k6, k7, k8, k9, k10⟩ := h4
        have c4 := HCL.out w4 k1.from_
        have hrsl : rs.length ≤ i + 1 := by rw [List.length_append] at k10; omega
        obtain ⟨va, K, vc⟩ := v
        obtain ⟨_, _, e2⟩ := sownSl k4
        have eK : K = rs.length := by unfold slV at e2; injection e2
        have hK : K ≤ i + 1 := by omega
        have hg4 : w4.grownBy (w4.alloc (.cells #[.slice ta tn tc] 27)) none := World.grownBy_alloc _ _ none
        have HSO : Hid (SOwn slE 27 (w4.alloc (.cells #[.slice ta tn tc] 27)) w.heap.size (.slice va K vc) K tt) := by
          show SOwn _ _ _ _ _ _ _
          have := SOwn.kept (row := none) k4 hg4 (own_none _)
          rw [← eK] at this
          exact this
        have HLIT : Hid (SRd slE (w4.alloc (.cells #[.slice ta tn tc] 27)) (some ⟨w4.heap.size, 0, none⟩) [(ta, tn, tc)]) := sllit w4 [(ta, tn, tc)]
        have hbase : w.heap.size ≤ (w4.alloc (.cells #[.slice ta tn tc] 27)).heap.size := Nat.le_trans k1.from_.size hg4.size
        have HW4 : Hid (TwAt w (w4.alloc (.cells #[.slice ta tn tc] 27)) d mb (i + 1) (3 * (i : Int) + 2) p (va, K, vc) (rs ++ [r]) rs) := TwAt.grown ⟨n4, x4, Ls4, A4, B4, tt, k1, k2, k3, k4, k5, k6, k7, k8, k9, k10⟩ hg4
        have HTO : Hid (ToldIn w tt rs) := k3
        have HSTEP : Hid (∀ (g5 c5 : Nat) (w5 : World), SOwn slE 27 w5 w.heap.size (.slice (some ⟨g5, 0, none⟩) (K + 1) c5) (K + 1) (tt ++ [(ta, tn, tc)]) → (w4.alloc (.cells #[.slice ta tn tc] 27)).grownBy w5 (Value.ownBlock (.slice va K vc)) → (Value.ownBlock (.slice va K vc) = some g5 ∨ g5 = (w4.alloc (.cells #[.slice ta tn tc] 27)).heap.size) → TwAt w w5 d mb (i + 1) (3 * (i : Int) + 2) p (some ⟨g5, 0, none⟩, K + 1, c5) (rs ++ [r]) (rs ++ [r])) := fun g5 c5 w5 ho5 hg5 hgg5 =>
          HW4.out.told (v' := (some ⟨g5, 0, none⟩, K + 1, c5)) HTO.out (by rw [← eK]; exact ho5) hg5 (fun k hk => by
            have e : g5 = k := Option.some.inj hk
            subst e
            rcases hgg5 with h | h
            · exact .inr h
            · exact .inl (Nat.le_of_eq h.symm)) HL.out HRD.out (by omega)
        clear k1 k2 k3 k4 k5 k6 k7 k8 k9 k10 hg4 eK HA hrsl e2
        by_cases hMi : i < M
        · have hmm : (i : Int) < (M : Int) := by omega
          obtain ⟨b6, o6, bx, rfl, hbx⟩ := bools_get HO.out (i := i) (by rw [HM.out]; exact hMi)
          have HBX : Hid (∀ w', w.grownBy w' none → w'.cell? ⟨b6, o6 + i, none⟩ = some (.bool bx)) := hbx
          clear hbx
          cases bx with
          | false =>
            go_wp2_with (at_builtin; refine wpList_append_t slET rfl (.tmp 53) (.tmp 58) rfl w.heap.size (.slice va K vc) K tt rfl HSO.out ⟨w4.heap.size, 0, none⟩ [(ta, tn, tc)] 1 1 rfl rfl HLIT.out (by decide) (by omega) (by unfold maxLen; omega) hbase ?_; intro g5 c5 w5 ho5 hg5 hgg5; have HW5 : Hid (TwAt w w5 d mb (i + 1) (3 * (i : Int) + 2) p (some ⟨g5, 0, none⟩, K + 1, c5) (rs ++ [r]) (rs ++ [r])) := HSTEP.out g5 c5 w5 ho5 hg5 hgg5; clear ho5 hg5 hgg5; have hcb : w5.cell? ⟨b6, o6 + i, none⟩ = some (.bool false) := HBX.out w5 HW5.out.from_)
            go_roundw
            case rel => exact ⟨i + 1, p, _, _, by omega, rfl, rfl, by go_num, HW5.out.more (by omega) (by omega)⟩
            case measure => simp [intOf]; omega
          | true =>
            go_wp2_with (at_builtin; refine wpList_append_t slET rfl (.tmp 53) (.tmp 58) rfl w.heap.size (.slice va K vc) K tt rfl HSO.out ⟨w4.heap.size, 0, none⟩ [(ta, tn, tc)] 1 1 rfl rfl HLIT.out (by decide) (by omega) (by unfold maxLen; omega) hbase ?_; intro g5 c5 w5 ho5 hg5 hgg5; have HW5 : Hid (TwAt w w5 d mb (i + 1) (3 * (i : Int) + 2) p (some ⟨g5, 0, none⟩, K + 1, c5) (rs ++ [r]) (rs ++ [r])) := HSTEP.out g5 c5 w5 ho5 hg5 hgg5; clear ho5 hg5 hgg5; have hcb : w5.cell? ⟨b6, o6 + i, none⟩ = some (.bool true) := HBX.out w5 HW5.out.from_)
            have hsy := tw_sync HW5.out (by omega) (by omega)
            refine hsy.mono ?_
            rintro e w6 ⟨rfl, h6⟩
            have hop := tw_open h6 (by omega)
            clear hsy h6
            go_wp2_with fail
            refine hop.mono ?_
            rintro e w7 ⟨p7, v7, rfl, h7, hg7, hc7⟩
            have HW7 : Hid (TwAt w w7 d mb (i + 1) (3 * (i : Int) + 2 + 1) p7 (some ⟨g5, 0, none⟩, K + 1, c5) (rs ++ [r]) (rs ++ [r])) := h7
            clear hop h7 hg7
            go_wp2_with fail
            refine hc7.mono ?_
            rintro e w8 ⟨rfl, hg8⟩
            have HW8 : Hid (TwAt w w8 d mb (i + 1) (3 * (i : Int) + 2 + 1) p7 (some ⟨g5, 0, none⟩, K + 1, c5) (rs ++ [r]) (rs ++ [r])) := HW7.out.grown hg8
            clear hc7 hg8
            go_wp2
            go_roundw
            case rel => exact ⟨i + 1, p7, _, _, by omega, rfl, rfl, by go_num, HW8.out.more (by omega) (by omega)⟩
            case measure => simp [intOf]; omega
        · have hmm : ¬ (i : Int) < (M : Int) := by omega
          go_wp2_with (at_builtin; refine wpList_append_t slET rfl (.tmp 53) (.tmp 58) rfl w.heap.size (.slice va K vc) K tt rfl HSO.out ⟨w4.heap.size, 0, none⟩ [(ta, tn, tc)] 1 1 rfl rfl HLIT.out (by decide) (by omega) (by unfold maxLen; omega) hbase ?_; intro g5 c5 w5 ho5 hg5 hgg5; have HW5 : Hid (TwAt w w5 d mb (i + 1) (3 * (i : Int) + 2) p (some ⟨g5, 0, none⟩, K + 1, c5) (rs ++ [r]) (rs ++ [r])) := HSTEP.out g5 c5 w5 ho5 hg5 hgg5; clear ho5 hg5 hgg5)
          go_roundw
          case rel => exact ⟨i + 1, p, _, _, by omega, rfl, rfl, by go_num, HW5.out.more (by omega) (by omega)⟩
          case measure => simp [intOf]; omega
    · have hii : ¬ (i : Int) < (N : Int) := by omega
      obtain ⟨cn, hseg, hlist⟩ := tw_count htw (by omega)
      have HLI : Hid (∀ w1, wr.grownBy w1 none → Calls Tryz.prog 26 #[.pointer (some ⟨d, 0, none⟩), .string ⟨#[120, 47, 115]⟩] w1 fun e w' => ∃ a cap, e = .returned (.slice a cn cap) ∧ w1.grownBy w' none) := hlist
      have hop := tw_open htw (by omega)
      have q0 : ((cn : Int) == (cn : Int)) = true := by simp
      clear htw hlist
      go_wp2_with fail
      refine hseg.mono ?_
      rintro e _ ⟨rfl, rfl⟩
      clear hseg
      go_wp2_with fail
      refine hop.mono ?_
      rintro e w3 ⟨p3, v3, rfl, h3, hg3, hc3⟩
      have HF3 : Hid (w.grownBy w3 none) := h3.from_
      have HG3 : Hid (wr.grownBy w3 none) := hg3
      clear hop h3 hg3
      go_wp2_with fail
      refine hc3.mono ?_
      rintro e w4 ⟨rfl, hg4⟩
      have HF4 : Hid (w.grownBy w4 none) := HF3.out.trans hg4
      have hli := HLI.out w4 (HG3.out.trans hg4)
      clear hc3 hg4
      go_wp2_with fail
      refine hli.mono ?_
      rintro e w5 ⟨a5, c5, rfl, hg5⟩
      have HF5 : Hid (w.grownBy w5 none) := HF4.out.trans hg5
      have haw := w_awake w5 (HT.out.grown HF5.out)
      clear hli hg5
      go_wp2_with fail
      refine haw.mono ?_
      rintro e w6 ⟨rfl, hg6⟩
      have HF6 : Hid (w.grownBy w6 none) := HF5.out.trans hg6
      clear haw hg6
      go_wp2
      go_ret
      exact ⟨rfl, HF6.out⟩
end Go.Proofs.YtbhffjeoakalbaaGreatDoor
