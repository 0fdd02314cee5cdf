/- The document's text. -/
import Derived.Test.YtkocdmkojoefoaaRa
import Derived.Test.YtkocdmkojoefoaaTx
namespace Go.Proofs.Ytkocdmkojoefoaa
open Go.RowKit
set_option linter.unusedVariables false
set_option maxRecDepth 20000

/-- What text answers at a place. -/
def TtOut (k0 : Nat) (X : List Int × Nat) (w : World) (e : Ending) (w' : World) : Prop :=
  (if X.2 = 0 then e = .returned (.tuple #[.string ⟨#[]⟩, .int .i64 0, .bool false]) else e = .returned (.tuple #[.string (strOfNums X.1), .int .i64 ((k0 + 1 + X.2 : Nat) : Int), .bool true])) ∧ w.grownBy w' none
theorem tt_bad {k0 : Nat} {X : List Int × Nat} {w W : World} (hX : X.2 = 0) (hg : w.grownBy W none) : TtOut k0 X w (.returned (.tuple #[.string ⟨#[]⟩, .int .i64 0, .bool false])) W := ⟨by rw [if_pos hX], hg⟩
theorem tt_ok {k0 n : Nat} {X : List Int × Nat} {out : List Int} {w W : World} {t : ByteArray} {v : Int} (hX : X = (out, n)) (hn : n ≠ 0) (ht : t = strOfNums out) (hv : v = ((k0 + 1 + n : Nat) : Int)) (hg : w.grownBy W none) : TtOut k0 X w (.returned (.tuple #[.string t, .int .i64 v, .bool true])) W := by
  subst hX ht hv
  exact ⟨by rw [if_neg hn], hg⟩
/-- The bytes gathered so far. -/
structure TtW (w W : World) (v : Value) (out : List Int) : Prop where
  own : SOwn byteE 5 W w.heap.size v out.length out
  gb : w.grownBy W none
theorem TtW.app {w W W1 W2 : World} {v v2 : Value} {out : List Int} {c : Int} (h : TtW w W v out) (hg : W.grownBy W1 none) (ho : SOwn byteE 5 W2 w.heap.size v2 (out.length + 1) (out ++ [c])) (hg2 : W1.grownBy W2 v.ownBlock) : TtW w W2 v2 (out ++ [c]) :=
  ⟨by rw [List.length_append]; exact ho, gb_trans (h.gb.trans hg) hg2 (fun k hk => .inl (SOwn.block h.own k hk).1)⟩
set_option maxHeartbeats 8000000 in
theorem r_text (s : ByteArray) (k0 : Nat) (w : World) (hs : s.size ≤ 4096) (hk0 : k0 < s.size) :
    Calls Try.prog 21 #[.string s, .int .i64 (k0 : Int)] w fun e w' => TtOut k0 (textR ((sInts s).drop (k0 + 1))) w e w' := by
  obtain ⟨l, el⟩ : ∃ l, (sInts s).drop k0 = l := ⟨_, rfl⟩
  have HL : Hid (l.length = s.size - k0) := by show _ = _; rw [← el, List.length_drop, sInts_len]
  have HD : Hid ((sInts s).drop (k0 + 1) = l.drop 1) := by show _ = _; rw [← el, List.drop_drop]
  have HG : Hid (∀ j, byteAt s (k0 + j) = l.getD j 0) := fun j => by rw [← el, getD_drop]; rfl
  rw [HD.out]
  generalize hX : textR (l.drop 1) = X
  have HX : Hid (textR (l.drop 1) = X) := hX
  clear hX el
  go_enter Try.func21, Try.ntmps21
  go_wp2
  go_loopw [7, 8] (fun t7 t8 wr => ∃ (j : Nat) (v : Value) (out : List Int), k0 + j ≤ s.size ∧ t8 = .int .i64 ((k0 + j : Nat) : Int) ∧ t7 = v ∧ TtW w wr v out ∧ TxAt l j out) (fun _ t8 _ => s.size - (intOf t8).toNat)
  case atStart => exact ⟨1, _, [], by omega, by go_num, rfl, ⟨SOwn.nil 5 _ _, World.grownBy.refl _ _⟩, TxAt.start l⟩
  case round =>
    obtain ⟨j, v, out, hj, rfl, hv, hw, ht⟩ := hrel
    obtain ⟨a, c, rfl⟩ := sown_slice hw.own
    subst hv
    obtain ⟨k, hk⟩ : ∃ k, k = k0 + j := ⟨_, rfl⟩
    have HK : Hid (k = k0 + j) := hk
    have hol : out.length ≤ 4096 := by have := ht.2.2.1; omega
    have HJ1 : Hid (1 ≤ j ∧ ∀ z ∈ out, 0 ≤ z ∧ z ≤ 255) := ⟨ht.2.1, ht.2.2.2⟩
    rw [← hk]
    rw [← hk] at hj
    have HTW : Hid (TtW w wr (.slice a out.length c) out) := hw
    have hbd := byteAt_bd s k
    have hbe : byteAt s k = l.getD j 0 := by rw [hk]; exact HG.out j
    have HQ : Hid (byteAt s k = 34 → X = (out, j)) := fun h => by rw [← HX.out]; exact (ht.quote (by rw [← hbe]; exact h)).1
    have HBD : Hid (byteAt s k ≠ 34 → byteAt s k < 32 → X.2 = 0) := fun h h2 => by rw [← HX.out]; exact ht.bad (by rw [← hbe]; exact h) (by rw [← hbe]; exact h2)
    have HPL : Hid (byteAt s k ≠ 34 → ¬ byteAt s k < 32 → byteAt s k ≠ 92 → TxAt l (j + 1) (out ++ [byteAt s k])) := fun h1 h2 h3 => by
      have h := (ht.plain (by rw [← hbe]; exact h1) (by rw [← hbe]; exact h2) (by rw [← hbe]; exact h3) (by rw [← hbe]; exact hbd.2)).2
      rw [← hbe] at h
      exact h
    have hbe2 : byteAt s (k + 1) = l.getD (j + 1) 0 := by rw [hk]; exact HG.out (j + 1)
    have HES : Hid (byteAt s k = 92 → ∀ d : Int, (byteAt s (k + 1) = 34 ∨ byteAt s (k + 1) = 92) ∧ d = byteAt s (k + 1) ∨ byteAt s (k + 1) = 110 ∧ d = 10 → TxAt l (j + 2) (out ++ [d])) := fun h d hd => (ht.esc (by rw [← hbe]; exact h) (by rw [← hbe2]; exact hd)).2
    have HEB : Hid (byteAt s k = 92 → byteAt s (k + 1) ≠ 34 ∧ byteAt s (k + 1) ≠ 92 ∧ byteAt s (k + 1) ≠ 110 → X.2 = 0) := fun h hd => by rw [← HX.out]; exact ht.esc_bad (by rw [← hbe]; exact h) (by rw [← hbe2]; exact hd)
    have HEND : Hid (¬ k < s.size → X.2 = 0) := fun h => by
      have e : byteAt s k = 0 := by unfold byteAt; rw [List.getD_eq_getElem?_getD, List.getElem?_eq_none (by rw [sInts_len]; omega)]; rfl
      exact HBD.out (by rw [e]; decide) (by rw [e]; decide)
    have hcv := conv_rd wr a out out.length c (srd_rd (SOwn.rd hw.own) HJ1.out.2) rfl
    have HXG : Hid (∀ x : Int, SOwn byteE 5 (wr.alloc (.cells #[.int .u8 x] 5)) w.heap.size (.slice a out.length c) out.length out ∧ SRd byteE (wr.alloc (.cells #[.int .u8 x] 5)) (some ⟨wr.heap.size, 0, none⟩) [x] ∧ wr.grownBy (wr.alloc (.cells #[.int .u8 x] 5)) none) := fun x =>
      ⟨SOwn.kept hw.own (World.grownBy_alloc wr _ none) (Classical.em _), srd_lit byteE 5 wr [x], World.grownBy_alloc wr _ none⟩
    clear hw ht hk hbe hbe2
    generalize hst : strOfNums out = st at hcv
    have HST : Hid (st = strOfNums out) := hst.symm
    clear hst
    generalize hn : out.length = n at HTW hcv HXG hol
    have HN : Hid (out.length = n) := hn
    clear hn
    have HAP : Hid (∀ (W1 W2 : World) (v2 : Value) (x : Int), wr.grownBy W1 none → SOwn byteE 5 W2 w.heap.size v2 (n + 1) (out ++ [x]) → W1.grownBy W2 (Value.ownBlock (.slice a n c)) → TtW w W2 v2 (out ++ [x])) := fun W1 W2 v2 x h1 h2 h3 => by
      have e := HN.out
      subst e
      exact HTW.out.app h1 h2 h3
    by_cases hlt : k < s.size
    · have hki : (k : Int) < (s.size : Int) := by omega
      have hidx := idx9 s k hlt
      have hidx2 : k + 1 < s.size → ∀ w, (Instr.index 9 (.string s) (.int .i64 ((k : Int) + 1))).run Try.prog w = .ok (.int .u8 (byteAt s (k + 1))) w := fun h => by
        have h2 := idx9 s (k + 1) h
        rw [show ((k + 1 : Nat) : Int) = (k : Int) + 1 by omega] at h2
        exact h2
      have hz1 : ¬ k + 1 < s.size → byteAt s (k + 1) = 0 := fun h => by unfold byteAt; rw [List.getD_eq_getElem?_getD, List.getElem?_eq_none (by rw [sInts_len]; omega)]; rfl
      generalize byteAt s (k + 1) = d at HES HEB hidx2 hz1
      generalize byteAt s k = b at HQ HBD HPL HES HEB hidx hbd
      by_cases h34 : b = 34
      · have HE := hid (HQ.out h34)
        clear HQ HBD HPL HES HEB HEND hidx2 hz1 HXG HAP
        subst h34
        go_wp2
        refine bodyPost_ret (v := .tuple #[.string st, .int .i64 ((k : Int) + 1), .bool true]) (by simp [results, Try.results21, go_sem]) rfl ?_
        exact tt_ok HE.out (by have := HJ1.out.1; omega) HST.out (by have := HK.out; omega) HTW.out.gb
      have q1 : (b == 34) = false := by simpa using h34
      by_cases h32 : b < 32
      · have HE := hid (HBD.out h34 h32)
        have q2 : decide (b < 32) = true := by simpa using h32
        clear HQ HBD HPL HES HEB HEND hidx2 hz1 HXG HAP
        go_wp2
        refine bodyPost_ret (v := .tuple #[.string ⟨#[]⟩, .int .i64 0, .bool false]) (by simp [results, Try.results21, go_sem]) rfl ?_
        exact tt_bad HE.out HTW.out.gb
      have q2 : decide (b < 32) = false := by simpa using h32
      by_cases h92 : b = 92
      · clear HQ HBD HPL HEND h34 h32 q1 q2
        subst h92
        by_cases hk1 : k + 1 < s.size
        · have hki1 : ¬ (s.size : Int) ≤ (k : Int) + 1 := by omega
          have hix := hidx2 hk1
          clear hidx2 hz1
          by_cases g34 : d = 34
          · subst g34
            have HT2 := hid (HES.out rfl 34 (.inl ⟨.inl rfl, rfl⟩))
            clear HES HEB
            have HXX : Hid (SOwn byteE 5 (wr.alloc (.cells #[.int .u8 34] 5)) w.heap.size (.slice a n c) n out ∧ SRd byteE (wr.alloc (.cells #[.int .u8 34] 5)) (some ⟨wr.heap.size, 0, none⟩) [34] ∧ wr.grownBy (wr.alloc (.cells #[.int .u8 34] 5)) none) := HXG.out 34
            have hx4 : w.heap.size ≤ (wr.alloc (.cells #[.int .u8 34] 5)).heap.size := by
              have := HTW.out.gb.size
              rw [size_alloc]
              omega
            clear HXG
            go_wp2_with (at_builtin; refine wpList_append_s byteET rfl (.tmp 73) (.tmp 77) rfl w.heap.size (.slice a n c) n out rfl HXX.out.1 (some ⟨wr.heap.size, 0, none⟩) [34] 1 1 rfl rfl HXX.out.2.1 (by simp) (by omega) (by unfold maxLen; omega) hx4 ?_; intro v2 w2 ho2 hg2 hn2; have HO2 := hid ho2; have HG2 := hid hg2; clear ho2 hg2 hn2)
            have HTW2 : Hid (TtW w w2 v2 (out ++ [34])) := HAP.out _ _ _ _ HXX.out.2.2 HO2.out HG2.out
            clear HO2 HG2
            go_wp2
            go_roundw
            case rel => exact ⟨j + 2, v2, out ++ [34], by have := HK.out; omega, by rw [show k0 + (j + 2) = k + 1 + 1 by have := HK.out; omega]; go_num, rfl, HTW2.out, HT2.out⟩
            case measure => simp [intOf]; omega
          have p1 : (d == 34) = false := by simpa using g34
          have p1' : (d != 34) = true := by simpa using g34
          by_cases g92 : d = 92
          · subst g92
            have HT2 := hid (HES.out rfl 92 (.inl ⟨.inr rfl, rfl⟩))
            clear HES HEB g34
            have HXX : Hid (SOwn byteE 5 (wr.alloc (.cells #[.int .u8 92] 5)) w.heap.size (.slice a n c) n out ∧ SRd byteE (wr.alloc (.cells #[.int .u8 92] 5)) (some ⟨wr.heap.size, 0, none⟩) [92] ∧ wr.grownBy (wr.alloc (.cells #[.int .u8 92] 5)) none) := HXG.out 92
            have hx4 : w.heap.size ≤ (wr.alloc (.cells #[.int .u8 92] 5)).heap.size := by
              have := HTW.out.gb.size
              rw [size_alloc]
              omega
            clear HXG
            go_wp2_with (at_builtin; refine wpList_append_s byteET rfl (.tmp 73) (.tmp 77) rfl w.heap.size (.slice a n c) n out rfl HXX.out.1 (some ⟨wr.heap.size, 0, none⟩) [92] 1 1 rfl rfl HXX.out.2.1 (by simp) (by omega) (by unfold maxLen; omega) hx4 ?_; intro v2 w2 ho2 hg2 hn2; have HO2 := hid ho2; have HG2 := hid hg2; clear ho2 hg2 hn2)
            have HTW2 : Hid (TtW w w2 v2 (out ++ [92])) := HAP.out _ _ _ _ HXX.out.2.2 HO2.out HG2.out
            clear HO2 HG2
            go_wp2
            go_roundw
            case rel => exact ⟨j + 2, v2, out ++ [92], by have := HK.out; omega, by rw [show k0 + (j + 2) = k + 1 + 1 by have := HK.out; omega]; go_num, rfl, HTW2.out, HT2.out⟩
            case measure => simp [intOf]; omega
          have p2 : (d == 92) = false := by simpa using g92
          have p2' : (d != 92) = true := by simpa using g92
          by_cases g110 : d = 110
          · subst g110
            have HT2 := hid (HES.out rfl 10 (.inr ⟨rfl, rfl⟩))
            clear HES HEB g34 g92
            have HXX : Hid (SOwn byteE 5 (wr.alloc (.cells #[.int .u8 10] 5)) w.heap.size (.slice a n c) n out ∧ SRd byteE (wr.alloc (.cells #[.int .u8 10] 5)) (some ⟨wr.heap.size, 0, none⟩) [10] ∧ wr.grownBy (wr.alloc (.cells #[.int .u8 10] 5)) none) := HXG.out 10
            have hx4 : w.heap.size ≤ (wr.alloc (.cells #[.int .u8 10] 5)).heap.size := by
              have := HTW.out.gb.size
              rw [size_alloc]
              omega
            clear HXG
            go_wp2_with (at_builtin; refine wpList_append_s byteET rfl (.tmp 70) (.tmp 71) rfl w.heap.size (.slice a n c) n out rfl HXX.out.1 (some ⟨wr.heap.size, 0, none⟩) [10] 1 1 rfl rfl HXX.out.2.1 (by simp) (by omega) (by unfold maxLen; omega) hx4 ?_; intro v2 w2 ho2 hg2 hn2; have HO2 := hid ho2; have HG2 := hid hg2; clear ho2 hg2 hn2)
            have HTW2 : Hid (TtW w w2 v2 (out ++ [10])) := HAP.out _ _ _ _ HXX.out.2.2 HO2.out HG2.out
            clear HO2 HG2
            go_wp2
            go_roundw
            case rel => exact ⟨j + 2, v2, out ++ [10], by have := HK.out; omega, by rw [show k0 + (j + 2) = k + 1 + 1 by have := HK.out; omega]; go_num, rfl, HTW2.out, HT2.out⟩
            case measure => simp [intOf]; omega
          have p3 : (d == 110) = false := by simpa using g110
          have p3' : (d != 110) = true := by simpa using g110
          have HE := hid (HEB.out rfl ⟨g34, g92, g110⟩)
          clear HES HEB g34 g92 g110 HXG HAP
          go_wp2
          refine bodyPost_ret (v := .tuple #[.string ⟨#[]⟩, .int .i64 0, .bool false]) (by simp [results, Try.results21, go_sem]) rfl ?_
          exact tt_bad HE.out HTW.out.gb
        · have hki1 : (s.size : Int) ≤ (k : Int) + 1 := by omega
          have HE := hid (HEB.out rfl (by rw [hz1 hk1]; decide))
          clear HES HEB hidx2 hz1 HXG HAP
          go_wp2
          refine bodyPost_ret (v := .tuple #[.string ⟨#[]⟩, .int .i64 0, .bool false]) (by simp [results, Try.results21, go_sem]) rfl ?_
          exact tt_bad HE.out HTW.out.gb
      have q3 : (b == 92) = false := by simpa using h92
      have HT2 := hid (HPL.out h34 h32 h92)
      clear HQ HBD HPL HES HEB HEND hidx2 hz1 h34 h32 h92
      have HXX : Hid (SOwn byteE 5 (wr.alloc (.cells #[.int .u8 b] 5)) w.heap.size (.slice a n c) n out ∧ SRd byteE (wr.alloc (.cells #[.int .u8 b] 5)) (some ⟨wr.heap.size, 0, none⟩) [b] ∧ wr.grownBy (wr.alloc (.cells #[.int .u8 b] 5)) none) := HXG.out b
      have hx4 : w.heap.size ≤ (wr.alloc (.cells #[.int .u8 b] 5)).heap.size := by
        have := HTW.out.gb.size
        rw [size_alloc]
        omega
      clear HXG
      go_wp2_with (at_builtin; refine wpList_append_s byteET rfl (.tmp 17) (.tmp 21) rfl w.heap.size (.slice a n c) n out rfl HXX.out.1 (some ⟨wr.heap.size, 0, none⟩) [b] 1 1 rfl rfl HXX.out.2.1 (by simp) (by omega) (by unfold maxLen; omega) hx4 ?_; intro v2 w2 ho2 hg2 hn2; have HO2 := hid ho2; have HG2 := hid hg2; clear ho2 hg2 hn2)
      have HTW2 : Hid (TtW w w2 v2 (out ++ [b])) := HAP.out _ _ _ _ HXX.out.2.2 HO2.out HG2.out
      clear HO2 HG2
      go_wp2
      go_roundw
      case rel => exact ⟨j + 1, v2, out ++ [b], by have := HK.out; omega, by rw [show k0 + (j + 1) = k + 1 by have := HK.out; omega]; go_num, rfl, HTW2.out, HT2.out⟩
      case measure => simp [intOf]; omega
    · have hki : ¬ (k : Int) < (s.size : Int) := by omega
      have HE := hid (HEND.out hlt)
      clear HQ HBD HPL HES HEB HEND HXG HAP
      go_wp2
      refine bodyPost_ret (v := .tuple #[.string ⟨#[]⟩, .int .i64 0, .bool false]) (by simp [results, Try.results21, go_sem]) rfl ?_
      exact tt_bad HE.out HTW.out.gb
end Go.Proofs.Ytkocdmkojoefoaa
