/- The program's own Text. -/
import Derived.Test.YtailaehpgmpaaabEquote
namespace Go.Proofs.Ytailaehpgmpaaab
open Go.RowKit
set_option linter.unusedVariables false

/-- The bytes of the text of the first k labels. -/
def TL (ls : List Lab) (k : Nat) : List Int := sInts (textAt ls k)
theorem TL_zero (ls : List Lab) : TL ls 0 = [123] := rfl
theorem TL_next {ls : List Lab} {k : Nat} {p : Lab} (h : ls[k]? = some p) : TL ls (k + 1) = (if 0 < k then TL ls k ++ [44] else TL ls k) ++ sInts p.1 ++ [61] ++ quoteL (sInts p.2) := by
  unfold TL
  have e : ls.getD k (⟨#[]⟩, ⟨#[]⟩) = p := by rw [List.getD_eq_getElem?_getD, h]; rfl
  rw [textAt, e, tInts_app, tInts_app, tInts_app, tquote_ints]
  by_cases h0 : 0 < k
  · rw [if_pos h0, if_pos h0, tInts_app]; rfl
  · rw [if_neg h0, if_neg h0]; rfl
theorem TL_last (ls : List Lab) : sInts (labText ls) = TL ls ls.length ++ [125] := by
  unfold labText TL
  rw [tInts_app]
  rfl
theorem TL_le (ls : List Lab) (k : Nat) (hk : k ≤ ls.length) : (TL ls k).length + 1 ≤ (labText ls).size := by
  unfold TL
  rw [sInts_len]
  have h1 := textAt_le ls (ls.length - k) k
  rw [show k + (ls.length - k) = ls.length by omega] at h1
  have h2 : (labText ls).size = (textAt ls ls.length).size + 1 := by unfold labText; rw [ByteArray.size_append]; rfl
  omega

set_option maxRecDepth 20000 in
set_option maxHeartbeats 4000000 in
theorem g_labtext (a : Option Addr) (ls : List Lab) (L c : Nat) (R : ByteArray) (w : World) (hx : SRd labE w a ls) (hL : ls.length = L) (hz : L ≤ 4398046511104) (hB : (labText ls).size ≤ 140737488355000) (hR : labText ls = R) :
    Calls Try.prog 11 #[.slice a L c] w fun e w' => e = .returned (.string R) ∧ w.grownBy w' none := by
  have HX : Hid (SRd labE w a ls) := hx
  have HL : Hid (ls.length = L) := hL
  have HLE : Hid (∀ k, k ≤ L → (TL ls k).length + 1 ≤ 140737488355000) := fun k hk => Nat.le_trans (TL_le ls k (by omega)) hB
  have HRR : Hid (bs (TL ls L ++ [125]) = Lib.byteCells R.data.toList ∧ R.data.toList ≠ []) := by
    have e : sInts R = TL ls L ++ [125] := by rw [← hR, TL_last, hL]
    refine ⟨?_, ?_⟩
    · rw [← e, sInts_cells]; rfl
    · intro h0
      have h1 : (sInts R).length = 0 := by unfold sInts; rw [h0]; rfl
      rw [e, List.length_append] at h1
      simp at h1
  have HST : Hid (∀ B b w, Lib.IsBuilder 52 5 B b (Lib.byteCells R.data.toList) w → Calls Try.prog 28 #[.pointer (some ⟨b, 0, none⟩)] w fun e w' => e = .returned (.string R) ∧ Below B w w') := fun B b w h => builder_string B b R.data.toList w h HRR.out.2
  have HWB : Hid (∀ b (zs : List Int) c w1, Lib.IsBuilder 52 5 w.heap.size b (bs zs) w1 → zs.length + 1 ≤ 140737488355000 → w.heap.size ≤ w1.heap.size → Calls Try.prog 25 #[.pointer (some ⟨b, 0, none⟩), .int .u8 c] w1 fun e w' => e = .returned .nilIface ∧ Lib.IsBuilder 52 5 w.heap.size b (bs (zs ++ [c])) w' ∧ Bel w.heap.size b w1 w') := by
    intro b zs c w1 h hl hb
    have k := write_byte w.heap.size b (bs zs) c w1 h (by rw [bs_len]; omega) hb
    rw [bs_app]
    exact k
  have HWS : Hid (∀ b (zs : List Int) s w1, Lib.IsBuilder 52 5 w.heap.size b (bs zs) w1 → zs.length + s.size ≤ 140737488355000 → w.heap.size ≤ w1.heap.size → Calls Try.prog 26 #[.pointer (some ⟨b, 0, none⟩), .string s] w1 fun e w' => e = .returned (.tuple #[.int .i64 s.size, .nilIface]) ∧ Lib.IsBuilder 52 5 w.heap.size b (bs (zs ++ sInts s)) w' ∧ Bel w.heap.size b w1 w') := by
    intro b zs s w1 h hl hb
    have k := write_string w.heap.size b (bs zs) s w1 h (by rw [bs_len]; omega) hb
    rw [bs_app, sInts_cells]
    exact k
  have HWQ : Hid (∀ s w1, (quoteL (sInts s)).length ≤ 140737488355000 → s.size ≤ 140737488355328 → Calls Try.prog 27 #[.string s] w1 fun e w' => e = .returned (.string (quoteR s)) ∧ w1.grownBy w' none) := fun s w1 h hs => g_quoted s w1 (by omega) hs
  have HF : Hid (Lib.IsBuilder 52 5 w.heap.size w.heap.size (bs []) (w.alloc (.cells #[.pointer none, .slice none 0 0] 52))) := Lib.fresh_isBuilder 52 5 w
  have HSZ : Hid (w.heap.size ≤ (w.alloc (.cells #[.pointer none, .slice none 0 0] 52)).heap.size) := (World.grownBy_alloc w _ none).size
  clear hx hL hB hR
  go_enter Try.func11, Try.ntmps11
  go_wp2_with fail
  refine (HWB.out _ [] 123 _ HF.out (by simp) HSZ.out).mono ?_
  rintro e w1 ⟨rfl, hb1, hbel1⟩
  have HB1 : Hid (Lib.IsBuilder 52 5 w.heap.size w.heap.size (bs (TL ls 0)) w1) := hb1
  have HE1 : Hid (Below w.heap.size w w1) := (bel_alloc _ w.heap.size w _ (Nat.le_refl _)).1.trans hbel1.1
  clear hb1 hbel1 HF HSZ
  generalize hb : w.heap.size = b at HB1 HE1 HWB HWS ⊢
  have HBB : Hid (w.heap.size = b) := hb
  clear hb
  go_wp2
  go_loopw [9] (fun i wr => ∃ k : Nat, k ≤ L ∧ i = .int .i64 k ∧ Lib.IsBuilder 52 5 b b (bs (TL ls k)) wr ∧ Below b w wr) (fun i _ => L - (intOf i).toNat)
  case atStart => exact ⟨0, Nat.zero_le _, rfl, HB1.out, HE1.out⟩
  case round =>
    obtain ⟨k, hk, rfl, hbl, hbel⟩ := hrel
    have HB : Hid (Lib.IsBuilder 52 5 b b (bs (TL ls k)) wr) := hbl
    have HE : Hid (Below b w wr) := hbel
    have HG : Hid (w.grownBy wr none) := below_gb (by rw [HBB.out]; exact hbel)
    have HS : Hid (b ≤ wr.heap.size) := by have := hbel.size; have := HBB.out; show _ ≤ _; omega
    clear hbl hbel HB1 HE1
    by_cases hlt : k < L
    · have hl := HL.out
      obtain ⟨ba, off, rfl, hcc⟩ := (HX.out.grown HG.out (by simp)).at (by omega)
      obtain ⟨⟨s1, s2⟩, ex⟩ : ∃ x, ls[k]? = some x := ⟨_, List.getElem?_eq_getElem (by omega)⟩
      have a0 : wr.cell? ⟨ba, off + k * 2, none⟩ = some (.string s1) := hcc k _ 0 _ ex rfl
      have a1 : wr.cell? ⟨ba, off + k * 2 + 1, none⟩ = some (.string s2) := by rw [Nat.add_assoc]; exact hcc k _ 1 _ ex rfl
      have HN : Hid (TL ls (k + 1) = (if 0 < k then TL ls k ++ [44] else TL ls k) ++ sInts s1 ++ [61] ++ quoteL (sInts s2)) := TL_next ex
      have HLN := HLE.out (k + 1) (by omega)
      rw [HN.out] at HLN
      simp only [List.length_append, List.length_cons, List.length_nil, sInts_len] at HLN
      have hq2 : s2.size + 2 ≤ (quoteL (sInts s2)).length := by
        unfold quoteL
        have : (sInts s2).length ≤ ((sInts s2).flatMap q1).length := by
          rw [List.length_flatMap]
          generalize sInts s2 = l
          induction l with
          | nil => simp
          | cons c l ih =>
            have h1 : 1 ≤ (q1 c).length := by unfold q1; split <;> (try split) <;> simp
            simp only [List.map_cons, List.sum_cons, List.length_cons]
            omega
        rw [sInts_len] at this
        simp only [List.length_append, List.length_cons, List.length_nil]
        omega
      have hki : (k : Int) < (L : Int) := by omega
      have HBA : Hid (Lib.IsBuilder 52 5 b b (bs (TL ls k)) (wr.alloc (.cells #[.string s1, .string s2] 27))) := bld_grown HB.out (World.grownBy_alloc wr _ none)
      have HSA : Hid (b ≤ (wr.alloc (.cells #[.string s1, .string s2] 27)).heap.size) := Nat.le_trans HS.out (World.grownBy_alloc wr _ none).size
      have HEA : Hid (Bel b b wr (wr.alloc (.cells #[.string s1, .string s2] 27))) := bel_alloc b b wr _ HS.out
      have HPA : Hid ((wr.alloc (.cells #[.string s1, .string s2] 27)).heap[wr.heap.size]? = some (.cells #[.string s1, .string s2] 27 (0, 0))) := heap_alloc_new wr _
      have HNE : Hid (some wr.heap.size ≠ some b) := fun e => by
        have h1 := Option.some.inj e
        have h2 : b < wr.heap.size := HB.out.elim (fun x => x.lt) (fun x => x.lt)
        omega
      have HKP : Hid (∀ w1 w2 : World, w1.heap[wr.heap.size]? = some (.cells #[.string s1, .string s2] 27 (0, 0)) → Bel b b w1 w2 → w2.heap[wr.heap.size]? = some (.cells #[.string s1, .string s2] 27 (0, 0))) := fun w1 w2 h hb => hb.2 _ _ h HNE.out (fun c fz e => by cases e)
      by_cases h0 : 0 < k
      · rw [if_pos h0] at HN HLN
        have HX0 : Hid (TL ls k ++ [44] = TL ls k ++ [44]) := rfl
        have HL0 : Hid ((TL ls k).length + 1 ≤ 140737488355000) := HLE.out k (by omega)
        simp only [List.length_append, List.length_cons, List.length_nil] at HLN
        generalize hX : TL ls k ++ [44] = X at HN HX0
        have hXl : X.length = (TL ls k).length + 1 := by rw [← hX]; simp
        have HXE : Hid (TL ls k ++ [44] = X) := hX
        have HL1 : Hid (X.length + s1.size ≤ 140737488355000) := by show _ ≤ _; omega
        have HL2 : Hid ((X ++ sInts s1).length + 1 ≤ 140737488355000) := by show _ ≤ _; simp only [List.length_append, sInts_len]; omega
        have HL3 : Hid ((X ++ sInts s1 ++ [61]).length + (quoteL (sInts s2)).length ≤ 140737488355000) := by show _ ≤ _; simp only [List.length_append, sInts_len, List.length_cons, List.length_nil]; omega
        have HL4 : Hid (s2.size ≤ 140737488355328) := by show _ ≤ _; omega
        have HL5 : Hid ((quoteL (sInts s2)).length ≤ 140737488355000) := by show _ ≤ _; omega
        have hk0 : decide ((0 : Int) < (k : Int)) = true := by simp; omega
        clear hcc ex hl HLN hq2 hX hXl HX0
        go_wp2_with fail
        refine (HWB.out _ (TL ls k) 44 _ HBA.out HL0.out HSA.out).mono ?_
        rintro e w1 ⟨rfl, hb1, hbel1⟩
        have HB1 : Hid (Lib.IsBuilder 52 5 b b (bs X) w1) := by rw [← HXE.out]; exact hb1
        have HE1 : Hid (Bel b b wr w1) := HEA.out.trans hbel1
        have HP1 : Hid (w1.heap[wr.heap.size]? = some (.cells #[.string s1, .string s2] 27 (0, 0))) := HKP.out _ _ HPA.out hbel1
        have HS1 : Hid (b ≤ w1.heap.size) := Nat.le_trans HSA.out hbel1.size
        clear hb1 hbel1 HBA HEA HPA HSA
        have cA := HP1.out
        have c0 : w1.cell? ⟨wr.heap.size, 0, none⟩ = some (.string s1) := by rw [cell_of_row w1 _ 0 _ _ _ cA]; rfl
        clear cA
        go_wp2_with fail
        refine (HWS.out _ X s1 w1 HB1.out HL1.out HS1.out).mono ?_
        rintro e w2 ⟨rfl, hb2, hbel2⟩
        have HB2 : Hid (Lib.IsBuilder 52 5 b b (bs (X ++ sInts s1)) w2) := hb2
        have HE2 : Hid (Bel b b wr w2) := HE1.out.trans hbel2
        have HP2 : Hid (w2.heap[wr.heap.size]? = some (.cells #[.string s1, .string s2] 27 (0, 0))) := HKP.out _ _ HP1.out hbel2
        have HS2 : Hid (b ≤ w2.heap.size) := Nat.le_trans HS1.out hbel2.size
        clear hb2 hbel2 c0 HP1 HB1 HE1
        go_wp2_with fail
        refine (HWB.out _ (X ++ sInts s1) 61 w2 HB2.out HL2.out HS2.out).mono ?_
        rintro e w3 ⟨rfl, hb3, hbel3⟩
        have HB3 : Hid (Lib.IsBuilder 52 5 b b (bs (X ++ sInts s1 ++ [61])) w3) := hb3
        have HE3 : Hid (Bel b b wr w3) := HE2.out.trans hbel3
        have HP3 : Hid (w3.heap[wr.heap.size]? = some (.cells #[.string s1, .string s2] 27 (0, 0))) := HKP.out _ _ HP2.out hbel3
        have HS3 : Hid (b ≤ w3.heap.size) := Nat.le_trans HS2.out hbel3.size
        have cA := HP3.out
        have c1 : w3.cell? ⟨wr.heap.size, 1, none⟩ = some (.string s2) := by rw [cell_of_row w3 _ 1 _ _ _ cA]; rfl
        clear hb3 hbel3 HP2 HB2 HE2 cA
        go_wp2_with fail
        refine (HWQ.out s2 w3 HL5.out HL4.out).mono ?_
        rintro e w5 ⟨rfl, hg5⟩
        have HB5 := hid (bld_grown HB3.out hg5)
        have HE5 : Hid (Below b w w5) := HE.out.trans (HE3.out.1.grown hg5 HS3.out (by simp))
        have HS5 := hid (Nat.le_trans HS3.out hg5.size)
        clear hg5 c1
        go_wp2_with fail
        refine (HWS.out _ (X ++ sInts s1 ++ [61]) (quoteR s2) w5 HB5.out (by rw [← sInts_len, tquote_ints]; exact HL3.out) HS5.out).mono ?_
        rintro e w4 ⟨rfl, hb4, hbel4⟩
        have HB4 : Hid (Lib.IsBuilder 52 5 b b (bs (TL ls (k + 1))) w4) := by rw [HN.out, ← tquote_ints]; exact hb4
        have HE4 : Hid (Below b w w4) := HE5.out.trans hbel4.1
        clear hb4 hbel4
        go_wp2
        go_roundw
        case rel => exact ⟨k + 1, by omega, by go_num, HB4.out, HE4.out⟩
        case measure => simp [intOf]; omega
      · rw [if_neg h0] at HN HLN
        generalize hX : TL ls k = X at HN HLN HBA
        have HL1 : Hid (X.length + s1.size ≤ 140737488355000) := by show _ ≤ _; omega
        have HL2 : Hid ((X ++ sInts s1).length + 1 ≤ 140737488355000) := by show _ ≤ _; simp only [List.length_append, sInts_len]; omega
        have HL3 : Hid ((X ++ sInts s1 ++ [61]).length + (quoteL (sInts s2)).length ≤ 140737488355000) := by show _ ≤ _; simp only [List.length_append, sInts_len, List.length_cons, List.length_nil]; omega
        have HL4 : Hid (s2.size ≤ 140737488355328) := by show _ ≤ _; omega
        have HL5 : Hid ((quoteL (sInts s2)).length ≤ 140737488355000) := by show _ ≤ _; omega
        have hk0 : decide ((0 : Int) < (k : Int)) = false := by simp; omega
        obtain ⟨w1, ew⟩ : ∃ w1, w1 = wr.alloc (.cells #[.string s1, .string s2] 27) := ⟨_, rfl⟩
        rw [← ew] at HBA HEA HPA HSA
        have HB1 : Hid (Lib.IsBuilder 52 5 b b (bs X) w1) := HBA
        have HE1 : Hid (Bel b b wr w1) := HEA
        have HP1 : Hid (w1.heap[wr.heap.size]? = some (.cells #[.string s1, .string s2] 27 (0, 0))) := HPA
        have HS1 : Hid (b ≤ w1.heap.size) := HSA
        clear hcc ex hl HLN hq2 hX HBA HEA HPA HSA
        go_wp2_with fail
        rw [← ew]
        clear ew
        have cA := HP1.out
        have c0 : w1.cell? ⟨wr.heap.size, 0, none⟩ = some (.string s1) := by rw [cell_of_row w1 _ 0 _ _ _ cA]; rfl
        clear cA
        refine (HWS.out _ X s1 w1 HB1.out HL1.out HS1.out).mono ?_
        rintro e w2 ⟨rfl, hb2, hbel2⟩
        have HB2 : Hid (Lib.IsBuilder 52 5 b b (bs (X ++ sInts s1)) w2) := hb2
        have HE2 : Hid (Bel b b wr w2) := HE1.out.trans hbel2
        have HP2 : Hid (w2.heap[wr.heap.size]? = some (.cells #[.string s1, .string s2] 27 (0, 0))) := HKP.out _ _ HP1.out hbel2
        have HS2 : Hid (b ≤ w2.heap.size) := Nat.le_trans HS1.out hbel2.size
        clear hb2 hbel2 c0 HP1 HB1 HE1
        go_wp2_with fail
        refine (HWB.out _ (X ++ sInts s1) 61 w2 HB2.out HL2.out HS2.out).mono ?_
        rintro e w3 ⟨rfl, hb3, hbel3⟩
        have HB3 : Hid (Lib.IsBuilder 52 5 b b (bs (X ++ sInts s1 ++ [61])) w3) := hb3
        have HE3 : Hid (Bel b b wr w3) := HE2.out.trans hbel3
        have HP3 : Hid (w3.heap[wr.heap.size]? = some (.cells #[.string s1, .string s2] 27 (0, 0))) := HKP.out _ _ HP2.out hbel3
        have HS3 : Hid (b ≤ w3.heap.size) := Nat.le_trans HS2.out hbel3.size
        have cA := HP3.out
        have c1 : w3.cell? ⟨wr.heap.size, 1, none⟩ = some (.string s2) := by rw [cell_of_row w3 _ 1 _ _ _ cA]; rfl
        clear hb3 hbel3 HP2 HB2 HE2 cA
        go_wp2_with fail
        refine (HWQ.out s2 w3 HL5.out HL4.out).mono ?_
        rintro e w5 ⟨rfl, hg5⟩
        have HB5 := hid (bld_grown HB3.out hg5)
        have HE5 : Hid (Below b w w5) := HE.out.trans (HE3.out.1.grown hg5 HS3.out (by simp))
        have HS5 := hid (Nat.le_trans HS3.out hg5.size)
        clear hg5 c1
        go_wp2_with fail
        refine (HWS.out _ (X ++ sInts s1 ++ [61]) (quoteR s2) w5 HB5.out (by rw [← sInts_len, tquote_ints]; exact HL3.out) HS5.out).mono ?_
        rintro e w4 ⟨rfl, hb4, hbel4⟩
        have HB4 : Hid (Lib.IsBuilder 52 5 b b (bs (TL ls (k + 1))) w4) := by rw [HN.out, ← tquote_ints]; exact hb4
        have HE4 : Hid (Below b w w4) := HE5.out.trans hbel4.1
        clear hb4 hbel4
        go_wp2
        go_roundw
        case rel => exact ⟨k + 1, by omega, by go_num, HB4.out, HE4.out⟩
        case measure => simp [intOf]; omega
    · have HLk : Hid ((TL ls L).length + 1 ≤ 140737488355000) := HLE.out L (Nat.le_refl _)
      obtain rfl : k = L := by omega
      have hki : ¬ (k : Int) < (k : Int) := by omega
      go_wp2_with fail
      refine (HWB.out _ (TL ls k) 125 wr HB.out HLk.out HS.out).mono ?_
      rintro e w1 ⟨rfl, hb1, hbel1⟩
      have HB1 : Hid (Lib.IsBuilder 52 5 b b (Lib.byteCells R.data.toList) w1) := by rw [← HRR.out.1]; exact hb1
      have HE1 : Hid (Below b w w1) := HE.out.trans hbel1.1
      clear hb1 hbel1
      go_wp2_with fail
      refine (HST.out b b w1 HB1.out).mono ?_
      rintro e w2 ⟨rfl, hbel2⟩
      have HE2 : Hid (Below b w w2) := HE1.out.trans hbel2
      clear hbel2
      go_wp2
      go_ret
      exact ⟨rfl, below_gb (by rw [HBB.out]; exact HE2.out)⟩
end Go.Proofs.Ytailaehpgmpaaab
