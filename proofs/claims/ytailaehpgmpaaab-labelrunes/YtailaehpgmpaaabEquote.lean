/- The program's own quote.Text. -/
import Derived.Test.YtailaehpgmpaaabEbld
import Derived.Test.YtailaehpgmpaaabRtext
namespace Go.Proofs.Ytailaehpgmpaaab
open Go.RowKit
set_option linter.unusedVariables false

theorem QAt.le {s : ByteArray} {k : Nat} {zk : List Int} (h : QAt s k zk) : zk.length + 1 ≤ (quoteL (sInts s)).length := by
  unfold QAt at h
  have e : (sInts s).flatMap q1 = ((sInts s).take k).flatMap q1 ++ ((sInts s).drop k).flatMap q1 := by rw [← List.flatMap_append, List.take_append_drop]
  unfold quoteL
  rw [h, e]
  simp only [List.length_append, List.length_cons, List.length_nil]
  omega
theorem QAt.done {s : ByteArray} {k : Nat} {zk : List Int} (h : QAt s k zk) (hk : s.size ≤ k) : zk ++ [34] = quoteL (sInts s) := by
  unfold QAt at h
  unfold quoteL
  rw [h, List.take_of_length_le (by rw [sInts_len]; omega)]
theorem nl_cells : Lib.strCells ⟨#[92, 110]⟩ = bs [92, 110] := rfl

theorem hid {p : Prop} (h : p) : Hid p := h
theorem bld_grown {B b : Nat} {cs : List Value} {w w' : World} (h : Lib.IsBuilder 52 5 B b cs w) (hg : w.grownBy w' none) : Lib.IsBuilder 52 5 B b cs w' := by
  have one : ∀ p, Lib.BuilderAt 52 5 B b p cs w → Lib.BuilderAt 52 5 B b p cs w' := fun p k => by
    have hlt := k.lt
    obtain ⟨hB, v, hbk, hown, hne⟩ := k
    exact ⟨hB, v, (hg.block b hlt (by simp)).trans hbk, World.ownsRow.kept hown hg (Classical.em _), hne⟩
  exact h.elim (fun x => .inl (one _ x)) (fun x => .inr (one _ x))
theorem bel_alloc (B b : Nat) (w : World) (o : Obj) (h : B ≤ w.heap.size) : Bel B b w (w.alloc o) := ⟨(Below.refl B w).alloc h o, (Lib.OthersKept.refl _ _ w).alloc o⟩
theorem tInts_app (s t : ByteArray) : sInts (s ++ t) = sInts s ++ sInts t := by
  unfold sInts
  rw [ByteArray.data_append, Array.toList_append, List.map_append]
theorem tStr_ints (s : ByteArray) : strOfNums (sInts s) = s := by
  apply ByteArray.ext
  apply Array.toList_inj.1
  rw [strOfNums_data, sInts, List.map_map]
  conv => rhs; rw [← List.map_id s.data.toList]
  apply List.map_congr_left
  intro b _
  simp
theorem tInts_str (l : List Int) (hl : ∀ z ∈ l, 0 ≤ z ∧ z ≤ 255) : sInts (strOfNums l) = l :=
  strOfNums_inj (sInts_byte _) hl (by rw [tStr_ints])
theorem tquote_ints (s : ByteArray) : sInts (quoteR s) = quoteL (sInts s) := by
  unfold quoteR
  refine tInts_str _ ?_
  intro z hz
  unfold quoteL at hz
  simp only [List.mem_append, List.mem_flatMap, List.mem_cons, List.not_mem_nil, or_false] at hz
  rcases hz with (rfl | ⟨c, hc, hz⟩) | rfl
  · omega
  · have h := sInts_byte s c hc
    unfold q1 at hz
    split at hz
    · simp at hz; rcases hz with rfl | rfl <;> omega
    · split at hz
      · simp at hz; rcases hz with rfl | rfl <;> omega
      · simp at hz; subst hz; exact h
  · omega
set_option maxHeartbeats 4000000 in
theorem g_quoted (s : ByteArray) (w : World) (hlen : (quoteL (sInts s)).length ≤ 140737488355328) (hs : s.size ≤ 140737488355328) :
    Calls Try.prog 27 #[.string s] w fun e w' => e = .returned (.string (quoteR s)) ∧ w.grownBy w' none := by
  have HLE : Hid (∀ k zk, QAt s k zk → zk.length + 1 ≤ 140737488355328) := fun k zk hq => by have := hq.le; omega
  have HDN : Hid (∀ k zk, QAt s k zk → s.size ≤ k → zk ++ [34] = quoteL (sInts s)) := fun k zk hq hk => hq.done hk
  have H0 : Hid (QAt s 0 [34]) := by show _ = _; simp
  have HRR : Hid (bs (quoteL (sInts s)) = Lib.byteCells (quoteR s).data.toList ∧ (quoteR s).data.toList ≠ []) := by
    refine ⟨by rw [← tquote_ints, sInts_cells]; rfl, fun h0 => ?_⟩
    have h1 : (sInts (quoteR s)).length = 0 := by unfold sInts; rw [h0]; rfl
    rw [tquote_ints] at h1
    unfold quoteL at h1
    simp at h1
  have HST : Hid (∀ B b w, Lib.IsBuilder 52 5 B b (Lib.byteCells (quoteR s).data.toList) w → Calls Try.prog 28 #[.pointer (some ⟨b, 0, none⟩)] w fun e w' => e = .returned (.string (quoteR s)) ∧ Below B w w') := fun B b w h => builder_string B b (quoteR s).data.toList w h HRR.out.2
  have HWB : Hid (∀ b (zs : List Int) c w1, Lib.IsBuilder 52 5 w.heap.size b (bs zs) w1 → zs.length + 1 ≤ 140737488355328 → w.heap.size ≤ w1.heap.size → Calls Try.prog 25 #[.pointer (some ⟨b, 0, none⟩), .int .u8 c] w1 fun e w' => e = .returned .nilIface ∧ Lib.IsBuilder 52 5 w.heap.size b (bs (zs ++ [c])) w' ∧ Bel w.heap.size b w1 w') := by
    intro b zs c w1 h hl hb
    have k := write_byte w.heap.size b (bs zs) c w1 h (by rw [bs_len]; omega) hb
    rw [bs_app]
    exact k
  have HWN : Hid (∀ b (zs : List Int) w1, Lib.IsBuilder 52 5 w.heap.size b (bs zs) w1 → zs.length + 2 ≤ 140737488355328 → w.heap.size ≤ w1.heap.size → Calls Try.prog 26 #[.pointer (some ⟨b, 0, none⟩), .string ⟨#[92, 110]⟩] w1 fun e w' => e = .returned (.tuple #[.int .i64 2, .nilIface]) ∧ Lib.IsBuilder 52 5 w.heap.size b (bs (zs ++ [92, 110])) w' ∧ Bel w.heap.size b w1 w') := by
    intro b zs w1 h hl hb
    have k := write_string w.heap.size b (bs zs) ⟨#[92, 110]⟩ w1 h (by rw [bs_len]; show _ + 2 ≤ _; omega) hb
    rw [nl_cells, ← bs_app] at k
    exact k
  generalize quoteR s = R at HRR HST ⊢
  generalize quoteL (sInts s) = Y at HDN HRR hlen
  have HF : Hid (Lib.IsBuilder 52 5 w.heap.size w.heap.size (bs []) (w.alloc (.cells #[.pointer none, .slice none 0 0] 52))) := Lib.fresh_isBuilder 52 5 w
  have HSZ : Hid (w.heap.size ≤ (w.alloc (.cells #[.pointer none, .slice none 0 0] 52)).heap.size) := (World.grownBy_alloc w _ none).size
  clear hlen
  go_enter Try.func27, Try.ntmps27
  go_wp2_with fail
  refine (HWB.out _ [] 34 _ HF.out (by simp) HSZ.out).mono ?_
  rintro e w1 ⟨rfl, hb1, hbel1⟩
  have HB1 : Hid (Lib.IsBuilder 52 5 w.heap.size w.heap.size (bs [34]) w1) := hb1
  have HE1 : Hid (Below w.heap.size w w1) := (bel_alloc _ w.heap.size w _ (Nat.le_refl _)).1.trans hbel1.1
  clear hb1 hbel1 HF HSZ
  generalize hb : w.heap.size = b at HB1 HE1 HWB HWN ⊢
  have HBB : Hid (w.heap.size = b) := hb
  clear hb
  go_wp2
  go_loopw [9] (fun i wr => ∃ (k : Nat) (zk : List Int), k ≤ s.size ∧ i = .int .i64 k ∧ Lib.IsBuilder 52 5 b b (bs zk) wr ∧ QAt s k zk ∧ Below b w wr) (fun i _ => s.size - (intOf i).toNat)
  case atStart => exact ⟨0, [34], Nat.zero_le _, rfl, HB1.out, H0.out, HE1.out⟩
  case round =>
    obtain ⟨k, zk, hk, rfl, hbl, hq, hbel⟩ := hrel
    have HB : Hid (Lib.IsBuilder 52 5 b b (bs zk) wr) := hbl
    have HQ : Hid (QAt s k zk) := hq
    have HE : Hid (Below b w wr) := hbel
    have HS : Hid (b ≤ wr.heap.size) := by have := hbel.size; have := HBB.out; show _ ≤ _; omega
    clear hbl hq hbel H0 HB1 HE1
    by_cases hlt : k < s.size
    · have hidx := idx9 s k hlt
      have HN : Hid (QAt s (k + 1) (zk ++ q1 (byteAt s k))) := HQ.out.next hlt
      have HLN := hid (HLE.out _ _ HN.out)
      have hki : (k : Int) < (s.size : Int) := by omega
      generalize byteAt s k = c at hidx HN HLN
      unfold q1 at HN HLN
      by_cases h1 : c = 34 ∨ c = 92
      · rw [if_pos h1] at HN HLN
        by_cases h2 : c = 92
        · subst h2
          clear h1
          go_wp2_with fail
          refine (HWB.out b (zk) 92 wr HB.out (by have := HLN.out; (try simp only [List.length_append, List.length_cons, List.length_nil] at this ⊢); omega) HS.out).mono ?_
          rintro e w1 ⟨rfl, hb1, hbel1⟩
          have HB1 := hid hb1
          have HS1 := hid (Nat.le_trans HS.out hbel1.size)
          have HE1 := hid (HE.out.trans hbel1.1)
          clear hb1 hbel1
          go_wp2_with fail
          refine (HWB.out b (zk ++ [92]) 92 w1 HB1.out (by have := HLN.out; (try simp only [List.length_append, List.length_cons, List.length_nil] at this ⊢); omega) HS1.out).mono ?_
          rintro e w2 ⟨rfl, hb2, hbel2⟩
          have HB2 := hid hb2
          have HS2 := hid (Nat.le_trans HS1.out hbel2.size)
          have HE2 := hid (HE1.out.trans hbel2.1)
          clear hb2 hbel2
          have HB3 : Hid (Lib.IsBuilder 52 5 b b (bs (zk ++ [92, 92])) w2) := by
            have h9 := HB2.out
            rw [List.append_assoc] at h9
            exact h9
          go_wp2
          go_roundw
          case rel => exact ⟨k + 1, _, by omega, by go_num, HB3.out, HN.out, HE2.out⟩
          case measure => simp [intOf]; omega
        · have h3 : c = 34 := by omega
          subst h3
          clear h1 h2
          go_wp2_with fail
          refine (HWB.out b (zk) 92 wr HB.out (by have := HLN.out; (try simp only [List.length_append, List.length_cons, List.length_nil] at this ⊢); omega) HS.out).mono ?_
          rintro e w1 ⟨rfl, hb1, hbel1⟩
          have HB1 := hid hb1
          have HS1 := hid (Nat.le_trans HS.out hbel1.size)
          have HE1 := hid (HE.out.trans hbel1.1)
          clear hb1 hbel1
          go_wp2_with fail
          refine (HWB.out b (zk ++ [92]) 34 w1 HB1.out (by have := HLN.out; (try simp only [List.length_append, List.length_cons, List.length_nil] at this ⊢); omega) HS1.out).mono ?_
          rintro e w2 ⟨rfl, hb2, hbel2⟩
          have HB2 := hid hb2
          have HS2 := hid (Nat.le_trans HS1.out hbel2.size)
          have HE2 := hid (HE1.out.trans hbel2.1)
          clear hb2 hbel2
          have HB3 : Hid (Lib.IsBuilder 52 5 b b (bs (zk ++ [92, 34])) w2) := by
            have h9 := HB2.out
            rw [List.append_assoc] at h9
            exact h9
          go_wp2
          go_roundw
          case rel => exact ⟨k + 1, _, by omega, by go_num, HB3.out, HN.out, HE2.out⟩
          case measure => simp [intOf]; omega
      · rw [if_neg h1] at HN HLN
        by_cases h2 : c = 10
        · rw [if_pos h2] at HN HLN
          subst h2
          clear h1
          go_wp2_with fail
          refine (HWN.out b zk wr HB.out (by have := HLN.out; simp only [List.length_append, List.length_cons, List.length_nil] at this ⊢; omega) HS.out).mono ?_
          rintro e w1 ⟨rfl, hb1, hbel1⟩
          have HB1 := hid hb1
          have HE1 := hid (HE.out.trans hbel1.1)
          clear hb1 hbel1
          go_wp2
          go_roundw
          case rel => exact ⟨k + 1, _, by omega, by go_num, HB1.out, HN.out, HE1.out⟩
          case measure => simp [intOf]; omega
        · rw [if_neg h2] at HN HLN
          have q1 : (c == 92) = false := by simp; omega
          have q2 : (c == 34) = false := by simp; omega
          have q3 : (c == 10) = false := by simpa using h2
          clear h1 h2
          go_wp2_with fail
          refine (HWB.out b (zk) c wr HB.out (by have := HLN.out; (try simp only [List.length_append, List.length_cons, List.length_nil] at this ⊢); omega) HS.out).mono ?_
          rintro e w1 ⟨rfl, hb1, hbel1⟩
          have HB1 := hid hb1
          have HS1 := hid (Nat.le_trans HS.out hbel1.size)
          have HE1 := hid (HE.out.trans hbel1.1)
          clear hb1 hbel1
          go_wp2
          go_roundw
          case rel => exact ⟨k + 1, _, by omega, by go_num, HB1.out, HN.out, HE1.out⟩
          case measure => simp [intOf]; omega
    · have HY : Hid (zk ++ [34] = Y) := HDN.out k zk HQ.out (by omega)
      have HLN := hid (HLE.out _ _ HQ.out)
      have hki : ¬ (k : Int) < (s.size : Int) := by omega
      go_wp2_with fail
      refine (HWB.out b (zk) 34 wr HB.out (by have := HLN.out; (try simp only [List.length_append, List.length_cons, List.length_nil] at this ⊢); omega) HS.out).mono ?_
      rintro e w1 ⟨rfl, hb1, hbel1⟩
      have HB1 := hid hb1
      have HS1 := hid (Nat.le_trans HS.out hbel1.size)
      have HE1 := hid (HE.out.trans hbel1.1)
      clear hb1 hbel1
      have HB2 : Hid (Lib.IsBuilder 52 5 b b (Lib.byteCells R.data.toList) w1) := by
        have h9 := HB1.out
        rw [HY.out, HRR.out.1] at h9
        exact h9
      go_wp2_with fail
      refine (HST.out b b w1 HB2.out).mono ?_
      rintro e w2 ⟨rfl, hbel2⟩
      have HE2 : Hid (Below b w w2) := HE1.out.trans hbel2
      clear hbel2
      go_wp2
      go_ret
      exact ⟨rfl, below_gb (by rw [HBB.out]; exact HE2.out)⟩
end Go.Proofs.Ytailaehpgmpaaab
