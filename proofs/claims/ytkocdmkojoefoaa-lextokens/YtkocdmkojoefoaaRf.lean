/- The document's Lex. (Printed by mk_rf.py.) -/
import Derived.Test.YtkocdmkojoefoaaLx
import Derived.Test.YtkocdmkojoefoaaRb
import Derived.Test.YtkocdmkojoefoaaRc
import Derived.Test.YtkocdmkojoefoaaRd
import Derived.Test.YtkocdmkojoefoaaRe
namespace Go.Proofs.Ytkocdmkojoefoaa
open Go.RowKit
set_option linter.unusedVariables false
set_option maxRecDepth 20000

/-- The tokens gathered so far. -/
structure LrW (w W : World) (v : Value) (ts : List Tok) : Prop where
  own : SOwn tokE 32 W w.heap.size v ts.length ts
  gb : w.grownBy W none
theorem LrW.grown {w W W' : World} {v : Value} {ts : List Tok} (h : LrW w W v ts) (hg : W.grownBy W' none) : LrW w W' v ts := ⟨SOwn.kept h.own hg (Classical.em _), h.gb.trans hg⟩
theorem LrW.app {w W W1 W2 : World} {v v2 : Value} {ts : List Tok} {q : Tok} (h : LrW w W v ts) (hg : W.grownBy W1 none) (ho : SOwn tokE 32 W2 w.heap.size v2 (ts.length + 1) (ts ++ [q])) (hg2 : W1.grownBy W2 v.ownBlock) : LrW w W2 v2 (ts ++ [q]) :=
  ⟨by rw [List.length_append]; exact ho, gb_trans (h.gb.trans hg) hg2 (fun k hk => .inl (SOwn.block h.own k hk).1)⟩
/-- A box laid behind the list. -/
theorem lr_box {w wr : World} {v : Value} {ts : List Tok} (h : LrW w wr v ts) (a b d : Int) (t : ByteArray) : (wr.alloc (.cells #[.int .i64 a, .int .i64 b, .string t, .int .i64 d] 32)).heap[wr.heap.size]? = some (.cells #[.int .i64 a, .int .i64 b, .string t, .int .i64 d] 32 (0, 0)) ∧ LrW w (wr.alloc (.cells #[.int .i64 a, .int .i64 b, .string t, .int .i64 d] 32)) v ts :=
  ⟨heap_alloc_new wr _, h.grown (World.grownBy_alloc wr _ none)⟩
theorem lr_put {w W : World} {v : Value} {ts : List Tok} {g : Nat} {kd a sp : Int} {t : ByteArray} (h : LrW w W v ts) (hr : W.heap[g]? = some (.cells #[.int .i64 kd, .int .i64 a, .string t, .int .i64 sp] 32 (0, 0))) (hv : v.ownBlock ≠ some g) (hw : w.heap.size ≤ g) (kd2 sp2 : Int) :
    ((W.setCell ⟨g, 0, none⟩ (.int .i64 kd2)).setCell ⟨g, 3, none⟩ (.int .i64 sp2)).heap[g]? = some (.cells #[.int .i64 kd2, .int .i64 a, .string t, .int .i64 sp2] 32 (0, 0)) ∧ LrW w ((W.setCell ⟨g, 0, none⟩ (.int .i64 kd2)).setCell ⟨g, 3, none⟩ (.int .i64 sp2)) v ts := by
  have g1 : W.grownBy ((W.setCell ⟨g, 0, none⟩ (.int .i64 kd2)).setCell ⟨g, 3, none⟩ (.int .i64 sp2)) (some g) := gb_trans (gb_set rfl) (gb_set rfl) (fun k hk => .inr hk)
  exact ⟨by simp [World.setCell, Array.getElem?_modify, hr], SOwn.kept h.own g1 (.inr hv), gb_trans h.gb g1 (fun k hk => .inl (by cases hk; exact hw))⟩
theorem lr_apart {w wr : World} {v : Value} {ts : List Tok} (h : LrW w wr v ts) : v.ownBlock ≠ some wr.heap.size := fun e => by
  have := (SOwn.block h.own _ e).2
  omega
theorem blank_in {c : Int} (h : blankB c = true) : c = 32 ∨ c = 9 ∨ c = 13 ∨ c = 10 := by
  unfold blankB at h
  simpa [or_assoc] using h
theorem blank_ne {c : Int} (h : blankB c = false) : (c == 32) = false ∧ (c == 9) = false ∧ (c == 13) = false ∧ (c == 10) = false := by
  unfold blankB at h
  simp at h
  simp
  omega
theorem sub_run (m : Int) (s : ByteArray) (k : Nat) : ((sInts s).drop k).take (k + (runR m ((sInts s).drop k)).length - k) = runR m ((sInts s).drop k) := by
  rw [show k + (runR m ((sInts s).drop k)).length - k = (runR m ((sInts s).drop k)).length by omega]
  exact (List.prefix_iff_eq_take.1 (List.takeWhile_prefix _)).symm
theorem run_byte (m : Int) (s : ByteArray) (k : Nat) : ∀ z ∈ runR m ((sInts s).drop k), 0 ≤ z ∧ z ≤ 255 := fun z hz => sInts_byte s z (List.mem_of_mem_drop ((List.takeWhile_prefix _).subset hz))
theorem run_size (m : Int) (s : ByteArray) (k : Nat) (hk : k ≤ s.size) : k + (runR m ((sInts s).drop k)).length ≤ s.size := by
  have := run_len m ((sInts s).drop k)
  rw [List.length_drop, sInts_len] at this
  omega
set_option maxHeartbeats 8000000 in
theorem r_lexR (s : ByteArray) (R : Lx) (w : World) (hs : s.size ≤ 4096) (hR : lexL 0 (sInts s) = R) : Calls Try.prog 8 #[.string s] w fun e w' => LxOut R w e w' := by
  have H0 : Hid (LexAt s [] 0 R) := by rw [← hR]; exact LexAt.start s
  have HTL : Hid (∀ (k : Nat) (X : Int × ByteArray × Int × Nat) (c : Int), k < s.size → TokAt s k X c → k + X.2.2.2 ≤ s.size) := fun k X c hk ht => by
    have h1 := tok_len ((sInts s).drop k) (by rw [List.length_drop, sInts_len]; omega)
    unfold TokAt at ht
    rw [ht, List.length_drop, sInts_len] at h1
    have h2 : X.2.2.2 ≤ s.size - k := h1
    omega
  clear hR
  have q0 : decide ((4096 : Int) < (s.size : Int)) = false := by simp; omega
  go_enter Try.func8, Try.ntmps8
  go_wp2
  clear q0
  go_loopw [5, 6] (fun t5 t6 wr => ∃ (k : Nat) (v : Value) (ts : List Tok), k ≤ s.size ∧ t6 = .int .i64 (k : Int) ∧ t5 = v ∧ LrW w wr v ts ∧ LexAt s ts k R ∧ ts.length ≤ k) (fun _ t6 _ => s.size - (intOf t6).toNat)
  case atStart => exact ⟨0, _, [], Nat.zero_le _, rfl, rfl, ⟨SOwn.nil 32 _ _, World.grownBy.refl _ _⟩, H0.out, Nat.le_refl _⟩
  case round =>
    obtain ⟨k, v, ts, hk, rfl, hv, hw, hl, hts⟩ := hrel
    obtain ⟨a, c0, rfl⟩ := sown_slice hw.own
    subst hv
    clear H0
    by_cases hlt : k < s.size
    · have hki : (k : Int) < (s.size : Int) := by omega
      have hidx := idx9 s k hlt
      have HLX : Hid (LexAt s ts k R) := hl
      have HLB : Hid (blankB (byteAt s k) = true → LexAt s ts (k + 1) R) := fun h => hl.blank hlt h
      have HLT : Hid (∀ (X : Int × ByteArray × Int × Nat) (c : Int), blankB (byteAt s k) = false → TokAt s k X c → X.2.2.2 ≠ 0 → LexAt s (ts ++ [(X.1, (k : Int), X.2.1, X.2.2.1)]) (k + X.2.2.2) R ∧ k + X.2.2.2 ≤ s.size) := fun X c hb ht hn => ⟨hl.tok hlt hb hn ht, HTL.out k X c hlt ht⟩
      have HLN : Hid (∀ (X : Int × ByteArray × Int × Nat) (c : Int), blankB (byteAt s k) = false → TokAt s k X c → X.2.2.2 = 0 → R = .bad k c) := fun X c hb ht hn => by
        have h := hl.bad hlt hb (by unfold TokAt at ht; rw [ht]; exact hn)
        unfold TokAt at ht
        rw [ht] at h
        exact h
      have HW : Hid (LrW w wr (.slice a ts.length c0) ts) := hw
      have hol : ts.length ≤ 4096 := by omega
      have HSZ : Hid (w.heap.size ≤ wr.heap.size) := hw.gb.size
      have HAG : Hid (∀ (W : World) (q : Tok), LrW w W (.slice a ts.length c0) ts → SOwn tokE 32 (W.alloc (.cells #[.int .i64 q.1, .int .i64 q.2.1, .string q.2.2.1, .int .i64 q.2.2.2] 32)) w.heap.size (.slice a ts.length c0) ts.length ts ∧ SRd tokE (W.alloc (.cells #[.int .i64 q.1, .int .i64 q.2.1, .string q.2.2.1, .int .i64 q.2.2.2] 32)) (some ⟨W.heap.size, 0, none⟩) [q] ∧ W.grownBy (W.alloc (.cells #[.int .i64 q.1, .int .i64 q.2.1, .string q.2.2.1, .int .i64 q.2.2.2] 32)) none ∧ w.heap.size ≤ (W.alloc (.cells #[.int .i64 q.1, .int .i64 q.2.1, .string q.2.2.1, .int .i64 q.2.2.2] 32)).heap.size) := fun W q h =>
        ⟨SOwn.kept h.own (World.grownBy_alloc W _ none) (Classical.em _), srd_lit tokE 32 W [q], World.grownBy_alloc W _ none, by rw [size_alloc]; have := h.gb.size; omega⟩
      have HGO : Hid (∀ (W W1 W2 : World) (v2 : Value) (q : Tok) (n : Nat), LrW w W (.slice a ts.length c0) ts → W.grownBy W1 none → SOwn tokE 32 W2 w.heap.size v2 (ts.length + 1) (ts ++ [q]) → W1.grownBy W2 (Value.ownBlock (.slice a ts.length c0)) → LexAt s (ts ++ [q]) (k + n) R → n ≠ 0 → LrW w W2 v2 (ts ++ [q]) ∧ LexAt s (ts ++ [q]) (k + n) R ∧ (ts ++ [q]).length ≤ k + n) := fun W W1 W2 v2 q n h1 h2 h3 h4 h5 h6 => ⟨h1.app h2 h3 h4, h5, by rw [List.length_append, List.length_singleton]; omega⟩
      have HTS : Hid (ts.length ≤ k) := hts
      clear hl hts hw
      generalize hm : ts.length = m at HW hol HAG HGO ⊢
      clear hm
      have hbe : ∃ c, byteAt s k = c := ⟨_, rfl⟩
      obtain ⟨c, hc⟩ := hbe
      have HC : Hid (byteAt s k = c) := hc
      have HNU : Hid (digB c = true → TokAt s k (numR ((sInts s).drop k)) 172) := fun h => isNum (by rw [hc]; exact h)
      have HWO : Hid (digB c = false ∧ runB 58 c = true → TokAt s k (wordR ((sInts s).drop k)) 0 ∧ (wordR ((sInts s).drop k)).2.2.2 ≠ 0) := fun h => ⟨isWord (by rw [hc]; exact h), word_pos _ (by rw [drop_head0, hc]; exact h.2)⟩
      have HTE : Hid (c = 34 → TokAt s k (txtR ((sInts s).drop k)) 173) := fun h => isText (by rw [hc]; exact h)
      have HSI : Hid (digB c = false ∧ runB 58 c = false ∧ c ≠ 34 → TokAt s k (sgnR ((sInts s).drop k)) 171) := fun h => isSign (by rw [hc]; exact h)
      rw [hc] at hidx HLB HLT HLN
      clear hc
      cases hbl : blankB c with
      | true =>
        have HN := hid (HLB.out hbl)
        clear HLB HLT HLN HNU HWO HTE HSI HAG HGO
        rcases blank_in hbl with rfl | rfl | rfl | rfl
        all_goals
          clear hbl
          go_wp2
          go_roundw
        all_goals first
          | (case rel => exact ⟨k + 1, _, ts, by omega, by go_num, rfl, HW.out, HN.out, Nat.le_succ_of_le HTS.out⟩)
          | (case measure => simp [intOf]; omega)
      | false =>
      obtain ⟨p1, p2, p3, p4⟩ := blank_ne hbl
      have HLT2 := hid (fun X d => HLT.out X d hbl)
      have HLN2 := hid (fun X d => HLN.out X d hbl)
      clear HLB HLT HLN
      have HDG := fun w => r_digit c _ w rfl
      cases hdg : digB c with
      | true =>
        rw [hdg] at HDG
        have HTA := hid (HNU.out hdg)
        have HDC := hid hdg
        have HC0 := HC
        clear HNU HWO HTE HSI hbl hdg HC
        have hlen := run_size 46 s k hk
        have hsub := sub_run 46 s k
        have hsl := sl_lh s k (k + (runR 46 ((sInts s).drop k)).length) (by omega) hlen
        rw [hsub] at hsl
        have HRC := r_run s k 46 wr hs hk (.inl rfl)
        have hby := run_byte 46 s k
        have hz : (strOfNums (runR 46 ((sInts s).drop k))).size = (runR 46 ((sInts s).drop k)).length := strOfNums_size _
        have HSP : Hid (∀ w, Calls Try.prog 18 #[.string (strOfNums (runR 46 ((sInts s).drop k)))] w fun e w' => SpOut (runR 46 ((sInts s).drop k)) w e w') := fun w => by
          have h := r_span (strOfNums (runR 46 ((sInts s).drop k))) w (by omega)
          rw [sInts_str hby] at h
          exact h
        have HNM : Hid (1 ≤ (runR 46 ((sInts s).drop k)).length → ∀ w, Calls Try.prog 19 #[.string (strOfNums (runR 46 ((sInts s).drop k)))] w fun e w' => e = .returned (.bool (numB (runR 46 ((sInts s).drop k)))) ∧ w = w') := fun h1 w => by
          have h := r_number (strOfNums (runR 46 ((sInts s).drop k))) w (by omega) (by omega)
          rw [sInts_str hby] at h
          exact h
        have HLT3 := HLT2.out _ _ HTA.out
        have HLN3 := HLN2.out _ _ HTA.out
        have hpos : 1 ≤ (runR 46 ((sInts s).drop k)).length := by
          have h1 := (run_pre (l := (sInts s).drop k) (m := 1) (RunAt.next (by decide) (RunAt.zero _ _) (by rw [drop_head0, HC0.out]; exact dig_run HDC.out 46)).2).1
          exact h1
        unfold numR at HLT3 HLN3
        generalize runR 46 ((sInts s).drop k) = r at hlen hsl HRC HSP HNM HLT3 HLN3 hpos hz
        generalize hts : strOfNums r = t at hsl HSP HNM HLT3 HLN3 hz
        generalize hrl : r.length = n at hlen hsl HRC HLT3 HLN3 hpos HNM hz
        have HNM2 := HNM.out hpos
        have hn : n ≠ 0 := by omega
        clear hts hrl hby hsub HTA HLT2 HLN2 HNM hz
        have hsl2 := hsl
        rw [show ((k + n : Nat) : Int) = (k : Int) + (n : Int) by omega] at hsl2
        have HBX := hid (lr_box HW.out 1 (k : Int) 0 t)
        have HAP := hid (lr_apart HW.out)
        go_upto_region 17 with (first | (go_at_call 16; refine (HDG _).mono ?_; rintro e w1 ⟨rfl, rfl⟩) | (go_at_call 17; refine HRC.mono ?_; rintro e w1 ⟨rfl, rfl⟩))
        generalize (wr.alloc (.cells #[.int .i64 1, .int .i64 (k : Int), .string t, .int .i64 0] 32)) = W at HBX ⊢
        generalize hG : wr.heap.size = G at HBX HAP HSZ ⊢
        clear hG
        obtain ⟨hrow, hww⟩ := HBX.out
        obtain ⟨r0, r1, r2, r3⟩ := cell4 hrow
        have f0 := free_row hrow 0
        have f3 := free_row hrow 3
        have HROW := hid hrow
        by_cases hsp : 1 ≤ spanR r
        · have hx := HLT3 (by rw [if_pos hsp]; exact hn)
          rw [if_pos hsp] at hx
          have HSC : ∀ w, Calls Try.prog 18 #[.string t] w fun e w' => e = .returned (.tuple #[.int .i64 (spanR r), .bool true]) ∧ w = w' := fun w => (HSP.out w).mono fun e w' ⟨v, he, h1, h2⟩ => ⟨by rw [he, h1 hsp, decide_eq_true hsp], h2⟩
          have HPU : Hid (∀ sp : Int, (((W.setCell ⟨G, 0, none⟩ (.int .i64 2)).setCell ⟨G, 3, none⟩ (.int .i64 sp)).heap[G]? = some (.cells #[.int .i64 2, .int .i64 (k : Int), .string t, .int .i64 sp] 32 (0, 0)) ∧ LrW w ((W.setCell ⟨G, 0, none⟩ (.int .i64 2)).setCell ⟨G, 3, none⟩ (.int .i64 sp)) (.slice a m c0) ts)) := fun sp => lr_put hww hrow HAP.out HSZ.out 2 sp
          generalize spanR r = sp at hx HSC
          have HLF : Hid (LexAt s (ts ++ [((2 : Int), (k : Int), t, sp)]) (k + n) R ∧ k + n ≤ s.size) := hx
          have hkn := hx.2
          have HPS := hid (HPU.out sp)
          clear HLT3 HLN3 hx HSP HNM2 hsp hww hrow HPU HBX
          go_upto_region 23 with (go_at_call 18; refine (HSC _).mono ?_; rintro e w1 ⟨rfl, rfl⟩)
          clear r0 r1 r2 r3 f0 f3
          generalize ((W.setCell ⟨G, 0, none⟩ (.int .i64 2)).setCell ⟨G, 3, none⟩ (.int .i64 sp)) = W2 at HPS ⊢
          have HWW := hid HPS.out.2
          obtain ⟨r0, r1, r2, r3⟩ := cell4 HPS.out.1
          obtain ⟨hx1, hx2, hx3, hx4⟩ := HAG.out W2 ((2 : Int), (k : Int), t, sp) HWW.out
          have HX1 := hid hx1
          have HX2 := hid hx2
          have HX3 := hid hx3
          clear hx1 hx2 hx3 HAG
          go_wp2_with (at_builtin; refine wpList_append_s tokT rfl (.tmp 91) (.tmp 93) rfl w.heap.size (.slice a m c0) m ts rfl HX1.out (some ⟨(W2).heap.size, 0, none⟩) [((2 : Int), (k : Int), t, sp)] 1 1 rfl rfl HX2.out (by simp) (by omega) (by unfold maxLen; omega) hx4 ?_; intro v2 w2 ho2 hg2 hn2; have HO2 := hid ho2; have HG2 := hid hg2; clear ho2 hg2 hn2)
          have HFIN := hid (HGO.out _ _ w2 v2 ((2 : Int), (k : Int), t, sp) n HWW.out HX3.out HO2.out HG2.out HLF.out.1 hn)
          clear HO2 HG2 HX1 HX2 HX3 HGO
          go_wp2
          go_roundw
          case rel => exact ⟨k + n, v2, ts ++ [((2 : Int), (k : Int), t, sp)], HLF.out.2, by go_num, rfl, HFIN.out.1, HFIN.out.2.1, HFIN.out.2.2⟩
          case measure => simp [intOf]; omega
        · have HSC : ∀ w, Calls Try.prog 18 #[.string t] w fun e w' => ∃ v, e = .returned (.tuple #[.int .i64 v, .bool false]) ∧ w = w' := fun w => (HSP.out w).mono fun e w' ⟨v, he, h1, h2⟩ => ⟨v, by rw [he, decide_eq_false hsp], h2⟩
          rw [if_neg hsp] at HLT3 HLN3
          have HWW := hid hww
          by_cases hnb : numB r = true
          · have hx := HLT3 (by rw [if_pos hnb]; exact hn)
            rw [if_pos hnb] at hx
            have HLF : Hid (LexAt s (ts ++ [((1 : Int), (k : Int), t, (0 : Int))]) (k + n) R ∧ k + n ≤ s.size) := hx
            have hkn := hx.2
            rw [hnb] at HNM2
            clear HLT3 HLN3 hx HSP hsp hww hrow HBX hnb f0 f3
            go_upto_region 23 with (first | (go_at_call 18; refine (HSC _).mono ?_; rintro e w1 ⟨v9, rfl, rfl⟩) | (go_at_call 19; refine (HNM2 _).mono ?_; rintro e w1 ⟨rfl, rfl⟩))
            obtain ⟨hx1, hx2, hx3, hx4⟩ := HAG.out W ((1 : Int), (k : Int), t, (0 : Int)) HWW.out
            have HX1 := hid hx1
            have HX2 := hid hx2
            have HX3 := hid hx3
            clear hx1 hx2 hx3 HAG
            go_wp2_with (at_builtin; refine wpList_append_s tokT rfl (.tmp 91) (.tmp 93) rfl w.heap.size (.slice a m c0) m ts rfl HX1.out (some ⟨(W).heap.size, 0, none⟩) [((1 : Int), (k : Int), t, (0 : Int))] 1 1 rfl rfl HX2.out (by simp) (by omega) (by unfold maxLen; omega) hx4 ?_; intro v2 w2 ho2 hg2 hn2; have HO2 := hid ho2; have HG2 := hid hg2; clear ho2 hg2 hn2)
            have HFIN := hid (HGO.out _ _ w2 v2 ((1 : Int), (k : Int), t, (0 : Int)) n HWW.out HX3.out HO2.out HG2.out HLF.out.1 hn)
            clear HO2 HG2 HX1 HX2 HX3 HGO
            go_wp2
            go_roundw
            case rel => exact ⟨k + n, v2, ts ++ [((1 : Int), (k : Int), t, (0 : Int))], HLF.out.2, by go_num, rfl, HFIN.out.1, HFIN.out.2.1, HFIN.out.2.2⟩
            case measure => simp [intOf]; omega
          · have HE : Hid (R = .bad k 172) := HLN3 (by rw [if_neg hnb])
            have hnb2 : numB r = false := by simpa using hnb
            rw [hnb2] at HNM2
            clear HLT3 HLN3 HSP hsp hww hrow HBX hnb hnb2 f0 f3
            go_wp2_with (first | (go_at_call 18; refine (HSC _).mono ?_; rintro e w1 ⟨v9, rfl, rfl⟩) | (go_at_call 19; refine (HNM2 _).mono ?_; rintro e w1 ⟨rfl, rfl⟩))
            refine bodyPost_ret (v := .tuple #[.slice none 0 0, .int .i64 (k : Int), .int .i64 172]) (by simp [results, Try.results8, go_sem]) rfl ?_
            exact lx_bad HE.out HWW.out.gb
      | false =>
      rw [hdg] at HDG
      have HLE := fun w => r_letter c _ w rfl
      have hrb : runB 58 c = (letB c || decide (c = 58)) := by unfold runB; rw [hdg]; rfl
      by_cases hword : runB 58 c = true
      · obtain ⟨ht1, ht2⟩ := HWO.out ⟨hdg, hword⟩
        have HTA := hid ht1
        have HTN := hid ht2
        clear HNU HWO HTE HSI hbl hdg ht1 ht2 HC
        have hlen := run_size 58 s k hk
        have hsub := sub_run 58 s k
        have hsl := sl_lh s k (k + (runR 58 ((sInts s).drop k)).length) (by omega) hlen
        rw [hsub] at hsl
        have HRC := r_run s k 58 wr hs hk (.inr rfl)
        have HLF0 := HLT2.out _ _ HTA.out HTN.out
        unfold wordR at HLF0 HTN
        generalize strOfNums (runR 58 ((sInts s).drop k)) = t at hsl HLF0
        generalize (runR 58 ((sInts s).drop k)).length = n at hlen hsl HRC HLF0 HTN
        have hsl2 := hsl
        rw [show ((k + n : Nat) : Int) = (k : Int) + (n : Int) by omega] at hsl2
        have HLF : Hid (LexAt s (ts ++ [((3 : Int), (k : Int), t, (0 : Int))]) (k + n) R ∧ k + n ≤ s.size) := HLF0
        have hn : n ≠ 0 := HTN.out
        have hn1 : 1 ≤ n := by omega
        clear HLF0 HTN HLT2 HLN2 HTA hsub
        have HWW := HW
        rw [hrb] at hword
        clear hrb
        have hcase : letB c = true ∨ letB c = false ∧ c = 58 := by
          cases hl : letB c with
          | true => exact .inl rfl
          | false => rw [hl] at hword; exact .inr ⟨rfl, by simpa using hword⟩
        rcases hcase with hl | ⟨hl, h58⟩
        · rw [hl] at HLE
          clear hl hword
          go_upto_region 27 with (first | (go_at_call 16; refine (HDG _).mono ?_; rintro e w1 ⟨rfl, rfl⟩) | (go_at_call 20; refine (HLE _).mono ?_; rintro e w1 ⟨rfl, rfl⟩) | (go_at_call 17; refine HRC.mono ?_; rintro e w1 ⟨rfl, rfl⟩))
          obtain ⟨hx1, hx2, hx3, hx4⟩ := HAG.out wr ((3 : Int), (k : Int), t, (0 : Int)) HWW.out
          have HX1 := hid hx1
          have HX2 := hid hx2
          have HX3 := hid hx3
          clear hx1 hx2 hx3 HAG
          go_wp2_with (at_builtin; refine wpList_append_s tokT rfl (.tmp 106) (.tmp 113) rfl w.heap.size (.slice a m c0) m ts rfl HX1.out (some ⟨(wr).heap.size, 0, none⟩) [((3 : Int), (k : Int), t, (0 : Int))] 1 1 rfl rfl HX2.out (by simp) (by omega) (by unfold maxLen; omega) hx4 ?_; intro v2 w2 ho2 hg2 hn2; have HO2 := hid ho2; have HG2 := hid hg2; clear ho2 hg2 hn2)
          have HFIN := hid (HGO.out _ _ w2 v2 ((3 : Int), (k : Int), t, (0 : Int)) n HWW.out HX3.out HO2.out HG2.out HLF.out.1 hn)
          clear HO2 HG2 HX1 HX2 HX3 HGO
          go_wp2
          go_roundw
          case rel => exact ⟨k + n, v2, ts ++ [((3 : Int), (k : Int), t, (0 : Int))], HLF.out.2, by go_num, rfl, HFIN.out.1, HFIN.out.2.1, HFIN.out.2.2⟩
          case measure => simp [intOf]; omega
        · rw [hl] at HLE
          clear hl hword
          subst h58
          go_upto_region 27 with (first | (go_at_call 16; refine (HDG _).mono ?_; rintro e w1 ⟨rfl, rfl⟩) | (go_at_call 20; refine (HLE _).mono ?_; rintro e w1 ⟨rfl, rfl⟩) | (go_at_call 17; refine HRC.mono ?_; rintro e w1 ⟨rfl, rfl⟩))
          obtain ⟨hx1, hx2, hx3, hx4⟩ := HAG.out wr ((3 : Int), (k : Int), t, (0 : Int)) HWW.out
          have HX1 := hid hx1
          have HX2 := hid hx2
          have HX3 := hid hx3
          clear hx1 hx2 hx3 HAG
          go_wp2_with (at_builtin; refine wpList_append_s tokT rfl (.tmp 106) (.tmp 113) rfl w.heap.size (.slice a m c0) m ts rfl HX1.out (some ⟨(wr).heap.size, 0, none⟩) [((3 : Int), (k : Int), t, (0 : Int))] 1 1 rfl rfl HX2.out (by simp) (by omega) (by unfold maxLen; omega) hx4 ?_; intro v2 w2 ho2 hg2 hn2; have HO2 := hid ho2; have HG2 := hid hg2; clear ho2 hg2 hn2)
          have HFIN := hid (HGO.out _ _ w2 v2 ((3 : Int), (k : Int), t, (0 : Int)) n HWW.out HX3.out HO2.out HG2.out HLF.out.1 hn)
          clear HO2 HG2 HX1 HX2 HX3 HGO
          go_wp2
          go_roundw
          case rel => exact ⟨k + n, v2, ts ++ [((3 : Int), (k : Int), t, (0 : Int))], HLF.out.2, by go_num, rfl, HFIN.out.1, HFIN.out.2.1, HFIN.out.2.2⟩
          case measure => simp [intOf]; omega
      have hwf : runB 58 c = false := by simpa using hword
      have hlf : letB c = false ∧ (c == 58) = false := by
        rw [hrb] at hwf
        simpa using hwf
      obtain ⟨hlf1, p5⟩ := hlf
      rw [hlf1] at HLE
      by_cases h34 : c = 34
      · have HTA := hid (HTE.out h34)
        clear HNU HWO HTE HSI hbl hdg HC hrb hword hwf hlf1
        subst h34
        have HRC := r_text s k wr hs hlt
        have HLT3 := HLT2.out _ _ HTA.out
        have HLN3 := HLN2.out _ _ HTA.out
        have e1 : ((sInts s).drop k).drop 1 = (sInts s).drop (k + 1) := by rw [List.drop_drop]
        unfold txtR at HLT3 HLN3
        rw [e1] at HLT3 HLN3
        generalize textR ((sInts s).drop (k + 1)) = X at HRC HLT3 HLN3
        clear HTA HLT2 HLN2 e1
        obtain ⟨out, n0⟩ := X
        by_cases hn0 : n0 = 0
        · have HE : Hid (R = .bad k 173) := HLN3 (by rw [if_pos hn0])
          clear HLT3 HLN3
          go_wp2_with (first | (go_at_call 16; refine (HDG _).mono ?_; rintro e w1 ⟨rfl, rfl⟩) | (go_at_call 20; refine (HLE _).mono ?_; rintro e w1 ⟨rfl, rfl⟩) | (go_at_call 21; refine HRC.mono ?_; rintro e w1 ⟨he, hg1⟩; rw [if_pos hn0] at he; subst he; have HWG := hid (HW.out.gb.trans hg1); clear hg1))
          refine bodyPost_ret (v := .tuple #[.slice none 0 0, .int .i64 (k : Int), .int .i64 173]) (by simp [results, Try.results8, go_sem]) rfl ?_
          exact lx_bad HE.out HWG.out
        · have hx := HLT3 (by rw [if_neg hn0]; exact Nat.succ_ne_zero _)
          rw [if_neg hn0] at hx
          obtain ⟨n, en⟩ : ∃ n, n = n0 + 1 := ⟨_, rfl⟩
          have HLF : Hid (LexAt s (ts ++ [((4 : Int), (k : Int), strOfNums out, (0 : Int))]) (k + n) R ∧ k + n ≤ s.size) := by rw [en]; exact hx
          have hn : n ≠ 0 := by omega
          have hn1 : 1 ≤ n := by omega
          have HRC2 : Calls Try.prog 21 #[.string s, .int .i64 (k : Int)] wr fun e w' => e = .returned (.tuple #[.string (strOfNums out), .int .i64 ((k + n : Nat) : Int), .bool true]) ∧ wr.grownBy w' none := HRC.mono fun e w' ⟨he, hg⟩ => by
            rw [if_neg hn0] at he
            refine ⟨?_, hg⟩
            rw [he, show k + 1 + (out, n0).2 = k + n from by show k + 1 + n0 = k + n; omega]
          clear HLT3 HLN3 hx HRC hn0 en
          generalize strOfNums out = t at HLF HRC2
          clear out
          go_upto_region 33 with (first | (go_at_call 16; refine (HDG _).mono ?_; rintro e w1 ⟨rfl, rfl⟩) | (go_at_call 20; refine (HLE _).mono ?_; rintro e w1 ⟨rfl, rfl⟩) | (go_at_call 21; refine HRC2.mono ?_; rintro e w1 ⟨rfl, hg1⟩; have HWW := hid (HW.out.grown hg1); clear hg1))
          obtain ⟨hx1, hx2, hx3, hx4⟩ := HAG.out w1 ((4 : Int), (k : Int), t, (0 : Int)) HWW.out
          have HX1 := hid hx1
          have HX2 := hid hx2
          have HX3 := hid hx3
          clear hx1 hx2 hx3 HAG
          go_wp2_with (at_builtin; refine wpList_append_s tokT rfl (.tmp 129) (.tmp 133) rfl w.heap.size (.slice a m c0) m ts rfl HX1.out (some ⟨(w1).heap.size, 0, none⟩) [((4 : Int), (k : Int), t, (0 : Int))] 1 1 rfl rfl HX2.out (by simp) (by omega) (by unfold maxLen; omega) hx4 ?_; intro v2 w2 ho2 hg2 hn2; have HO2 := hid ho2; have HG2 := hid hg2; clear ho2 hg2 hn2)
          have HFIN := hid (HGO.out _ _ w2 v2 ((4 : Int), (k : Int), t, (0 : Int)) n HWW.out HX3.out HO2.out HG2.out HLF.out.1 hn)
          clear HO2 HG2 HX1 HX2 HX3 HGO
          go_wp2
          go_roundw
          case rel => exact ⟨k + n, v2, ts ++ [((4 : Int), (k : Int), t, (0 : Int))], HLF.out.2, by go_num, rfl, HFIN.out.1, HFIN.out.2.1, HFIN.out.2.2⟩
          case measure => simp [intOf]; omega
      have p6 : (c == 34) = false := by simpa using h34
      have HTA := hid (HSI.out ⟨hdg, hwf, h34⟩)
      clear HNU HWO HTE HSI hbl hdg HC hrb hword hwf hlf1 h34
      have HRC := r_sign s k wr hs hlt
      have HLT3 := HLT2.out _ _ HTA.out
      have HLN3 := HLN2.out _ _ HTA.out
      have hlen := sign_len ((sInts s).drop k)
      rw [List.length_drop, sInts_len] at hlen
      have hsl := sl_lh s k (k + signN ((sInts s).drop k)) (by omega) (by omega)
      rw [show k + signN ((sInts s).drop k) - k = signN ((sInts s).drop k) by omega] at hsl
      unfold sgnR at HLT3 HLN3
      generalize strOfNums (((sInts s).drop k).take (signN ((sInts s).drop k))) = t at HLT3 HLN3 hsl
      generalize signN ((sInts s).drop k) = n at HRC HLT3 HLN3 hlen hsl
      rw [show ((k + n : Nat) : Int) = (k : Int) + (n : Int) by omega] at hsl
      clear HTA HLT2 HLN2
      have HWW := HW
      by_cases hn : n = 0
      · have HE : Hid (R = .bad k 171) := HLN3 (by rw [if_pos hn])
        have q1 : ((n : Int) == 0) = true := by simp; omega
        clear HLT3 HLN3 hsl
        subst hn
        go_wp2_with (first | (go_at_call 16; refine (HDG _).mono ?_; rintro e w1 ⟨rfl, rfl⟩) | (go_at_call 20; refine (HLE _).mono ?_; rintro e w1 ⟨rfl, rfl⟩) | (go_at_call 22; refine HRC.mono ?_; rintro e w1 ⟨rfl, rfl⟩))
        refine bodyPost_ret (v := .tuple #[.slice none 0 0, .int .i64 (k : Int), .int .i64 171]) (by simp [results, Try.results8, go_sem]) rfl ?_
        exact lx_bad HE.out HW.out.gb
      · have q1 : ((n : Int) == 0) = false := by simp; omega
        have q2 : (n == 0) = false := by simpa using hn
        have hx := HLT3 (by rw [if_neg hn]; exact hn)
        rw [if_neg hn] at hx
        have HLF : Hid (LexAt s (ts ++ [((5 : Int), (k : Int), t, (0 : Int))]) (k + n) R ∧ k + n ≤ s.size) := hx
        have hkn := hx.2
        have hn1 : 1 ≤ n := by omega
        clear HLT3 HLN3 hx
        go_upto_region 10 with (first | (go_at_call 16; refine (HDG _).mono ?_; rintro e w1 ⟨rfl, rfl⟩) | (go_at_call 20; refine (HLE _).mono ?_; rintro e w1 ⟨rfl, rfl⟩) | (go_at_call 22; refine HRC.mono ?_; rintro e w1 ⟨rfl, rfl⟩))
        obtain ⟨hx1, hx2, hx3, hx4⟩ := HAG.out wr ((5 : Int), (k : Int), t, (0 : Int)) HWW.out
        have HX1 := hid hx1
        have HX2 := hid hx2
        have HX3 := hid hx3
        clear hx1 hx2 hx3 HAG
        go_wp2_with (at_builtin; refine wpList_append_s tokT rfl (.tmp 33) (.tmp 42) rfl w.heap.size (.slice a m c0) m ts rfl HX1.out (some ⟨(wr).heap.size, 0, none⟩) [((5 : Int), (k : Int), t, (0 : Int))] 1 1 rfl rfl HX2.out (by simp) (by omega) (by unfold maxLen; omega) hx4 ?_; intro v2 w2 ho2 hg2 hn2; have HO2 := hid ho2; have HG2 := hid hg2; clear ho2 hg2 hn2)
        have HFIN := hid (HGO.out _ _ w2 v2 ((5 : Int), (k : Int), t, (0 : Int)) n HWW.out HX3.out HO2.out HG2.out HLF.out.1 hn)
        clear HO2 HG2 HX1 HX2 HX3 HGO
        go_wp2
        go_roundw
        case rel => exact ⟨k + n, v2, ts ++ [((5 : Int), (k : Int), t, (0 : Int))], HLF.out.2, by go_num, rfl, HFIN.out.1, HFIN.out.2.1, HFIN.out.2.2⟩
        case measure => simp [intOf]; omega
    · have hki : ¬ (k : Int) < (s.size : Int) := by omega
      have HE : Hid (R = .ok (ts ++ [(0, (s.size : Int), ⟨#[]⟩, 0)])) := by have h := hl.done (by omega); rw [show (k : Int) = (s.size : Int) by omega] at h; exact h
      have HO : Hid (SOwn tokE 32 (wr.alloc (.cells #[.int .i64 0, .int .i64 (s.size : Int), .string ⟨#[]⟩, .int .i64 0] 32)) w.heap.size (.slice a ts.length c0) ts.length ts ∧ SRd tokE (wr.alloc (.cells #[.int .i64 0, .int .i64 (s.size : Int), .string ⟨#[]⟩, .int .i64 0] 32)) (some ⟨wr.heap.size, 0, none⟩) [(0, (s.size : Int), ⟨#[]⟩, 0)]) :=
        ⟨SOwn.kept hw.own (World.grownBy_alloc wr _ none) (Classical.em _), srd_lit tokE 32 wr [(0, (s.size : Int), ⟨#[]⟩, 0)]⟩
      have hx4 : w.heap.size ≤ (wr.alloc (.cells #[.int .i64 0, .int .i64 (s.size : Int), .string ⟨#[]⟩, .int .i64 0] 32)).heap.size := by
        have := hw.gb.size
        rw [size_alloc]
        omega
      have HBB : Hid (∀ W2 v2, SOwn tokE 32 W2 w.heap.size v2 (ts.length + 1) (ts ++ [(0, (s.size : Int), ⟨#[]⟩, 0)]) → (wr.alloc (.cells #[.int .i64 0, .int .i64 (s.size : Int), .string ⟨#[]⟩, .int .i64 0] 32)).grownBy W2 (Value.ownBlock (.slice a ts.length c0)) → LrW w W2 v2 (ts ++ [(0, (s.size : Int), ⟨#[]⟩, 0)])) := fun W2 v2 h1 h2 => hw.app (World.grownBy_alloc wr _ none) h1 h2
      have hn0 : ts.length ≤ 4096 := by omega
      generalize hn : ts.length = m at HO HBB hn0 ⊢
      clear hl hts hw hn
      go_wp2_with (at_builtin; refine wpList_append_s tokT rfl (.tmp 136) (.tmp 140) rfl w.heap.size (.slice a m c0) m ts rfl HO.out.1 (some ⟨wr.heap.size, 0, none⟩) [(0, (s.size : Int), ⟨#[]⟩, 0)] 1 1 rfl rfl HO.out.2 (by simp) (by omega) (by unfold maxLen; omega) hx4 ?_; intro v2 w2 ho2 hg2 hn2; have HO2 := hid ho2; have HG2 := hid hg2; clear ho2 hg2 hn2)
      have hB := HBB.out w2 v2 HO2.out HG2.out
      obtain ⟨a2, c2, e2⟩ := sown_slice hB.own
      refine bodyPost_ret (v := .tuple #[v2, .int .i64 0, .int .i64 0]) (by simp [results, Try.results8, go_sem]) rfl ?_
      have he := HE.out
      subst he
      exact ⟨a2, c2, by rw [← e2], by rw [← e2]; exact hB.own, hB.gb⟩
end Go.Proofs.Ytkocdmkojoefoaa
