/- Lex: the program's, the walk. (Printed by mk_ly.py.) -/
import Derived.Test.YtkocdmkojoefoaaLx
namespace Go.Proofs.Ytkocdmkojoefoaa
open Go.RowKit
set_option linter.unusedVariables false
set_option maxRecDepth 20000

set_option maxHeartbeats 8000000 in
theorem f_lexR (s : ByteArray) (R : Lx) (w : World) (hs : s.size ≤ 4096) (hR : lexL 0 (sInts s) = R) : Calls Try.prog 9 #[.string s] w fun e w' => LxOut R w e w' := by
  have H0 : Hid (LexAt s [] 0 R) := by rw [← hR]; exact LexAt.start s
  have HSL : Hid ((sInts s).length = s.size) := sInts_len s
  have HTL : Hid (∀ (k : Nat) (X : Int × ByteArray × Int × Nat) (c : Int), k < s.size → TokAt s k X c → k + X.2.2.2 ≤ s.size) := fun k X c hk ht => by
    have h1 := tok_len ((sInts s).drop k) (by rw [List.length_drop, sInts_len]; omega)
    unfold TokAt at ht
    rw [ht, List.length_drop, sInts_len] at h1
    have h2 : X.2.2.2 ≤ s.size - k := h1
    omega
  have HSG : Hid (∀ k w1, k < s.size → Calls Try.prog 26 #[.string (dropS s k)] w1 fun e w' => TkOut (sgnR ((sInts s).drop k)) w1 e w') := fun k w1 hk => by
    have h := f_sign (dropS s k) w1 (by rw [size_drop]; omega) (by rw [size_drop]; omega)
    rw [sInts_drop] at h
    exact h
  have HNM : Hid (∀ k w1, k < s.size → digB (byteAt s k) = true → Calls Try.prog 27 #[.string (dropS s k)] w1 fun e w' => TkOut (numR ((sInts s).drop k)) w1 e w') := fun k w1 hk hd => by
    have h := f_number (dropS s k) w1 (by rw [size_drop]; omega) (by rw [size_drop]; omega) (by rw [drop_head]; exact hd)
    rw [sInts_drop] at h
    exact h
  have HWD : Hid (∀ k w1, k < s.size → runB 58 (byteAt s k) = true → Calls Try.prog 28 #[.string (dropS s k)] w1 fun e w' => TkOut (wordR ((sInts s).drop k)) w1 e w') := fun k w1 hk hd => by
    have h := f_word (dropS s k) w1 (by rw [size_drop]; omega) (by rw [drop_head]; exact hd)
    rw [sInts_drop] at h
    exact h
  have HTX : Hid (∀ k w1, k < s.size → Calls Try.prog 29 #[.string (dropS s k)] w1 fun e w' => TkOut (txtR ((sInts s).drop k)) w1 e w') := fun k w1 hk => by
    have h := f_text (dropS s k) w1 (by rw [size_drop]; omega) (by rw [size_drop]; omega)
    rw [sInts_drop] at h
    exact h
  generalize hW : (w.alloc (.cells #[.int .i64 0, .int .i64 0, .string ⟨#[]⟩, .int .i64 0] 32)) = W
  have HW : Hid ((w.alloc (.cells #[.int .i64 0, .int .i64 0, .string ⟨#[]⟩, .int .i64 0] 32)) = W) := hW
  have HB : Hid (Bx w W w.heap.size) := by rw [← hW]; exact Bx.made w
  clear hW hR
  generalize hG : w.heap.size = G at HB
  have HG : Hid (w.heap.size = G) := hG
  clear hG
  have q0 : decide ((4096 : Int) < (s.size : Int)) = false := by simp; omega
  go_enter Try.func9, Try.ntmps9
  go_wp2_with fail
  refine wp_scope_lex (LxJ0 s G R w) (LxJ1 s G R w) (LxJX (fun c => digB c = true) s G R w) (LxJX (fun c => digB c = false ∧ runB 58 c = true) s G R w) (LxJX (fun c => c = 34) s G R w) (LxJ5 s G R w) (lxM s 0) (lxM s 3) (lxM s 2) (lxM s 2) (lxM s 2) (lxM s 1) rfl rfl rfl rfl rfl rfl ?p0 ?p5 ?p4 ?p3 ?p2 ?p1 ?first
  case p0 =>
    rintro a' wr ⟨k, n, kd, sp, t, v, ts, u, rfl, hb, hl, hts, hk⟩
    unfold lexT
    have HE : Hid (R = .ok (ts ++ [(0, (k : Int), ⟨#[]⟩, 0)])) := hl.done hk
    obtain ⟨a, c, rfl⟩ := sown_slice hb.own
    have HO : Hid (SOwn tokE 32 (wr.alloc (.cells #[.int .i64 0, .int .i64 (k : Int), .string ⟨#[]⟩, .int .i64 0] 32)) (G + 1) (.slice a ts.length c) ts.length ts ∧ SRd tokE (wr.alloc (.cells #[.int .i64 0, .int .i64 (k : Int), .string ⟨#[]⟩, .int .i64 0] 32)) (some ⟨wr.heap.size, 0, none⟩) [(0, (k : Int), ⟨#[]⟩, 0)]) :=
      ⟨SOwn.kept hb.own (World.grownBy_alloc wr _ none) (Classical.em _), srd_lit tokE 32 wr [(0, (k : Int), ⟨#[]⟩, 0)]⟩
    have hx4 : G + 1 ≤ (wr.alloc (.cells #[.int .i64 0, .int .i64 (k : Int), .string ⟨#[]⟩, .int .i64 0] 32)).heap.size := by
      have := hb.lt
      rw [size_alloc]
      omega
    have HBB : Hid (∀ W2 v2, SOwn tokE 32 W2 (G + 1) v2 (ts.length + 1) (ts ++ [(0, (k : Int), ⟨#[]⟩, 0)]) → (wr.alloc (.cells #[.int .i64 0, .int .i64 (k : Int), .string ⟨#[]⟩, .int .i64 0] 32)).grownBy W2 (Value.ownBlock (.slice a ts.length c)) → LxB w W2 G v2 (ts ++ [(0, (k : Int), ⟨#[]⟩, 0)]) kd sp t) := fun W2 v2 h1 h2 => hb.app (World.grownBy_alloc wr _ none) h1 h2
    have hn0 : ts.length ≤ 4096 := by omega
    have HLL : Hid ((ts ++ [(0, (k : Int), (⟨#[]⟩ : ByteArray), (0 : Int))] : List Tok).length = ts.length + 1) := by show _ = _; rw [List.length_append]; rfl
    generalize hn : ts.length = m at HO HBB HLL hn0 ⊢
    clear hb hl hts hk hn
    go_wp2_with (at_builtin; refine wpList_append_s tokT rfl (.tmp 80) (.tmp 83) rfl (G + 1) (.slice a m c) m ts rfl HO.out.1 (some ⟨wr.heap.size, 0, none⟩) [(0, (k : Int), ⟨#[]⟩, 0)] 1 1 rfl rfl HO.out.2 (by simp) (by omega) (by unfold maxLen; omega) hx4 ?_; intro v2 w2 ho2 hg2 hn2; have HO2 := hid ho2; have HG2 := hid hg2; clear ho2 hg2 hn2)
    simp only [onto, jumps]
    have hB := HBB.out w2 v2 HO2.out HG2.out
    obtain ⟨a2, c2, e2⟩ := sown_slice hB.own
    refine bodyPost_ret (v := .tuple #[v2, .int .i64 0, .int .i64 0]) (by simp [results, Try.results9, go_sem]) rfl ?_
    have he := HE.out
    subst he
    exact ⟨a2, c2, by rw [← e2], by rw [← e2]; exact SOwn.base hB.own (by have := hB.le; omega), hB.gb⟩
  case p5 =>
    rintro on0 a' wr ⟨k, n, kd, sp, c0, t, v, ts, u, rfl, hb, hl, hts, hk, hbl, hn0, htk⟩
    clear on0
    unfold lexT
    have HTN : Hid (k + n ≤ s.size) := HTL.out k (kd, t, sp, n) c0 hk htk
    have HLN : Hid (LexAt s (ts ++ [(kd, (k : Int), t, sp)]) (k + n) R) := hl.tok hk hbl hn0 htk
    obtain ⟨a, c, rfl⟩ := sown_slice hb.own
    obtain ⟨hrow, hb2⟩ := hb.at (k : Int)
    have hkn := HTN.out
    obtain ⟨x, hx⟩ := hb.row
    have f1 := free_row hx 1
    obtain ⟨r0, r1, r2, r3⟩ := cell4 hx
    obtain ⟨W1, hW1⟩ : ∃ W1, wr.setCell ⟨G, 1, none⟩ (.int .i64 (k : Int)) = W1 := ⟨_, rfl⟩
    have HW1 : Hid (wr.setCell ⟨G, 1, none⟩ (.int .i64 (k : Int)) = W1) := hW1
    rw [hW1] at hrow hb2
    clear hW1 hb hl hbl htk hx
    go_upto_region 25 with fail
    rw [HW1.out]
    clear HW1 r0 r1 r2 r3 f1
    obtain ⟨r0, r1, r2, r3⟩ := cell4 hrow
    have HO : Hid (SOwn tokE 32 (W1.alloc (.cells #[.int .i64 kd, .int .i64 (k : Int), .string t, .int .i64 sp] 32)) (G + 1) (.slice a ts.length c) ts.length ts ∧ SRd tokE (W1.alloc (.cells #[.int .i64 kd, .int .i64 (k : Int), .string t, .int .i64 sp] 32)) (some ⟨W1.heap.size, 0, none⟩) [(kd, (k : Int), t, sp)]) :=
      ⟨SOwn.kept hb2.own (World.grownBy_alloc W1 _ none) (Classical.em _), srd_lit tokE 32 W1 [(kd, (k : Int), t, sp)]⟩
    have hx4 : G + 1 ≤ (W1.alloc (.cells #[.int .i64 kd, .int .i64 (k : Int), .string t, .int .i64 sp] 32)).heap.size := by
      have := hb2.lt
      rw [size_alloc]
      omega
    have HBB : Hid (∀ W2 v2, SOwn tokE 32 W2 (G + 1) v2 (ts.length + 1) (ts ++ [(kd, (k : Int), t, sp)]) → (W1.alloc (.cells #[.int .i64 kd, .int .i64 (k : Int), .string t, .int .i64 sp] 32)).grownBy W2 (Value.ownBlock (.slice a ts.length c)) → LxB w W2 G v2 (ts ++ [(kd, (k : Int), t, sp)]) kd sp t) := fun W2 v2 h1 h2 => hb2.app (World.grownBy_alloc W1 _ none) h1 h2
    have hm0 : ts.length ≤ 4096 := by omega
    have HLL : Hid ((ts ++ [(kd, (k : Int), t, sp)] : List Tok).length ≤ k + n) := by show _ ≤ _; rw [List.length_append, List.length_singleton]; omega
    generalize hm : ts.length = m at HO HBB hm0 ⊢
    clear hb2 hts hrow hm
    go_wp2_with (at_builtin; refine wpList_append_s tokT rfl (.tmp 73) (.tmp 75) rfl (G + 1) (.slice a m c) m ts rfl HO.out.1 (some ⟨W1.heap.size, 0, none⟩) [(kd, (k : Int), t, sp)] 1 1 rfl rfl HO.out.2 (by simp) (by omega) (by unfold maxLen; omega) hx4 ?_; intro v2 w2 ho2 hg2 hn2; have HO2 := hid ho2; have HG2 := hid hg2; clear ho2 hg2 hn2)
    go_step3
    exact ⟨lxJ1 (k + n) (n : Int) kd sp t v2 (ts ++ [(kd, (k : Int), t, sp)]) rfl (HBB.out w2 v2 HO2.out HG2.out) HLN.out HLL.out HTN.out, by simp [sel6, lxM, intOf] <;> omega⟩
  case p4 =>
    rintro on5 a' wr ⟨k, n0, kd, sp, t, v, ts, u, rfl, hb, hl, hts, hk, hbl, hP⟩
    have ON : Hid (∀ n a w', LxJ5 s G R w a w' → _) := on5
    clear on5
    unfold lexT
    have HTA : Hid (TokAt s k (txtR ((sInts s).drop k)) 173) := isText hP
    have hsl := sl_lo s k (by omega)
    have HC := HTX.out k wr hk
    have HLX : Hid (LexAt s ts k R ∧ ts.length ≤ k ∧ blankB (byteAt s k) = false) := ⟨hl, hts, hbl⟩
    have HBX : Hid (LxB w wr G v ts kd sp t) := hb
    generalize txtR ((sInts s).drop k) = X at HTA HC
    clear hb hl hts hbl hP
    obtain ⟨kd2, t2, sp2, n⟩ := X
    have HTA2 : Hid (tokR ((sInts s).drop k) = ((kd2, t2, sp2, n), 173)) := HTA.out
    have HTN : Hid (k + n ≤ s.size) := HTL.out k _ _ hk HTA.out
    have hns : n ≤ 4096 := by have := HTN.out; omega
    go_wp2_with fail
    refine HC.mono ?_
    rintro e w1 ⟨rfl, hg1⟩
    have HB1 : Hid (LxB w w1 G v ts kd sp t) := HBX.out.grown hg1
    have HB2 : Hid (LxB w (put4 w1 G (.int .i64 kd2) (.int .i64 0) (.string t2) (.int .i64 sp2)) G v ts kd2 sp2 t2) := HB1.out.put kd2 0 sp2 t2
    obtain ⟨x, hx⟩ := HB1.out.row
    obtain ⟨r0, r1, r2, r3⟩ := cell4 hx
    have f0 := free_row hx 0
    have f1 := free_row hx 1
    have f2 := free_row hx 2
    have f3 := free_row hx 3
    clear hg1 hx HTA HB1
    by_cases hn : n = 0
    · have q1 : ((n : Int) == 0) = true := by simp; omega
      subst hn
      have HE : Hid (R = .bad k 173) := by
        have h := HLX.out.1.bad hk HLX.out.2.2 (by rw [HTA2.out])
        rw [HTA2.out] at h
        exact h
      go_wp2_with fail
      simp only [onto, jumps]
      refine bodyPost_ret (v := .tuple #[.slice none 0 0, .int .i64 (k : Int), .int .i64 173]) (by simp [results, Try.results9, go_sem]) rfl ?_
      exact lx_bad HE.out HB2.out.gb
    · have q1 : ((n : Int) == 0) = false := by simp; omega
      have q2 : (n == 0) = false := by simpa using hn
      go_wp2_with fail
      go_step3
      refine ‹∀ (a : Act) (w : World), Code.wp Try.prog _ _ a w → _› _ _ (ON.out _ _ _ (lxJ5 k n kd2 sp2 _ t2 v ts rfl HB2.out HLX.out.1 HLX.out.2.1 hk HLX.out.2.2 hn HTA2.out) ?_)
      simp [lxM, intOf] <;> omega
  case p3 =>
    rintro on4 a' wr ⟨k, n0, kd, sp, t, v, ts, u, rfl, hb, hl, hts, hk, hbl, hP⟩
    clear on4
    unfold lexT
    have HTA : Hid (TokAt s k (wordR ((sInts s).drop k)) 0) := isWord hP
    have hsl := sl_lo s k (by omega)
    have HC := HWD.out k wr hk hP.2
    have HLX : Hid (LexAt s ts k R ∧ ts.length ≤ k ∧ blankB (byteAt s k) = false) := ⟨hl, hts, hbl⟩
    have HBX : Hid (LxB w wr G v ts kd sp t) := hb
    have hn0 : (wordR ((sInts s).drop k)).2.2.2 ≠ 0 := word_pos _ (by rw [drop_head0]; exact hP.2)
    generalize wordR ((sInts s).drop k) = X at HTA HC hn0
    clear hb hl hts hbl hP
    obtain ⟨kd2, t2, sp2, n⟩ := X
    have HTA2 : Hid (tokR ((sInts s).drop k) = ((kd2, t2, sp2, n), 0)) := HTA.out
    have HTN : Hid (k + n ≤ s.size) := HTL.out k _ _ hk HTA.out
    have hns : n ≤ 4096 := by have := HTN.out; omega
    go_wp2_with fail
    refine HC.mono ?_
    rintro e w1 ⟨rfl, hg1⟩
    have HB1 : Hid (LxB w w1 G v ts kd sp t) := HBX.out.grown hg1
    have HB2 : Hid (LxB w (put4 w1 G (.int .i64 kd2) (.int .i64 0) (.string t2) (.int .i64 sp2)) G v ts kd2 sp2 t2) := HB1.out.put kd2 0 sp2 t2
    obtain ⟨x, hx⟩ := HB1.out.row
    obtain ⟨r0, r1, r2, r3⟩ := cell4 hx
    have f0 := free_row hx 0
    have f1 := free_row hx 1
    have f2 := free_row hx 2
    have f3 := free_row hx 3
    clear hg1 hx HTA HB1
    have hn : n ≠ 0 := hn0
    clear hn0
    go_wp2_with fail
    go_step3
    exact ⟨lxJ5 k n kd2 sp2 _ t2 v ts rfl HB2.out HLX.out.1 HLX.out.2.1 hk HLX.out.2.2 hn HTA2.out, by simp [sel6, lxM, intOf] <;> omega⟩
  case p2 =>
    rintro on3 a' wr ⟨k, n0, kd, sp, t, v, ts, u, rfl, hb, hl, hts, hk, hbl, hP⟩
    clear on3
    unfold lexT
    have HTA : Hid (TokAt s k (numR ((sInts s).drop k)) 172) := isNum hP
    have hsl := sl_lo s k (by omega)
    have HC := HNM.out k wr hk hP
    have HLX : Hid (LexAt s ts k R ∧ ts.length ≤ k ∧ blankB (byteAt s k) = false) := ⟨hl, hts, hbl⟩
    have HBX : Hid (LxB w wr G v ts kd sp t) := hb
    generalize numR ((sInts s).drop k) = X at HTA HC
    clear hb hl hts hbl hP
    obtain ⟨kd2, t2, sp2, n⟩ := X
    have HTA2 : Hid (tokR ((sInts s).drop k) = ((kd2, t2, sp2, n), 172)) := HTA.out
    have HTN : Hid (k + n ≤ s.size) := HTL.out k _ _ hk HTA.out
    have hns : n ≤ 4096 := by have := HTN.out; omega
    go_wp2_with fail
    refine HC.mono ?_
    rintro e w1 ⟨rfl, hg1⟩
    have HB1 : Hid (LxB w w1 G v ts kd sp t) := HBX.out.grown hg1
    have HB2 : Hid (LxB w (put4 w1 G (.int .i64 kd2) (.int .i64 0) (.string t2) (.int .i64 sp2)) G v ts kd2 sp2 t2) := HB1.out.put kd2 0 sp2 t2
    obtain ⟨x, hx⟩ := HB1.out.row
    obtain ⟨r0, r1, r2, r3⟩ := cell4 hx
    have f0 := free_row hx 0
    have f1 := free_row hx 1
    have f2 := free_row hx 2
    have f3 := free_row hx 3
    clear hg1 hx HTA HB1
    by_cases hn : n = 0
    · have q1 : ((n : Int) == 0) = true := by simp; omega
      subst hn
      have HE : Hid (R = .bad k 172) := by
        have h := HLX.out.1.bad hk HLX.out.2.2 (by rw [HTA2.out])
        rw [HTA2.out] at h
        exact h
      go_wp2_with fail
      simp only [onto, jumps]
      refine bodyPost_ret (v := .tuple #[.slice none 0 0, .int .i64 (k : Int), .int .i64 172]) (by simp [results, Try.results9, go_sem]) rfl ?_
      exact lx_bad HE.out HB2.out.gb
    · have q1 : ((n : Int) == 0) = false := by simp; omega
      have q2 : (n == 0) = false := by simpa using hn
      go_wp2_with fail
      go_step3
      exact ⟨lxJ5 k n kd2 sp2 _ t2 v ts rfl HB2.out HLX.out.1 HLX.out.2.1 hk HLX.out.2.2 hn HTA2.out, by simp [sel6, lxM, intOf] <;> omega⟩
  case p1 =>
    rintro on2 a' wr ⟨k, n0, kd, sp, t, v, ts, u, rfl, hb, hl, hts, hk⟩
    have ON : Hid (∀ n a w', LxJX (fun c => digB c = true) s G R w a w' → _) := on2
    clear on2
    unfold lexT
    have HBX : Hid (LxB w wr G v ts kd sp t) := hb
    have HLX : Hid (LexAt s ts k R ∧ ts.length ≤ k) := ⟨hl, hts⟩
    clear hb hl hts
    by_cases he : k = s.size
    · have q1 : ((k : Int) == (s.size : Int)) = true := by simp; omega
      have HE : Hid (k = s.size) := he
      clear he
      go_wp2_with fail
      go_step3
      exact ⟨lxJ0 k n0 kd sp t v ts rfl HBX.out HLX.out.1 HLX.out.2 HE.out, by simp [sel6, lxM, intOf] <;> omega⟩
    have hlt : k < s.size := by omega
    have q1 : ((k : Int) == (s.size : Int)) = false := by simp; omega
    have hidx := idx9 s k hlt
    have HBL := fun w => f_blank (byteAt s k) _ w rfl
    have HDG := fun w => f_digit (byteAt s k) _ w rfl
    have HWB := f_wordByte (byteAt s k)
    rw [wb_run] at HWB
    have hsl := sl_lo s k hk
    have HLB : Hid (blankB (byteAt s k) = true → LexAt s ts (k + 1) R) := fun h => HLX.out.1.blank hlt h
    have HCS := HSG.out k wr hlt
    clear he
    obtain ⟨b1, hb1⟩ : ∃ b, blankB (byteAt s k) = b := ⟨_, rfl⟩
    obtain ⟨b2, hb2⟩ : ∃ b, digB (byteAt s k) = b := ⟨_, rfl⟩
    obtain ⟨b3, hb3⟩ : ∃ b, runB 58 (byteAt s k) = b := ⟨_, rfl⟩
    have HBB : Hid (blankB (byteAt s k) = b1 ∧ digB (byteAt s k) = b2 ∧ runB 58 (byteAt s k) = b3) := ⟨hb1, hb2, hb3⟩
    have H34 : Hid (∀ c, c = byteAt s k → byteAt s k = c) := fun c h => h.symm
    rw [hb1] at HBL
    rw [hb2] at HDG
    rw [hb3] at HWB
    have HIS : Hid (digB (byteAt s k) = false ∧ runB 58 (byteAt s k) = false ∧ byteAt s k ≠ 34 → TokAt s k (sgnR ((sInts s).drop k)) 171) := fun h => isSign h
    clear hb1 hb2 hb3
    obtain ⟨c, hc⟩ : ∃ c, byteAt s k = c := ⟨_, rfl⟩
    have HC : Hid (byteAt s k = c) := hc
    rw [hc] at hidx HBL HDG HWB
    clear hc
    cases b1 with
    | true =>
      have HN := hid (HLB.out HBB.out.1)
      clear HLB
      go_wp2_with (first | (go_at_call 23; refine (HBL _).mono ?_; rintro e w1 ⟨rfl, rfl⟩) | (go_at_call 24; refine (HDG _).mono ?_; rintro e w1 ⟨rfl, rfl⟩) | (go_at_call 25; refine (HWB _).mono ?_; rintro e w1 ⟨rfl, rfl⟩))
      go_step3
      exact ⟨lxJ1 (k + 1) n0 kd sp t v ts rfl HBX.out HN.out (by have := HLX.out.2; omega) (by omega), by simp [sel6, lxM, intOf] <;> omega⟩
    | false =>
    cases b2 with
    | true =>
      clear HLB
      go_wp2_with (first | (go_at_call 23; refine (HBL _).mono ?_; rintro e w1 ⟨rfl, rfl⟩) | (go_at_call 24; refine (HDG _).mono ?_; rintro e w1 ⟨rfl, rfl⟩) | (go_at_call 25; refine (HWB _).mono ?_; rintro e w1 ⟨rfl, rfl⟩))
      go_step3
      exact ⟨lxJX (P := fun c => digB c = true) k n0 kd sp t v ts rfl HBX.out HLX.out.1 HLX.out.2 hlt HBB.out.1 HBB.out.2.1, by simp [sel6, lxM, intOf] <;> omega⟩
    | false =>
    cases b3 with
    | true =>
      clear HLB
      go_wp2_with (first | (go_at_call 23; refine (HBL _).mono ?_; rintro e w1 ⟨rfl, rfl⟩) | (go_at_call 24; refine (HDG _).mono ?_; rintro e w1 ⟨rfl, rfl⟩) | (go_at_call 25; refine (HWB _).mono ?_; rintro e w1 ⟨rfl, rfl⟩))
      go_step3
      exact ⟨lxJX (P := fun c => digB c = false ∧ runB 58 c = true) k n0 kd sp t v ts rfl HBX.out HLX.out.1 HLX.out.2 hlt HBB.out.1 ⟨HBB.out.2.1, HBB.out.2.2⟩, by simp [sel6, lxM, intOf] <;> omega⟩
    | false =>
    by_cases h34 : c = 34
    · have H3 : Hid (byteAt s k = 34) := by show _ = _; rw [HC.out, h34]
      clear HLB HIS
      subst h34
      go_wp2_with (first | (go_at_call 23; refine (HBL _).mono ?_; rintro e w1 ⟨rfl, rfl⟩) | (go_at_call 24; refine (HDG _).mono ?_; rintro e w1 ⟨rfl, rfl⟩) | (go_at_call 25; refine (HWB _).mono ?_; rintro e w1 ⟨rfl, rfl⟩))
      go_step3
      exact ⟨lxJX (P := fun c => c = 34) k n0 kd sp t v ts rfl HBX.out HLX.out.1 HLX.out.2 hlt HBB.out.1 H3.out, by simp [sel6, lxM, intOf] <;> omega⟩
    · have q2 : (c == 34) = false := by simpa using h34
      have HTA := hid (HIS.out ⟨HBB.out.2.1, HBB.out.2.2, by rw [HC.out]; exact h34⟩)
      clear HLB HIS h34 H34
      generalize sgnR ((sInts s).drop k) = X at HTA HCS
      obtain ⟨kd2, t2, sp2, n⟩ := X
      have HTA2 : Hid (tokR ((sInts s).drop k) = ((kd2, t2, sp2, n), 171)) := HTA.out
      have HTN : Hid (k + n ≤ s.size) := HTL.out k _ _ hlt HTA.out
      have hns : n ≤ 4096 := by have := HTN.out; omega
      have hk2 := hlt
      go_wp2_with (first | (go_at_call 23; refine (HBL _).mono ?_; rintro e w1 ⟨rfl, rfl⟩) | (go_at_call 24; refine (HDG _).mono ?_; rintro e w1 ⟨rfl, rfl⟩) | (go_at_call 25; refine (HWB _).mono ?_; rintro e w1 ⟨rfl, rfl⟩) | fail)
      refine HCS.mono ?_
      rintro e w1 ⟨rfl, hg1⟩
      have HB1 : Hid (LxB w w1 G v ts kd sp t) := HBX.out.grown hg1
      have HB2 : Hid (LxB w (put4 w1 G (.int .i64 kd2) (.int .i64 0) (.string t2) (.int .i64 sp2)) G v ts kd2 sp2 t2) := HB1.out.put kd2 0 sp2 t2
      obtain ⟨x, hx⟩ := HB1.out.row
      obtain ⟨r0, r1, r2, r3⟩ := cell4 hx
      have f0 := free_row hx 0
      have f1 := free_row hx 1
      have f2 := free_row hx 2
      have f3 := free_row hx 3
      clear hg1 hx HTA HB1 hidx HBL HDG HWB hsl
      by_cases hn : n = 0
      · have q1 : ((n : Int) == 0) = true := by simp; omega
        subst hn
        have HE : Hid (R = .bad k 171) := by
          have h := HLX.out.1.bad hlt HBB.out.1 (by rw [HTA2.out])
          rw [HTA2.out] at h
          exact h
        go_wp2_with fail
        simp only [onto, jumps]
        refine bodyPost_ret (v := .tuple #[.slice none 0 0, .int .i64 (k : Int), .int .i64 171]) (by simp [results, Try.results9, go_sem]) rfl ?_
        exact lx_bad HE.out HB2.out.gb
      · have q1 : ((n : Int) == 0) = false := by simp; omega
        have q2 : (n == 0) = false := by simpa using hn
        go_wp2_with fail
        go_step3
        exact ⟨lxJ5 k n kd2 sp2 _ t2 v ts rfl HB2.out HLX.out.1 HLX.out.2 hlt HBB.out.1 hn HTA2.out, by simp [sel6, lxM, intOf] <;> omega⟩
  case first =>
    intro go_on
    have GO : Hid (∀ a' w', LxJ1 s G R w a' w' → _) := go_on
    clear go_on
    go_wp2
    rw [HW.out, HG.out]
    go_step3
    refine ‹∀ (a : Act) (w : World), Code.wp Try.prog _ _ a w → _› _ _ (GO.out _ _ ?_)
    exact lxJ1 0 0 0 0 ⟨#[]⟩ _ [] rfl ⟨⟨0, HB.out.row⟩, HB.out.gb, HB.out.le, SOwn.nil 32 _ _⟩ H0.out (Nat.le_refl _) (Nat.zero_le _)
end Go.Proofs.Ytkocdmkojoefoaa
