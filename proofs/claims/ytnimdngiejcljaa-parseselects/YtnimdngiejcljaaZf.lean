/- Several texts in one: Ly, Aw, Pb, Pd. -/
import Derived.Test.YtnimdngiejcljaaZd
import Derived.BigQuiet
/- Lex: the program's, the walk. (Printed by mk_ly.py.) -/
namespace Go.Proofs.Ytnimdngiejcljaa
open Go.RowKit
set_option linter.unusedVariables false
set_option maxRecDepth 20000

set_option maxHeartbeats 8000000 in
theorem f_lexR (s : ByteArray) (R : Lx) (w : World) (hs : s.size ≤ 4096) (hR : lexL 0 (sInts s) = R) : Calls Try.prog 9 #[.string s] w fun e w' => LxOut R w e w' := by
  have H0 : Hid (LexAt s [] 0 R) := by rw [← hR]; exact LexAt.start s
  have HSL : Hid ((sInts s).length = s.size) := sInts_len s
  have HTL : Hid (∀ (k : Nat) (X : Int × ByteArray × Int × Nat) (c : Int), k < s.size → TokAt s k X c → k + X.2.2.2 ≤ s.size) := fun k X c hk ht => by
    have h1 := tok_len ((sInts s).drop k) (by rw [List.length_drop, sInts_len]; omega)
    unfold TokAt at ht
    rw [ht, List.length_drop, sInts_len] at h1
    have h2 : X.2.2.2 ≤ s.size - k := h1
    omega
  have HSG : Hid (∀ k w1, k < s.size → Calls Try.prog 24 #[.string (dropS s k)] w1 fun e w' => TkOut (sgnR ((sInts s).drop k)) w1 e w') := fun k w1 hk => by
    have h := f_sign (dropS s k) w1 (by rw [size_drop]; omega) (by rw [size_drop]; omega)
    rw [sInts_drop] at h
    exact h
  have HNM : Hid (∀ k w1, k < s.size → digB (byteAt s k) = true → Calls Try.prog 25 #[.string (dropS s k)] w1 fun e w' => TkOut (numR ((sInts s).drop k)) w1 e w') := fun k w1 hk hd => by
    have h := f_number (dropS s k) w1 (by rw [size_drop]; omega) (by rw [size_drop]; omega) (by rw [drop_head]; exact hd)
    rw [sInts_drop] at h
    exact h
  have HWD : Hid (∀ k w1, k < s.size → runB 58 (byteAt s k) = true → Calls Try.prog 26 #[.string (dropS s k)] w1 fun e w' => TkOut (wordR ((sInts s).drop k)) w1 e w') := fun k w1 hk hd => by
    have h := f_word (dropS s k) w1 (by rw [size_drop]; omega) (by rw [drop_head]; exact hd)
    rw [sInts_drop] at h
    exact h
  have HTX : Hid (∀ k w1, k < s.size → Calls Try.prog 27 #[.string (dropS s k)] w1 fun e w' => TkOut (txtR ((sInts s).drop k)) w1 e w') := fun k w1 hk => by
    have h := f_text (dropS s k) w1 (by rw [size_drop]; omega) (by rw [size_drop]; omega)
    rw [sInts_drop] at h
    exact h
  generalize hW : (w.alloc (.cells #[.int .i64 0, .int .i64 0, .string ⟨#[]⟩, .int .i64 0] 52)) = W
  have HW : Hid ((w.alloc (.cells #[.int .i64 0, .int .i64 0, .string ⟨#[]⟩, .int .i64 0] 52)) = W) := hW
  have HB : Hid (Bx w W w.heap.size) := by rw [← hW]; exact Bx.made w
  clear hW hR
  generalize hG : w.heap.size = G at HB
  have HG : Hid (w.heap.size = G) := hG
  clear hG
  have q0 : decide ((4096 : Int) < (s.size : Int)) = false := by simp; omega
  go_enter Try.func9, Try.ntmps9
  go_wp2_with fail
  refine wp_scope_lex (LxJ0 s G R w) (LxJ1 s G R w) (LxJX (fun c => digB c = true) s G R w) (LxJX (fun c => digB c = false ∧ runB 58 c = true) s G R w) (LxJX (fun c => c = 34) s G R w) (LxJ5 s G R w) (lxM s 0) (lxM s 3) (lxM s 2) (lxM s 2) (lxM s 2) (lxM s 1) rfl rfl rfl rfl rfl rfl ?p0 ?p5 ?p4 ?p3 ?p2 ?p1 ?first
  case p0 =>
    rintro a' wr ⟨k, n, kd, sp, t, v, ts, u, rfl, hb, hl, hts, hk⟩
    unfold lexT
    have HE : Hid (R = .ok (ts ++ [(0, (k : Int), ⟨#[]⟩, 0)])) := hl.done hk
    obtain ⟨a, c, rfl⟩ := sown_slice hb.own
    have HO : Hid (SOwn tokE 52 (wr.alloc (.cells #[.int .i64 0, .int .i64 (k : Int), .string ⟨#[]⟩, .int .i64 0] 52)) (G + 1) (.slice a ts.length c) ts.length ts ∧ SRd tokE (wr.alloc (.cells #[.int .i64 0, .int .i64 (k : Int), .string ⟨#[]⟩, .int .i64 0] 52)) (some ⟨wr.heap.size, 0, none⟩) [(0, (k : Int), ⟨#[]⟩, 0)]) :=
      ⟨SOwn.kept hb.own (World.grownBy_alloc wr _ none) (Classical.em _), srd_lit tokE 52 wr [(0, (k : Int), ⟨#[]⟩, 0)]⟩
    have hx4 : G + 1 ≤ (wr.alloc (.cells #[.int .i64 0, .int .i64 (k : Int), .string ⟨#[]⟩, .int .i64 0] 52)).heap.size := by
      have := hb.lt
      rw [size_alloc]
      omega
    have HBB : Hid (∀ W2 v2, SOwn tokE 52 W2 (G + 1) v2 (ts.length + 1) (ts ++ [(0, (k : Int), ⟨#[]⟩, 0)]) → (wr.alloc (.cells #[.int .i64 0, .int .i64 (k : Int), .string ⟨#[]⟩, .int .i64 0] 52)).grownBy W2 (Value.ownBlock (.slice a ts.length c)) → LxB w W2 G v2 (ts ++ [(0, (k : Int), ⟨#[]⟩, 0)]) kd sp t) := fun W2 v2 h1 h2 => hb.app (World.grownBy_alloc wr _ none) h1 h2
    have hn0 : ts.length ≤ 4096 := by omega
    have HLL : Hid ((ts ++ [(0, (k : Int), (⟨#[]⟩ : ByteArray), (0 : Int))] : List Tok).length = ts.length + 1) := by show _ = _; rw [List.length_append]; rfl
    generalize hn : ts.length = m at HO HBB HLL hn0 ⊢
    clear hb hl hts hk hn
    go_wp2_with (at_builtin; refine wpList_append_s tokT rfl (.tmp 80) (.tmp 83) rfl (G + 1) (.slice a m c) m ts rfl HO.out.1 (some ⟨wr.heap.size, 0, none⟩) [(0, (k : Int), ⟨#[]⟩, 0)] 1 1 rfl rfl HO.out.2 (by simp) (by omega) (by unfold maxLen; omega) hx4 ?_; intro v2 w2 ho2 hg2 hn2; have HO2 := hid ho2; have HG2 := hid hg2; clear ho2 hg2 hn2)
    simp only [onto, jumps]
    have hB := HBB.out w2 v2 HO2.out HG2.out
    obtain ⟨a2, c2, e2⟩ := sown_slice hB.own
    refine bodyPost_ret (v := .tuple #[v2, .int .i64 0, .int .i64 0]) (by simp [results, Try.results9, go_sem]) rfl ?_
    have he := HE.out
    subst he
    exact ⟨a2, c2, by rw [← e2], by rw [← e2]; exact SOwn.base hB.own (by have := hB.le; omega), hB.gb⟩
  case p5 =>
    rintro on0 a' wr ⟨k, n, kd, sp, c0, t, v, ts, u, rfl, hb, hl, hts, hk, hbl, hn0, htk⟩
    clear on0
    unfold lexT
    have HTN : Hid (k + n ≤ s.size) := HTL.out k (kd, t, sp, n) c0 hk htk
    have HLN : Hid (LexAt s (ts ++ [(kd, (k : Int), t, sp)]) (k + n) R) := hl.tok hk hbl hn0 htk
    obtain ⟨a, c, rfl⟩ := sown_slice hb.own
    obtain ⟨hrow, hb2⟩ := hb.at (k : Int)
    have hkn := HTN.out
    obtain ⟨x, hx⟩ := hb.row
    have f1 := free_row hx 1
    obtain ⟨r0, r1, r2, r3⟩ := cell4 hx
    obtain ⟨W1, hW1⟩ : ∃ W1, wr.setCell ⟨G, 1, none⟩ (.int .i64 (k : Int)) = W1 := ⟨_, rfl⟩
    have HW1 : Hid (wr.setCell ⟨G, 1, none⟩ (.int .i64 (k : Int)) = W1) := hW1
    rw [hW1] at hrow hb2
    clear hW1 hb hl hbl htk hx
    go_upto_region 25 with fail
    rw [HW1.out]
    clear HW1 r0 r1 r2 r3 f1
    obtain ⟨r0, r1, r2, r3⟩ := cell4 hrow
    have HO : Hid (SOwn tokE 52 (W1.alloc (.cells #[.int .i64 kd, .int .i64 (k : Int), .string t, .int .i64 sp] 52)) (G + 1) (.slice a ts.length c) ts.length ts ∧ SRd tokE (W1.alloc (.cells #[.int .i64 kd, .int .i64 (k : Int), .string t, .int .i64 sp] 52)) (some ⟨W1.heap.size, 0, none⟩) [(kd, (k : Int), t, sp)]) :=
      ⟨SOwn.kept hb2.own (World.grownBy_alloc W1 _ none) (Classical.em _), srd_lit tokE 52 W1 [(kd, (k : Int), t, sp)]⟩
    have hx4 : G + 1 ≤ (W1.alloc (.cells #[.int .i64 kd, .int .i64 (k : Int), .string t, .int .i64 sp] 52)).heap.size := by
      have := hb2.lt
      rw [size_alloc]
      omega
    have HBB : Hid (∀ W2 v2, SOwn tokE 52 W2 (G + 1) v2 (ts.length + 1) (ts ++ [(kd, (k : Int), t, sp)]) → (W1.alloc (.cells #[.int .i64 kd, .int .i64 (k : Int), .string t, .int .i64 sp] 52)).grownBy W2 (Value.ownBlock (.slice a ts.length c)) → LxB w W2 G v2 (ts ++ [(kd, (k : Int), t, sp)]) kd sp t) := fun W2 v2 h1 h2 => hb2.app (World.grownBy_alloc W1 _ none) h1 h2
    have hm0 : ts.length ≤ 4096 := by omega
    have HLL : Hid ((ts ++ [(kd, (k : Int), t, sp)] : List Tok).length ≤ k + n) := by show _ ≤ _; rw [List.length_append, List.length_singleton]; omega
    generalize hm : ts.length = m at HO HBB hm0 ⊢
    clear hb2 hts hrow hm
    go_wp2_with (at_builtin; refine wpList_append_s tokT rfl (.tmp 73) (.tmp 75) rfl (G + 1) (.slice a m c) m ts rfl HO.out.1 (some ⟨W1.heap.size, 0, none⟩) [(kd, (k : Int), t, sp)] 1 1 rfl rfl HO.out.2 (by simp) (by omega) (by unfold maxLen; omega) hx4 ?_; intro v2 w2 ho2 hg2 hn2; have HO2 := hid ho2; have HG2 := hid hg2; clear ho2 hg2 hn2)
    go_step3
    exact ⟨lxJ1 (k + n) (n : Int) kd sp t v2 (ts ++ [(kd, (k : Int), t, sp)]) rfl (HBB.out w2 v2 HO2.out HG2.out) HLN.out HLL.out HTN.out, by simp [sel6, lxM, intOf] <;> omega⟩
  case p4 =>
    rintro on5 a' wr ⟨k, n0, kd, sp, t, v, ts, u, rfl, hb, hl, hts, hk, hbl, hP⟩
    have ON : Hid (∀ n a w', LxJ5 s G R w a w' → _) := on5
    clear on5
    unfold lexT
    have HTA : Hid (TokAt s k (txtR ((sInts s).drop k)) 173) := isText hP
    have hsl := sl_lo s k (by omega)
    have HC := HTX.out k wr hk
    have HLX : Hid (LexAt s ts k R ∧ ts.length ≤ k ∧ blankB (byteAt s k) = false) := ⟨hl, hts, hbl⟩
    have HBX : Hid (LxB w wr G v ts kd sp t) := hb
    generalize txtR ((sInts s).drop k) = X at HTA HC
    clear hb hl hts hbl hP
    obtain ⟨kd2, t2, sp2, n⟩ := X
    have HTA2 : Hid (tokR ((sInts s).drop k) = ((kd2, t2, sp2, n), 173)) := HTA.out
    have HTN : Hid (k + n ≤ s.size) := HTL.out k _ _ hk HTA.out
    have hns : n ≤ 4096 := by have := HTN.out; omega
    go_wp2_with fail
    refine HC.mono ?_
    rintro e w1 ⟨rfl, hg1⟩
    have HB1 : Hid (LxB w w1 G v ts kd sp t) := HBX.out.grown hg1
    have HB2 : Hid (LxB w (put4 w1 G (.int .i64 kd2) (.int .i64 0) (.string t2) (.int .i64 sp2)) G v ts kd2 sp2 t2) := HB1.out.put kd2 0 sp2 t2
    obtain ⟨x, hx⟩ := HB1.out.row
    obtain ⟨r0, r1, r2, r3⟩ := cell4 hx
    have f0 := free_row hx 0
    have f1 := free_row hx 1
    have f2 := free_row hx 2
    have f3 := free_row hx 3
    clear hg1 hx HTA HB1
    by_cases hn : n = 0
    · have q1 : ((n : Int) == 0) = true := by simp; omega
      subst hn
      have HE : Hid (R = .bad k 173) := by
        have h := HLX.out.1.bad hk HLX.out.2.2 (by rw [HTA2.out])
        rw [HTA2.out] at h
        exact h
      go_wp2_with fail
      simp only [onto, jumps]
      refine bodyPost_ret (v := .tuple #[.slice none 0 0, .int .i64 (k : Int), .int .i64 173]) (by simp [results, Try.results9, go_sem]) rfl ?_
      exact lx_bad HE.out HB2.out.gb
    · have q1 : ((n : Int) == 0) = false := by simp; omega
      have q2 : (n == 0) = false := by simpa using hn
      go_wp2_with fail
      go_step3
      refine ‹∀ (a : Act) (w : World), Code.wp Try.prog _ _ a w → _› _ _ (ON.out _ _ _ (lxJ5 k n kd2 sp2 _ t2 v ts rfl HB2.out HLX.out.1 HLX.out.2.1 hk HLX.out.2.2 hn HTA2.out) ?_)
      simp [lxM, intOf] <;> omega
  case p3 =>
    rintro on4 a' wr ⟨k, n0, kd, sp, t, v, ts, u, rfl, hb, hl, hts, hk, hbl, hP⟩
    clear on4
    unfold lexT
    have HTA : Hid (TokAt s k (wordR ((sInts s).drop k)) 0) := isWord hP
    have hsl := sl_lo s k (by omega)
    have HC := HWD.out k wr hk hP.2
    have HLX : Hid (LexAt s ts k R ∧ ts.length ≤ k ∧ blankB (byteAt s k) = false) := ⟨hl, hts, hbl⟩
    have HBX : Hid (LxB w wr G v ts kd sp t) := hb
    have hn0 : (wordR ((sInts s).drop k)).2.2.2 ≠ 0 := word_pos _ (by rw [drop_head0]; exact hP.2)
    generalize wordR ((sInts s).drop k) = X at HTA HC hn0
    clear hb hl hts hbl hP
    obtain ⟨kd2, t2, sp2, n⟩ := X
    have HTA2 : Hid (tokR ((sInts s).drop k) = ((kd2, t2, sp2, n), 0)) := HTA.out
    have HTN : Hid (k + n ≤ s.size) := HTL.out k _ _ hk HTA.out
    have hns : n ≤ 4096 := by have := HTN.out; omega
    go_wp2_with fail
    refine HC.mono ?_
    rintro e w1 ⟨rfl, hg1⟩
    have HB1 : Hid (LxB w w1 G v ts kd sp t) := HBX.out.grown hg1
    have HB2 : Hid (LxB w (put4 w1 G (.int .i64 kd2) (.int .i64 0) (.string t2) (.int .i64 sp2)) G v ts kd2 sp2 t2) := HB1.out.put kd2 0 sp2 t2
    obtain ⟨x, hx⟩ := HB1.out.row
    obtain ⟨r0, r1, r2, r3⟩ := cell4 hx
    have f0 := free_row hx 0
    have f1 := free_row hx 1
    have f2 := free_row hx 2
    have f3 := free_row hx 3
    clear hg1 hx HTA HB1
    have hn : n ≠ 0 := hn0
    clear hn0
    go_wp2_with fail
    go_step3
    exact ⟨lxJ5 k n kd2 sp2 _ t2 v ts rfl HB2.out HLX.out.1 HLX.out.2.1 hk HLX.out.2.2 hn HTA2.out, by simp [sel6, lxM, intOf] <;> omega⟩
  case p2 =>
    rintro on3 a' wr ⟨k, n0, kd, sp, t, v, ts, u, rfl, hb, hl, hts, hk, hbl, hP⟩
    clear on3
    unfold lexT
    have HTA : Hid (TokAt s k (numR ((sInts s).drop k)) 172) := isNum hP
    have hsl := sl_lo s k (by omega)
    have HC := HNM.out k wr hk hP
    have HLX : Hid (LexAt s ts k R ∧ ts.length ≤ k ∧ blankB (byteAt s k) = false) := ⟨hl, hts, hbl⟩
    have HBX : Hid (LxB w wr G v ts kd sp t) := hb
    generalize numR ((sInts s).drop k) = X at HTA HC
    clear hb hl hts hbl hP
    obtain ⟨kd2, t2, sp2, n⟩ := X
    have HTA2 : Hid (tokR ((sInts s).drop k) = ((kd2, t2, sp2, n), 172)) := HTA.out
    have HTN : Hid (k + n ≤ s.size) := HTL.out k _ _ hk HTA.out
    have hns : n ≤ 4096 := by have := HTN.out; omega
    go_wp2_with fail
    refine HC.mono ?_
    rintro e w1 ⟨rfl, hg1⟩
    have HB1 : Hid (LxB w w1 G v ts kd sp t) := HBX.out.grown hg1
    have HB2 : Hid (LxB w (put4 w1 G (.int .i64 kd2) (.int .i64 0) (.string t2) (.int .i64 sp2)) G v ts kd2 sp2 t2) := HB1.out.put kd2 0 sp2 t2
    obtain ⟨x, hx⟩ := HB1.out.row
    obtain ⟨r0, r1, r2, r3⟩ := cell4 hx
    have f0 := free_row hx 0
    have f1 := free_row hx 1
    have f2 := free_row hx 2
    have f3 := free_row hx 3
    clear hg1 hx HTA HB1
    by_cases hn : n = 0
    · have q1 : ((n : Int) == 0) = true := by simp; omega
      subst hn
      have HE : Hid (R = .bad k 172) := by
        have h := HLX.out.1.bad hk HLX.out.2.2 (by rw [HTA2.out])
        rw [HTA2.out] at h
        exact h
      go_wp2_with fail
      simp only [onto, jumps]
      refine bodyPost_ret (v := .tuple #[.slice none 0 0, .int .i64 (k : Int), .int .i64 172]) (by simp [results, Try.results9, go_sem]) rfl ?_
      exact lx_bad HE.out HB2.out.gb
    · have q1 : ((n : Int) == 0) = false := by simp; omega
      have q2 : (n == 0) = false := by simpa using hn
      go_wp2_with fail
      go_step3
      exact ⟨lxJ5 k n kd2 sp2 _ t2 v ts rfl HB2.out HLX.out.1 HLX.out.2.1 hk HLX.out.2.2 hn HTA2.out, by simp [sel6, lxM, intOf] <;> omega⟩
  case p1 =>
    rintro on2 a' wr ⟨k, n0, kd, sp, t, v, ts, u, rfl, hb, hl, hts, hk⟩
    have ON : Hid (∀ n a w', LxJX (fun c => digB c = true) s G R w a w' → _) := on2
    clear on2
    unfold lexT
    have HBX : Hid (LxB w wr G v ts kd sp t) := hb
    have HLX : Hid (LexAt s ts k R ∧ ts.length ≤ k) := ⟨hl, hts⟩
    clear hb hl hts
    by_cases he : k = s.size
    · have q1 : ((k : Int) == (s.size : Int)) = true := by simp; omega
      have HE : Hid (k = s.size) := he
      clear he
      go_wp2_with fail
      go_step3
      exact ⟨lxJ0 k n0 kd sp t v ts rfl HBX.out HLX.out.1 HLX.out.2 HE.out, by simp [sel6, lxM, intOf] <;> omega⟩
    have hlt : k < s.size := by omega
    have q1 : ((k : Int) == (s.size : Int)) = false := by simp; omega
    have hidx := idx9 s k hlt
    have HBL := fun w => f_blank (byteAt s k) _ w rfl
    have HDG := fun w => f_digit (byteAt s k) _ w rfl
    have HWB := f_wordByte (byteAt s k)
    rw [wb_run] at HWB
    have hsl := sl_lo s k hk
    have HLB : Hid (blankB (byteAt s k) = true → LexAt s ts (k + 1) R) := fun h => HLX.out.1.blank hlt h
    have HCS := HSG.out k wr hlt
    clear he
    obtain ⟨b1, hb1⟩ : ∃ b, blankB (byteAt s k) = b := ⟨_, rfl⟩
    obtain ⟨b2, hb2⟩ : ∃ b, digB (byteAt s k) = b := ⟨_, rfl⟩
    obtain ⟨b3, hb3⟩ : ∃ b, runB 58 (byteAt s k) = b := ⟨_, rfl⟩
    have HBB : Hid (blankB (byteAt s k) = b1 ∧ digB (byteAt s k) = b2 ∧ runB 58 (byteAt s k) = b3) := ⟨hb1, hb2, hb3⟩
    have H34 : Hid (∀ c, c = byteAt s k → byteAt s k = c) := fun c h => h.symm
    rw [hb1] at HBL
    rw [hb2] at HDG
    rw [hb3] at HWB
    have HIS : Hid (digB (byteAt s k) = false ∧ runB 58 (byteAt s k) = false ∧ byteAt s k ≠ 34 → TokAt s k (sgnR ((sInts s).drop k)) 171) := fun h => isSign h
    clear hb1 hb2 hb3
    obtain ⟨c, hc⟩ : ∃ c, byteAt s k = c := ⟨_, rfl⟩
    have HC : Hid (byteAt s k = c) := hc
    rw [hc] at hidx HBL HDG HWB
    clear hc
    cases b1 with
    | true =>
      have HN := hid (HLB.out HBB.out.1)
      clear HLB
      go_wp2_with (first | (go_at_call 21; refine (HBL _).mono ?_; rintro e w1 ⟨rfl, rfl⟩) | (go_at_call 22; refine (HDG _).mono ?_; rintro e w1 ⟨rfl, rfl⟩) | (go_at_call 23; refine (HWB _).mono ?_; rintro e w1 ⟨rfl, rfl⟩))
      go_step3
      exact ⟨lxJ1 (k + 1) n0 kd sp t v ts rfl HBX.out HN.out (by have := HLX.out.2; omega) (by omega), by simp [sel6, lxM, intOf] <;> omega⟩
    | false =>
    cases b2 with
    | true =>
      clear HLB
      go_wp2_with (first | (go_at_call 21; refine (HBL _).mono ?_; rintro e w1 ⟨rfl, rfl⟩) | (go_at_call 22; refine (HDG _).mono ?_; rintro e w1 ⟨rfl, rfl⟩) | (go_at_call 23; refine (HWB _).mono ?_; rintro e w1 ⟨rfl, rfl⟩))
      go_step3
      exact ⟨lxJX (P := fun c => digB c = true) k n0 kd sp t v ts rfl HBX.out HLX.out.1 HLX.out.2 hlt HBB.out.1 HBB.out.2.1, by simp [sel6, lxM, intOf] <;> omega⟩
    | false =>
    cases b3 with
    | true =>
      clear HLB
      go_wp2_with (first | (go_at_call 21; refine (HBL _).mono ?_; rintro e w1 ⟨rfl, rfl⟩) | (go_at_call 22; refine (HDG _).mono ?_; rintro e w1 ⟨rfl, rfl⟩) | (go_at_call 23; refine (HWB _).mono ?_; rintro e w1 ⟨rfl, rfl⟩))
      go_step3
      exact ⟨lxJX (P := fun c => digB c = false ∧ runB 58 c = true) k n0 kd sp t v ts rfl HBX.out HLX.out.1 HLX.out.2 hlt HBB.out.1 ⟨HBB.out.2.1, HBB.out.2.2⟩, by simp [sel6, lxM, intOf] <;> omega⟩
    | false =>
    by_cases h34 : c = 34
    · have H3 : Hid (byteAt s k = 34) := by show _ = _; rw [HC.out, h34]
      clear HLB HIS
      subst h34
      go_wp2_with (first | (go_at_call 21; refine (HBL _).mono ?_; rintro e w1 ⟨rfl, rfl⟩) | (go_at_call 22; refine (HDG _).mono ?_; rintro e w1 ⟨rfl, rfl⟩) | (go_at_call 23; refine (HWB _).mono ?_; rintro e w1 ⟨rfl, rfl⟩))
      go_step3
      exact ⟨lxJX (P := fun c => c = 34) k n0 kd sp t v ts rfl HBX.out HLX.out.1 HLX.out.2 hlt HBB.out.1 H3.out, by simp [sel6, lxM, intOf] <;> omega⟩
    · have q2 : (c == 34) = false := by simpa using h34
      have HTA := hid (HIS.out ⟨HBB.out.2.1, HBB.out.2.2, by rw [HC.out]; exact h34⟩)
      clear HLB HIS h34 H34
      generalize sgnR ((sInts s).drop k) = X at HTA HCS
      obtain ⟨kd2, t2, sp2, n⟩ := X
      have HTA2 : Hid (tokR ((sInts s).drop k) = ((kd2, t2, sp2, n), 171)) := HTA.out
      have HTN : Hid (k + n ≤ s.size) := HTL.out k _ _ hlt HTA.out
      have hns : n ≤ 4096 := by have := HTN.out; omega
      have hk2 := hlt
      go_wp2_with (first | (go_at_call 21; refine (HBL _).mono ?_; rintro e w1 ⟨rfl, rfl⟩) | (go_at_call 22; refine (HDG _).mono ?_; rintro e w1 ⟨rfl, rfl⟩) | (go_at_call 23; refine (HWB _).mono ?_; rintro e w1 ⟨rfl, rfl⟩) | fail)
      refine HCS.mono ?_
      rintro e w1 ⟨rfl, hg1⟩
      have HB1 : Hid (LxB w w1 G v ts kd sp t) := HBX.out.grown hg1
      have HB2 : Hid (LxB w (put4 w1 G (.int .i64 kd2) (.int .i64 0) (.string t2) (.int .i64 sp2)) G v ts kd2 sp2 t2) := HB1.out.put kd2 0 sp2 t2
      obtain ⟨x, hx⟩ := HB1.out.row
      obtain ⟨r0, r1, r2, r3⟩ := cell4 hx
      have f0 := free_row hx 0
      have f1 := free_row hx 1
      have f2 := free_row hx 2
      have f3 := free_row hx 3
      clear hg1 hx HTA HB1 hidx HBL HDG HWB hsl
      by_cases hn : n = 0
      · have q1 : ((n : Int) == 0) = true := by simp; omega
        subst hn
        have HE : Hid (R = .bad k 171) := by
          have h := HLX.out.1.bad hlt HBB.out.1 (by rw [HTA2.out])
          rw [HTA2.out] at h
          exact h
        go_wp2_with fail
        simp only [onto, jumps]
        refine bodyPost_ret (v := .tuple #[.slice none 0 0, .int .i64 (k : Int), .int .i64 171]) (by simp [results, Try.results9, go_sem]) rfl ?_
        exact lx_bad HE.out HB2.out.gb
      · have q1 : ((n : Int) == 0) = false := by simp; omega
        have q2 : (n == 0) = false := by simpa using hn
        go_wp2_with fail
        go_step3
        exact ⟨lxJ5 k n kd2 sp2 _ t2 v ts rfl HB2.out HLX.out.1 HLX.out.2 hlt HBB.out.1 hn HTA2.out, by simp [sel6, lxM, intOf] <;> omega⟩
  case first =>
    intro go_on
    have GO : Hid (∀ a' w', LxJ1 s G R w a' w' → _) := go_on
    clear go_on
    go_wp2
    rw [HW.out, HG.out]
    go_step3
    refine ‹∀ (a : Act) (w : World), Code.wp Try.prog _ _ a w → _› _ _ (GO.out _ _ ?_)
    exact lxJ1 0 0 0 0 ⟨#[]⟩ _ [] rfl ⟨⟨0, HB.out.row⟩, HB.out.gb, HB.out.le, SOwn.nil 52 _ _⟩ H0.out (Nat.le_refl _) (Nat.zero_le _)
end Go.Proofs.Ytnimdngiejcljaa

/- Lex of any text; awake. -/
namespace Go.Proofs.Ytnimdngiejcljaa
open Go.RowKit
set_option linter.unusedVariables false
set_option maxRecDepth 20000

theorem f_lex (s : ByteArray) (w : World) : Calls Try.prog 9 #[.string s] w fun e w' => LxOut (lexR s) w e w' := by
  unfold lexR
  by_cases h : 4096 < s.size
  · rw [if_pos h]
    have q0 : decide ((4096 : Int) < (s.size : Int)) = true := by simp; omega
    have q1 : (4096 : Int) < (s.size : Int) := by omega
    have HG : Hid (w.grownBy (w.alloc (.cells #[.int .i64 0, .int .i64 0, .string ⟨#[]⟩, .int .i64 0] 52)) none) := World.grownBy_alloc w _ none
    clear h
    go_enter Try.func9, Try.ntmps9
    go_wp2_with fail
    refine wp_scope_straight ?_
    go_wp2
    simp +zetaDelta only [Exit.noGoto_ret]
    refine bodyPost_ret (v := .tuple #[.slice none 0 0, .int .i64 0, .int .i64 170]) (by simp [results, Try.results9, go_sem]) rfl ?_
    exact ⟨rfl, HG.out⟩
  · rw [if_neg h]
    exact f_lexR s _ w (by omega) rfl
def lexF : Nat → Nat → List Int → Lx
  | 0, at_, _ => .bad at_ 0
  | f + 1, at_, [] => .ok [(0, (at_ : Int), ⟨#[]⟩, 0)]
  | f + 1, at_, c :: r =>
    if blankB c = true then lexF f (at_ + 1) r
    else if (tokR (c :: r)).1.2.2.2 = 0 then .bad at_ (tokR (c :: r)).2
    else .cons ((tokR (c :: r)).1.1, (at_ : Int), (tokR (c :: r)).1.2.1, (tokR (c :: r)).1.2.2.1) (lexF f (at_ + (tokR (c :: r)).1.2.2.2) (r.drop ((tokR (c :: r)).1.2.2.2 - 1)))
theorem lexF_eq : ∀ (f at_ : Nat) (l : List Int), l.length < f → lexL at_ l = lexF f at_ l := by
  intro f
  induction f with
  | zero => intro at_ l h; omega
  | succ f ih =>
    intro at_ l h
    match l with
    | [] => rw [lexL, lexF]
    | c :: r =>
      simp only [List.length_cons] at h
      rw [lexL, lexF, ih _ r (by omega), ih _ (r.drop _) (by rw [List.length_drop]; omega)]
theorem lex_lit (s : ByteArray) (l : List Int) (R : Lx) (hl : sInts s = l) (hs : l.length ≤ 50) (h : lexF 51 0 l = R) : lexR s = R := by
  unfold lexR
  rw [if_neg (by rw [← sInts_len, hl]; omega), hl, lexF_eq 51 0 l (by omega), h]
theorem tok_cells {w : World} {b off i : Nat} {ts : List Tok} {q : Tok} (h : SRd tokE w (some ⟨b, off, none⟩) ts) (hq : ts[i]? = some q) :
    w.cell? ⟨b, off + i * 4, none⟩ = some (.int .i64 q.1) ∧ w.cell? ⟨b, off + i * 4 + 1, none⟩ = some (.int .i64 q.2.1) ∧ w.cell? ⟨b, off + i * 4 + 2, none⟩ = some (.string q.2.2.1) ∧ w.cell? ⟨b, off + i * 4 + 3, none⟩ = some (.int .i64 q.2.2.2) := by
  obtain ⟨b', off', e, hc⟩ := h.at (by have := (List.getElem?_eq_some_iff.1 hq).1; omega)
  cases e
  refine ⟨hc i q 0 _ hq rfl, ?_, ?_, ?_⟩
  · rw [Nat.add_assoc]; exact hc i q 1 _ hq rfl
  · rw [Nat.add_assoc]; exact hc i q 2 _ hq rfl
  · rw [Nat.add_assoc]; exact hc i q 3 _ hq rfl
theorem lx_slice {w w' : World} {e : Ending} {ts : List Tok} (h : LxOut (.ok ts) w e w') (hn : ts ≠ []) : ∃ g c, e = .returned (.tuple #[.slice (some ⟨g, 0, none⟩) ts.length c, .int .i64 0, .int .i64 0]) ∧ SOwn tokE 52 w' w.heap.size (.slice (some ⟨g, 0, none⟩) ts.length c) ts.length ts ∧ w.grownBy w' none := by
  obtain ⟨a, c, he, ho, hg⟩ := h
  obtain ⟨g, c2, e2, _⟩ := SOwn.some ho (fun e2 => by
    simp only [Value.slice.injEq] at e2
    exact hn (List.eq_nil_of_length_eq_zero e2.2.1))
  simp only [Value.slice.injEq] at e2
  obtain ⟨rfl, _, rfl⟩ := e2
  exact ⟨g, c, he, ho, hg⟩
end Go.Proofs.Ytnimdngiejcljaa

/- Package parse: here. -/
namespace Go.Proofs.Ytnimdngiejcljaa
open Go.RowKit
set_option linter.unusedVariables false
set_option linter.unusedSimpArgs false
set_option maxRecDepth 20000

def tkV (q : Tok) : Value := .agg #[.int .i64 q.1, .int .i64 q.2.1, .string q.2.2.1, .int .i64 q.2.2.2]
theorem f_here {w : World} {b p : Nat} {K : Tk} {k : Nat} {op : Int} {v : Value} {L : List Row} {ts : List Tok} (h : RdAt w b p K k op v L) (ha : Ahead K k ts) :
    Calls Try.prog 38 #[.pointer (some ⟨p, 0, none⟩)] w fun e w' => e = .returned (tkV (hd ts)) ∧ w.grownBy w' none := by
  have HG := hid (World.grownBy_alloc w (.cells #[.int .i64 0, .int .i64 0, .string ⟨#[]⟩, .int .i64 0] 52) none)
  have HB : Hid ((w.alloc (.cells #[.int .i64 0, .int .i64 0, .string ⟨#[]⟩, .int .i64 0] 52)).heap[w.heap.size]? = some (.cells #[.int .i64 0, .int .i64 0, .string ⟨#[]⟩, .int .i64 0] 52 (0, 0))) := heap_alloc_new w _
  have h1 := h.grown HG.out
  obtain ⟨c0, c1, c2, c3⟩ := h1.cells
  obtain ⟨r0, r1, r2, r3⟩ := tok_cells h1.tok ha.get
  have hk : (k : Int) < (K.T.length : Int) := by have := ha.lt; omega
  have hs := ha.small
  unfold tkV
  generalize hd ts = q at r0 r1 r2 r3 ⊢
  obtain ⟨kd, a, t, sp⟩ := q
  simp only [Nat.zero_add] at r0 r1 r2 r3
  have hp : p ≠ w.heap.size := by have := h.lt; omega
  have hfree := free_row HB.out
  have hf0 := hfree 0
  have hf1 := hfree 1
  have hf2 := hfree 2
  have hf3 := hfree 3
  obtain ⟨z0, z1, z2, z3⟩ := cell4 HB.out
  clear h h1 ha c2 c3 hfree
  go_enter Try.func38, Try.ntmps38
  go_wp2
  go_region
  go_wp2
  refine bodyPost_ret (v := .agg #[.int .i64 kd, .int .i64 a, .string t, .int .i64 sp]) (results_cell_row Try.results38 _ _ w.heap.size 52 _ (0, 0) _ rfl (heap_alloc_new w _) Try.underlying52 rfl isz32) rfl ?_
  exact ⟨rfl, gb_drew (World.grownBy_alloc w _ none)⟩
theorem fld0 (x y z u : Value) (w : World) : (Instr.field 52 (.agg #[x, y, z, u]) 0).run Try.prog w = .ok x w := by kernel_rfl
theorem fld1 (x y z u : Value) (w : World) : (Instr.field 52 (.agg #[x, y, z, u]) 1).run Try.prog w = .ok y w := by kernel_rfl
theorem fld2 (x y z u : Value) (w : World) : (Instr.field 52 (.agg #[x, y, z, u]) 2).run Try.prog w = .ok z w := by kernel_rfl
theorem fld3 (x y z u : Value) (w : World) : (Instr.field 52 (.agg #[x, y, z, u]) 3).run Try.prog w = .ok u w := by kernel_rfl
theorem f_mean (q : Tok) (w : World) : Calls Try.prog 63 #[tkV q] w fun e w' => e = .returned (.bool (meanB q)) ∧ w.grownBy w' none := by
  obtain ⟨kd, a, t, sp⟩ := q
  have HG := hid (World.grownBy_alloc w (.cells #[.int .i64 kd, .int .i64 a, .string t, .int .i64 sp] 52) none)
  unfold tkV meanB
  by_cases h3 : kd = 3
  · have q0 : (kd == 3) = true := by simpa using h3
    have Q0 : Hid (decide (kd = 3) = true) := by show _ = _; simpa using h3
    clear h3
    go_enter Try.func63, Try.ntmps63
    go_wp2
    go_ret
    refine ⟨ret_bool ?_, HG.out⟩
    have := Q0.out
    simp only [this, Bool.true_or]
  · have q0 : (kd == 3) = false := by simpa using h3
    have Q0 : Hid (decide (kd = 3) = false) := by show _ = _; simpa using h3
    have Q1 : Hid ((kd == 5) = decide (kd = 5)) := by show _ = _; rw [Bool.eq_iff_iff]; simp
    clear h3
    go_enter Try.func63, Try.ntmps63
    go_wp2
    go_ret
    refine ⟨ret_bool ?_, HG.out⟩
    have h1 := Q0.out
    have h2 := Q1.out
    simp only [h1, h2, Bool.false_or]
theorem f_is {w : World} {b p : Nat} {K : Tk} {k : Nat} {op : Int} {v : Value} {L : List Row} {ts : List Tok} (h : RdAt w b p K k op v L) (ha : Ahead K k ts) (s : ByteArray) :
    Calls Try.prog 57 #[.pointer (some ⟨p, 0, none⟩), .string s] w fun e w' => e = .returned (.bool (isB s ts)) ∧ w.grownBy w' none := by
  have H := hid h
  have HA := hid ha
  have E := hid (str_eq (hd ts).2.2.1 s)
  cases hm : meanB (hd ts) with
  | true =>
    have HM := hid hm
    have f2 := fld2 (.int .i64 (hd ts).1) (.int .i64 (hd ts).2.1) (.string (hd ts).2.2.1) (.int .i64 (hd ts).2.2.2)
    clear h ha hm
    go_enter Try.func57, Try.ntmps57
    go_wp2_with fail
    refine (f_here H.out HA.out).mono ?_
    rintro e w1 ⟨rfl, g1⟩
    have G1 := hid g1
    clear g1
    go_wp2_with fail
    refine (f_mean _ _).mono ?_
    rintro e w2 ⟨rfl, g2⟩
    rw [HM.out]
    have G2 : Hid (w.grownBy w2 none) := G1.out.trans g2
    clear g2
    go_wp2_with fail
    refine (f_here (H.out.grown G2.out) HA.out).mono ?_
    rintro e w3 ⟨rfl, g3⟩
    have G3 : Hid (w.grownBy w3 none) := G2.out.trans g3
    clear g3
    unfold tkV
    go_wp2
    go_ret
    refine ⟨ret_bool ?_, G3.out⟩
    have := E.out
    simp only [isB, HM.out, Bool.true_and, this]
  | false =>
    have HM := hid hm
    clear h ha hm
    go_enter Try.func57, Try.ntmps57
    go_wp2_with fail
    refine (f_here H.out HA.out).mono ?_
    rintro e w1 ⟨rfl, g1⟩
    have G1 := hid g1
    clear g1
    go_wp2_with fail
    refine (f_mean _ _).mono ?_
    rintro e w2 ⟨rfl, g2⟩
    rw [HM.out]
    have G2 : Hid (w.grownBy w2 none) := G1.out.trans g2
    clear g2
    go_wp2
    go_ret
    refine ⟨ret_bool ?_, G2.out⟩
    simp only [isB, HM.out, Bool.false_and]
/-- throw: what is wrong, at the token that is here. -/
theorem f_throw {w : World} {b p : Nat} {K : Tk} {k : Nat} {op : Int} {v : Value} {L : List Row} {ts : List Tok} (h : RdAt w b p K k op v L) (ha : Ahead K k ts) (c : Int) :
    Calls Try.prog 46 #[.pointer (some ⟨p, 0, none⟩), .int .i64 c] w fun e w' => e = .panicked (flt (hd ts).2.1 c) ∧ w.grownBy w' none := by
  have H := hid h
  have HA := hid ha
  have f1 := fld1 (.int .i64 (hd ts).1) (.int .i64 (hd ts).2.1) (.string (hd ts).2.2.1) (.int .i64 (hd ts).2.2.2)
  clear h ha
  go_enter Try.func46, Try.ntmps46
  go_wp2_with fail
  refine (f_here H.out HA.out).mono ?_
  rintro e w1 ⟨rfl, g1⟩
  have G1 := hid g1
  clear g1
  unfold tkV
  go_wp2
  exact ⟨rfl, rfl, G1.out⟩
/-- What a call answers that reads nothing on: nothing, or what is wrong here. -/
def MustOut (x : Bool) (ts : List Tok) (w : World) (e : Ending) (w' : World) : Prop := ((x = true ∧ e = .returned (.tuple #[])) ∨ (x = false ∧ e = .panicked (flt (hd ts).2.1 (failC ts)))) ∧ w.grownBy w' none
theorem f_must {w : World} {b p : Nat} {K : Tk} {k : Nat} {op : Int} {v : Value} {L : List Row} {ts : List Tok} (h : RdAt w b p K k op v L) (ha : Ahead K k ts) (x : Bool) :
    Calls Try.prog 37 #[.pointer (some ⟨p, 0, none⟩), .bool x] w fun e w' => MustOut x ts w e w' := by
  have H := hid h
  have HA := hid ha
  cases x with
  | true =>
    clear h ha
    go_enter Try.func37, Try.ntmps37
    go_wp2
    go_end0
    exact ⟨.inl ⟨rfl, rfl⟩, World.grownBy.refl _ _⟩
  | false =>
    by_cases h0 : (hd ts).1 = 0
    · have q0 : ((hd ts).1 == 0) = true := by simpa using h0
      have HC : Hid (failC ts = 180) := by show _ = _; unfold failC; rw [if_pos h0]
      have f0 := fld0 (.int .i64 (hd ts).1) (.int .i64 (hd ts).2.1) (.string (hd ts).2.2.1) (.int .i64 (hd ts).2.2.2)
      clear h ha h0
      go_enter Try.func37, Try.ntmps37
      go_wp2_with fail
      refine (f_here H.out HA.out).mono ?_
      rintro e w1 ⟨rfl, g1⟩
      have G1 := hid g1
      clear g1
      unfold tkV
      go_wp2_with fail
      refine (f_throw (H.out.grown G1.out) HA.out 180).mono ?_
      rintro e w2 ⟨rfl, g2⟩
      have G2 : Hid (w.grownBy w2 none) := G1.out.trans g2
      clear g2
      go_wp2
      exact ⟨rfl, .inr ⟨rfl, by rw [HC.out]⟩, G2.out⟩
    · have q0 : ((hd ts).1 == 0) = false := by simpa using h0
      have HC : Hid (failC ts = 181) := by show _ = _; unfold failC; rw [if_neg h0]
      have f0 := fld0 (.int .i64 (hd ts).1) (.int .i64 (hd ts).2.1) (.string (hd ts).2.2.1) (.int .i64 (hd ts).2.2.2)
      clear h ha h0
      go_enter Try.func37, Try.ntmps37
      go_wp2_with fail
      refine (f_here H.out HA.out).mono ?_
      rintro e w1 ⟨rfl, g1⟩
      have G1 := hid g1
      clear g1
      unfold tkV
      go_wp2_with fail
      refine (f_throw (H.out.grown G1.out) HA.out 181).mono ?_
      rintro e w2 ⟨rfl, g2⟩
      have G2 : Hid (w.grownBy w2 none) := G1.out.trans g2
      clear g2
      go_wp2
      exact ⟨rfl, .inr ⟨rfl, by rw [HC.out]⟩, G2.out⟩
end Go.Proofs.Ytnimdngiejcljaa

/- Package parse: the number of a word. -/
namespace Go.Proofs.Ytnimdngiejcljaa
open Go.RowKit
set_option linter.unusedVariables false
set_option linter.unusedSimpArgs false
set_option maxRecDepth 20000

theorem str_cell {w : World} {b off i : Nat} {l : List ByteArray} {s : ByteArray} (h : SRd strE w (some ⟨b, off, none⟩) l) (hq : l[i]? = some s) : w.cell? ⟨b, off + i, none⟩ = some (.string s) := by
  obtain ⟨b', off', e, hc⟩ := h.at (by have := (List.getElem?_eq_some_iff.1 hq).1; omega)
  cases e
  have := hc i s 0 (.string s) hq rfl
  simpa [strE] using this
theorem find_lo (s : ByteArray) (l : List ByteArray) : -1 ≤ findB s l ∧ findB s l < l.length := by
  induction l with
  | nil => simp [findB]
  | cons x r ih =>
    unfold findB
    by_cases h : s = x
    · rw [if_pos h]; simp only [List.length_cons]; omega
    · rw [if_neg h]
      simp only [List.length_cons]
      split <;> omega
/-- The first place. -/
theorem find_at (s : ByteArray) : ∀ (l : List ByteArray) (k : Nat), k < l.length → (∀ j, j < k → l[j]? ≠ some s) → l[k]? = some s → findB s l = k := by
  intro l
  induction l with
  | nil => intro k hk; simp at hk
  | cons x r ih =>
    intro k hk hj he
    unfold findB
    cases k with
    | zero =>
      simp only [List.getElem?_cons_zero, Option.some.injEq] at he
      rw [if_pos he.symm]; rfl
    | succ k =>
      have h0 := hj 0 (by omega)
      simp only [List.getElem?_cons_zero, ne_eq, Option.some.injEq] at h0
      rw [if_neg (fun e => h0 e.symm)]
      have := ih k (by simpa using hk) (fun j h => by have := hj (j + 1) (by omega); simpa using this) (by simpa using he)
      rw [this, if_neg (by omega)]
      push_cast
      rfl
theorem find_none (s : ByteArray) : ∀ (l : List ByteArray), (∀ j, j < l.length → l[j]? ≠ some s) → findB s l = -1 := by
  intro l
  induction l with
  | nil => intro _; rfl
  | cons x r ih =>
    intro hj
    unfold findB
    have h0 := hj 0 (by simp)
    simp only [List.getElem?_cons_zero, ne_eq, Option.some.injEq] at h0
    rw [if_neg (fun e => h0 e.symm)]
    rw [ih (fun j h => by have := hj (j + 1) (by simp; omega); simpa using this), if_pos (by omega)]
/-- slices.Index, of texts. -/
theorem f_index (a : Option Addr) (c : Nat) (l : List ByteArray) (s : ByteArray) (w : World) (h : SRd strE w a l) (hl : l.length ≤ 1000) :
    Calls Try.prog 64 #[.slice a l.length c, .string s] w fun e w' => e = .returned (.int .i64 (findB s l)) ∧ w' = w := by
  have H := hid h
  have HF := hid (find_at s l)
  have HN := hid (find_none s l)
  clear h
  go_enter Try.func64, Try.ntmps64
  go_wp2
  go_loopw [8] (fun t8 wr => ∃ k : Nat, k ≤ l.length ∧ t8 = .int .i64 (k : Int) ∧ wr = w ∧ ∀ j, j < k → l[j]? ≠ some s) (fun t8 _ => l.length - (intOf t8).toNat)
  case atStart => exact ⟨0, Nat.zero_le _, rfl, rfl, by omega⟩
  case round =>
    obtain ⟨k, hk, rfl, rfl, hj⟩ := hrel
    have HJ := hid hj
    clear hj
    by_cases hlt : k < l.length
    · have hki : (k : Int) < (l.length : Int) := by omega
      obtain ⟨x, hx⟩ : ∃ x, l[k]? = some x := ⟨_, List.getElem?_eq_getElem hlt⟩
      obtain ⟨bb, oo, ea, _⟩ := H.out.at (by omega)
      have hc := str_cell (by rw [← ea]; exact H.out) hx
      have HX := hid hx
      subst ea
      clear hx
      by_cases he : s = x
      · have q0 : (s.toList == x.toList) = true := by rw [str_eq, decide_eq_true he]
        have HE : Hid (findB s l = (k : Int)) := HF.out k hlt HJ.out (by rw [HX.out, he])
        clear he
        go_wp2
        go_ret
        exact ⟨by rw [HE.out]; rfl, rfl⟩
      · have q0 : (s.toList == x.toList) = false := by rw [str_eq, decide_eq_false he]
        have HE : Hid (∀ j, j < k + 1 → l[j]? ≠ some s) := fun j hj e => by
          by_cases h : j = k
          · rw [h, HX.out] at e; exact he (Option.some.inj e).symm
          · exact HJ.out j (by omega) e
        clear he
        go_wp2
        go_roundw
        case rel => exact ⟨k + 1, by omega, by go_num, by first | rfl | trivial, HE.out⟩
        case measure => simp [intOf]; omega
    · have hki : ¬ (k : Int) < (l.length : Int) := by omega
      have HE : Hid (findB s l = -1) := HN.out fun j h => HJ.out j (by omega)
      go_wp2
      go_ret
      exact ⟨by rw [HE.out]; rfl, rfl⟩
theorem num_cell {w : World} {b off i : Nat} {l : List Int} {s : Int} (h : SRd numE w (some ⟨b, off, none⟩) l) (hq : l[i]? = some s) : w.cell? ⟨b, off + i, none⟩ = some (.int .i64 s) := by
  obtain ⟨b', off', e, hc⟩ := h.at (by have := (List.getElem?_eq_some_iff.1 hq).1; omega)
  cases e
  have := hc i s 0 (.int .i64 s) hq rfl
  simpa [numE] using this
/-- slices.Index, of numbers: below 0 just if it isn't there. -/
theorem f_indexI (a : Option Addr) (c : Nat) (l : List Int) (s : Int) (w : World) (h : SRd numE w a l) (hl : l.length ≤ 1000) :
    Calls Try.prog 65 #[.slice a l.length c, .int .i64 s] w fun e w' => ∃ r : Int, e = .returned (.int .i64 r) ∧ Hid (decide (0 ≤ r) = l.contains s) ∧ w' = w := by
  have H := hid h
  clear h
  go_enter Try.func65, Try.ntmps65
  go_wp2
  go_loopw [8] (fun t8 wr => ∃ k : Nat, k ≤ l.length ∧ t8 = .int .i64 (k : Int) ∧ wr = w ∧ ∀ j, j < k → l[j]? ≠ some s) (fun t8 _ => l.length - (intOf t8).toNat)
  case atStart => exact ⟨0, Nat.zero_le _, rfl, rfl, by omega⟩
  case round =>
    obtain ⟨k, hk, rfl, rfl, hj⟩ := hrel
    have HJ := hid hj
    clear hj
    by_cases hlt : k < l.length
    · have hki : (k : Int) < (l.length : Int) := by omega
      obtain ⟨x, hx⟩ : ∃ x, l[k]? = some x := ⟨_, List.getElem?_eq_getElem hlt⟩
      obtain ⟨bb, oo, ea, _⟩ := H.out.at (by omega)
      have hc := num_cell (by rw [← ea]; exact H.out) hx
      have HX := hid hx
      subst ea
      clear hx
      by_cases he : s = x
      · have q0 : (s == x) = true := by simpa using he
        have HE : Hid (l.contains s = true) := by
          show _ = _
          rw [List.contains_iff_mem, he]
          exact List.mem_of_getElem? HX.out
        clear he
        go_wp2
        go_ret
        exact ⟨k, rfl, by show _ = _; rw [HE.out]; simp, rfl⟩
      · have q0 : (s == x) = false := by simpa using he
        have HE : Hid (∀ j, j < k + 1 → l[j]? ≠ some s) := fun j hj e => by
          by_cases h : j = k
          · rw [h, HX.out] at e; exact he (Option.some.inj e).symm
          · exact HJ.out j (by omega) e
        clear he
        go_wp2
        go_roundw
        case rel => exact ⟨k + 1, by omega, by go_num, by first | rfl | trivial, HE.out⟩
        case measure => simp [intOf]; omega
    · have hki : ¬ (k : Int) < (l.length : Int) := by omega
      have HE : Hid (l.contains s = false) := by
        show _ = _
        rw [Bool.eq_false_iff, ne_eq, List.contains_iff_mem]
        intro hm
        obtain ⟨j, hj⟩ := List.mem_iff_getElem?.1 hm
        exact HJ.out j (by have := (List.getElem?_eq_some_iff.1 hj).1; omega) hj
      go_wp2
      go_ret
      exact ⟨-1, rfl, by show (_ ↔ _); rw [← List.contains_iff_mem, HE.out]; decide, rfl⟩
theorem f_contains (a : Option Addr) (c : Nat) (l : List Int) (s : Int) (w : World) (h : SRd numE w a l) (hl : l.length ≤ 1000) :
    Calls Try.prog 56 #[.slice a l.length c, .int .i64 s] w fun e w' => e = .returned (.bool (l.contains s)) ∧ w' = w := by
  have H := hid h
  clear h
  go_enter Try.func56, Try.ntmps56
  go_wp2_with fail
  refine (f_indexI a c l s w H.out hl).mono ?_
  rintro e w1 ⟨r, rfl, hr, rfl⟩
  have HR : Hid (decide (0 ≤ r) = l.contains s) := hr
  clear hr
  go_wp2
  go_ret
  exact ⟨by rw [← HR.out]; rfl, rfl⟩
/-- numberIn. -/
theorem f_numIn (a : Option Addr) (c : Nat) (l : List ByteArray) (q : Tok) (w : World) (h : SRd strE w a l) (hl : l.length ≤ 1000) :
    Calls Try.prog 55 #[.slice a l.length c, tkV q] w fun e w' => e = .returned (.int .i64 (numIn l q)) ∧ w.grownBy w' none := by
  obtain ⟨kd, at_, t, sp⟩ := q
  have HG := hid (World.grownBy_alloc w (.cells #[.int .i64 kd, .int .i64 at_, .string t, .int .i64 sp] 52) none)
  obtain ⟨z0, z1, z2, z3⟩ := cell4 (heap_alloc_new w (.cells #[.int .i64 kd, .int .i64 at_, .string t, .int .i64 sp] 52))
  have H := hid h
  have HM := hid (f_mean (kd, at_, t, sp))
  clear h
  unfold numIn
  unfold tkV at *
  cases hm : meanB (kd, at_, t, sp) with
  | true =>
    have Hm := hid hm
    clear hm
    go_enter Try.func55, Try.ntmps55
    go_wp2_with fail
    refine (HM.out _).mono ?_
    rintro e w1 ⟨rfl, g1⟩
    have G1 : Hid (w.grownBy w1 none) := HG.out.trans g1
    have hc2 := g1.cell z2 (by simp)
    rw [Hm.out]
    clear g1 HM
    go_wp2_with fail
    refine (f_index a c l t w1 (H.out.grown G1.out (by simp)) hl).mono ?_
    rintro e w2 ⟨rfl, rfl⟩
    have hb := find_lo t l
    go_wp2
    all_goals (go_ret; exact ⟨ret_int (by omega), G1.out⟩)
  | false =>
    have Hm := hid hm
    clear hm
    go_enter Try.func55, Try.ntmps55
    go_wp2_with fail
    refine (HM.out _).mono ?_
    rintro e w1 ⟨rfl, g1⟩
    have G1 : Hid (w.grownBy w1 none) := HG.out.trans g1
    rw [Hm.out]
    clear g1 HM
    go_wp2
    go_ret
    exact ⟨rfl, G1.out⟩
end Go.Proofs.Ytnimdngiejcljaa

