/- text: the walk. -/
import Derived.Test.YtkocdmkojoefoaaTx
namespace Go.Proofs.Ytkocdmkojoefoaa
open Go.RowKit
set_option linter.unusedVariables false
set_option maxRecDepth 20000

/-- The gathered bytes beside the box. -/
structure TxW (w W : World) (g : Nat) (v : Value) (out : List Int) : Prop where
  box : Bx w W g
  own : SOwn byteE 5 W (g + 1) v out.length out
theorem TxW.app {w W W1 W2 : World} {g : Nat} {v v2 : Value} {out : List Int} {c : Int} (h : TxW w W g v out) (hg : W.grownBy W1 none) (ho : SOwn byteE 5 W2 (g + 1) v2 (out.length + 1) (out ++ [c])) (hg2 : W1.grownBy W2 v.ownBlock) : TxW w W2 g v2 (out ++ [c]) := by
  refine ⟨(h.box.grown hg (by simp)).grown hg2 (fun k hk => ?_), by rw [List.length_append]; exact ho⟩
  have h1 := (SOwn.block h.own k hk).1
  have h2 := h.box.le
  omega
theorem TxW.kept {w W W' : World} {g : Nat} {v : Value} {out : List Int} (h : TxW w W g v out) (hg : W.grownBy W' none) : TxW w W' g v out := ⟨h.box.grown hg (by simp), SOwn.kept h.own hg (Classical.em _)⟩
def txT (s : ByteArray) (g : Nat) (v : Value) (k : Nat) (u : Nat → Value) : Array Value := #[.string s, undef, .pointer (some ⟨g, 0, none⟩), .int .i64 0, v, .int .i64 (k : Int), u 6, u 7, u 8, u 9, u 10, u 11, u 12, u 13, u 14, u 15, u 16, u 17, u 18, u 19, u 20, u 21, u 22, u 23, u 24, u 25, u 26, u 27, u 28, u 29, u 30, u 31, u 32, u 33, u 34, u 35, u 36, u 37, u 38, u 39, u 40, u 41, u 42, u 43, u 44, u 45, u 46, u 47, u 48, u 49, u 50, u 51, u 52, u 53]
def TxJ0 (s : ByteArray) (g : Nat) (w : World) (a' : Act) (w' : World) : Prop := ∃ (k : Nat) (v : Value) (out : List Int) (u : Nat → Value), a' = { tmps := txT s g v k u, defers := [] } ∧ TxW w w' g v out ∧ k < s.size ∧ textR ((sInts s).drop 1) = (out, k) ∧ 1 ≤ k ∧ ∀ z ∈ out, 0 ≤ z ∧ z ≤ 255
def TxJ1 (s : ByteArray) (g : Nat) (w : World) (a' : Act) (w' : World) : Prop := ∃ (k : Nat) (v : Value) (out : List Int) (u : Nat → Value), a' = { tmps := txT s g v k u, defers := [] } ∧ TxW w w' g v out ∧ k < s.size ∧ TxAt (sInts s) k out ∧ byteAt s k = 92
def TxJ2 (s : ByteArray) (g : Nat) (w : World) (a' : Act) (w' : World) : Prop := ∃ (k : Nat) (v : Value) (u : Nat → Value), a' = { tmps := txT s g v k u, defers := [] } ∧ Bx w w' g ∧ (textR ((sInts s).drop 1)).2 = 0
def TxJ3 (s : ByteArray) (g : Nat) (w : World) (a' : Act) (w' : World) : Prop := ∃ (k : Nat) (v : Value) (out : List Int) (u : Nat → Value), a' = { tmps := txT s g v k u, defers := [] } ∧ TxW w w' g v out ∧ k ≤ s.size ∧ TxAt (sInts s) k out
section
variable {s : ByteArray} {g : Nat} {w : World} {a' : Act} {w' : World}
theorem txJ0 (k : Nat) (v : Value) (out : List Int) (h : a' = { tmps := txT s g v k (upon a'), defers := [] }) (h1 : TxW w w' g v out) (h2 : k < s.size) (h3 : textR ((sInts s).drop 1) = (out, k)) (h4 : 1 ≤ k) (h5 : ∀ z ∈ out, 0 ≤ z ∧ z ≤ 255) : TxJ0 s g w a' w' := ⟨k, v, out, _, h, h1, h2, h3, h4, h5⟩
theorem txJ1 (k : Nat) (v : Value) (out : List Int) (h : a' = { tmps := txT s g v k (upon a'), defers := [] }) (h1 : TxW w w' g v out) (h2 : k < s.size) (h3 : TxAt (sInts s) k out) (h4 : byteAt s k = 92) : TxJ1 s g w a' w' := ⟨k, v, out, _, h, h1, h2, h3, h4⟩
theorem txJ2 (k : Nat) (v : Value) (h : a' = { tmps := txT s g v k (upon a'), defers := [] }) (h1 : Bx w w' g) (h2 : (textR ((sInts s).drop 1)).2 = 0) : TxJ2 s g w a' w' := ⟨k, v, _, h, h1, h2⟩
theorem txJ3 (k : Nat) (v : Value) (out : List Int) (h : a' = { tmps := txT s g v k (upon a'), defers := [] }) (h1 : TxW w w' g v out) (h2 : k ≤ s.size) (h3 : TxAt (sInts s) k out) : TxJ3 s g w a' w' := ⟨k, v, out, _, h, h1, h2, h3⟩
end
def txM (s : ByteArray) (e : Nat) (a' : Act) (_ : World) : Nat := 4 * (s.size - (intOf (a'.tmps.getD 5 undef)).toNat) + e
def txM0 (_ : Act) (_ : World) : Nat := 0
set_option maxHeartbeats 4000000 in
theorem f_text (s : ByteArray) (w : World) (hs : s.size ≤ 4096) (h0 : 1 ≤ s.size) : Calls Try.prog 29 #[.string s] w fun e w' => TkOut (txtR (sInts s)) w e w' := by
  have HB : Hid (Bx w (w.alloc (.cells #[.int .i64 0, .int .i64 0, .string ⟨#[]⟩, .int .i64 0] 32)) w.heap.size) := Bx.made w
  have HSL : Hid ((sInts s).length = s.size) := sInts_len s
  generalize hW : (w.alloc (.cells #[.int .i64 0, .int .i64 0, .string ⟨#[]⟩, .int .i64 0] 32)) = W at HB
  have HW : Hid ((w.alloc (.cells #[.int .i64 0, .int .i64 0, .string ⟨#[]⟩, .int .i64 0] 32)) = W) := hW
  clear hW
  generalize hG : w.heap.size = G at HB
  have HG : Hid (w.heap.size = G) := hG
  clear hG
  go_enter Try.func29, Try.ntmps29
  go_wp2_with fail
  rw [HW.out, HG.out]
  refine wp_scope_text (TxJ0 s G w) (TxJ1 s G w) (TxJ2 s G w) (TxJ3 s G w) txM0 (txM s 1) txM0 (txM s 2) rfl rfl rfl rfl ?p2 ?p0 ?p1 ?p3 ?first
  case p2 =>
    rintro a' wr ⟨k, v, u, rfl, hb, ht⟩
    unfold txT
    have HBW : Hid (Bx w wr G) := hb
    have HD : Hid (txtR (sInts s) = (0, ⟨#[]⟩, 0, 0)) := by show _ = _; unfold txtR; rw [if_pos ht]
    obtain ⟨r0, r1, r2, r3⟩ := cell4 hb.row
    have f0 := free_row hb.row 0
    have f1 := free_row hb.row 1
    have f2 := free_row hb.row 2
    have f3 := free_row hb.row 3
    clear hb ht
    go_wp2_with fail
    simp only [onto, jumps]
    refine bodyPost_ret (v := .tuple #[tokV 0 0 ⟨#[]⟩ 0, .int .i64 (0 : Int)]) (results_row_tmp Try.results29 _ _ _ G 32 _ (0, 0) _ rfl (row4 HBW.out.row (.int .i64 0) (.int .i64 0) (.string ⟨#[]⟩) (.int .i64 0)) Try.underlying32 isz32) rfl ?_
    exact tk_ret (n := 0) HBW.out HD.out
  case p0 =>
    rintro on2 a' wr ⟨k, v, out, u, rfl, hw, hk, ht, hk1, hz⟩
    clear on2
    unfold txT
    have HTW : Hid (TxW w wr G v out) := hw
    have HD : Hid (txtR (sInts s) = (4, strOfNums out, 0, k + 1)) := by show _ = _; unfold txtR; rw [ht]; exact if_neg (by show ¬ k = 0; omega)
    obtain ⟨a, c, rfl⟩ := sown_slice hw.own
    have hcv := conv_rd wr a out out.length c (srd_rd (SOwn.rd hw.own) hz) rfl
    obtain ⟨r0, r1, r2, r3⟩ := cell4 hw.box.row
    have f0 := free_row hw.box.row 0
    have f1 := free_row hw.box.row 1
    have f2 := free_row hw.box.row 2
    have f3 := free_row hw.box.row 3
    generalize strOfNums out = t at hcv HD
    generalize out.length = n at hcv ⊢
    clear hw ht hz
    go_wp2_with fail
    simp only [onto, jumps]
    refine bodyPost_ret (v := .tuple #[tokV 4 0 t 0, .int .i64 ((k + 1 : Nat) : Int)]) ?_ rfl ?_
    · first | exact results_row_tmp Try.results29 _ _ _ G 32 _ (0, 0) _ rfl (row4 HTW.out.box.row (.int .i64 4) (.int .i64 0) (.string t) (.int .i64 0)) Try.underlying32 isz32
    · exact tk_ret HTW.out.box HD.out
  case p1 =>
    rintro on0 a' wr ⟨k, v, out, u, rfl, hw, hk, ht, hc⟩
    clear on0
    unfold txT
    have HTW : Hid (TxW w wr G v out) := hw
    have HTA : Hid (TxAt (sInts s) k out) := ht
    have HC : Hid (byteAt s k = 92) := hc
    have hol : out.length ≤ 4096 := by have := ht.2.2.1; omega
    obtain ⟨a, c, rfl⟩ := sown_slice hw.own
    have HBA := f_byteAt s (k + 1)
    have hbd := byteAt_bd s (k + 1)
    have HDE : Hid (∀ d : Int, (byteAt s (k + 1) = 34 ∨ byteAt s (k + 1) = 92) ∧ d = byteAt s (k + 1) ∨ byteAt s (k + 1) = 110 ∧ d = 10 → k + 1 < (sInts s).length ∧ TxAt (sInts s) (k + 2) (out ++ [d])) := fun d hd => ht.esc hc hd
    have HBD : Hid (byteAt s (k + 1) ≠ 34 ∧ byteAt s (k + 1) ≠ 92 ∧ byteAt s (k + 1) ≠ 110 → (textR ((sInts s).drop 1)).2 = 0) := fun hd => ht.esc_bad hc hd
    generalize byteAt s (k + 1) = d at HBA HDE HBD hbd
    clear hc ht
    have HA : ∀ x : Int, Hid (SOwn byteE 5 (wr.alloc (.cells #[.int .u8 x] 5)) (G + 1) (.slice a out.length c) out.length out ∧ SRd byteE (wr.alloc (.cells #[.int .u8 x] 5)) (some ⟨wr.heap.size, 0, none⟩) [x] ∧ wr.grownBy (wr.alloc (.cells #[.int .u8 x] 5)) none ∧ G + 1 ≤ (wr.alloc (.cells #[.int .u8 x] 5)).heap.size) := fun x => by
      refine ⟨SOwn.kept hw.own (World.grownBy_alloc wr _ none) (Classical.em _), srd_lit byteE 5 wr [x], World.grownBy_alloc wr _ none, ?_⟩
      have := hw.box.lt
      rw [size_alloc]
      omega
    clear hw
    have HLL : Hid (∀ x : Int, (out ++ [x]).length = out.length + 1) := fun x => by rw [List.length_append]; rfl
    generalize hn : out.length = n at HA HLL hol ⊢
    have HN : Hid (out.length = n) := hn
    clear hn
    have HAP : Hid (∀ (W1 W2 : World) (v2 : Value) (x : Int), wr.grownBy W1 none → SOwn byteE 5 W2 (G + 1) v2 (n + 1) (out ++ [x]) → W1.grownBy W2 (Value.ownBlock (.slice a n c)) → TxW w W2 G v2 (out ++ [x])) := fun W1 W2 v2 x h1 h2 h3 => by
      have e := HN.out
      subst e
      exact HTW.out.app h1 h2 h3
    by_cases h34 : d = 34
    · subst h34
      obtain ⟨hx1, hx2, hx3, hx4⟩ := (HA 34).out
      have HX1 := hid hx1
      have HX2 := hid hx2
      have HX3 := hid hx3
      have HNX : Hid (k + 1 < (sInts s).length ∧ TxAt (sInts s) (k + 2) (out ++ [34])) := HDE.out 34 (.inl ⟨.inl rfl, rfl⟩)
      have hk2 : k + 1 < s.size := by have := HNX.out.1; rw [HSL.out] at this; exact this
      clear HA HDE HBD hx1 hx2 hx3
      go_wp2_with (first | (go_at_call 33; refine (HBA _).mono ?_; rintro e w1 ⟨rfl, rfl⟩) | (at_builtin; refine wpList_append_s byteET rfl (.tmp 37) (.tmp 39) rfl (G + 1) (.slice a n c) n out rfl HX1.out (some ⟨wr.heap.size, 0, none⟩) [34] 1 1 rfl rfl HX2.out (by simp) (by omega) (by unfold maxLen; omega) hx4 ?_; intro v2 w2 ho2 hg2 hn2; have HO2 := hid ho2; have HG2 := hid hg2; clear ho2 hg2 hn2))
      go_step3
      exact ⟨txJ3 (k + 2) v2 (out ++ [34]) rfl (HAP.out _ _ _ _ HX3.out HO2.out HG2.out) (by omega) HNX.out.2, by simp [sel4, txM, intOf]; omega⟩
    by_cases h92 : d = 92
    · clear h34
      subst h92
      obtain ⟨hx1, hx2, hx3, hx4⟩ := (HA 92).out
      have HX1 := hid hx1
      have HX2 := hid hx2
      have HX3 := hid hx3
      have HNX : Hid (k + 1 < (sInts s).length ∧ TxAt (sInts s) (k + 2) (out ++ [92])) := HDE.out 92 (.inl ⟨.inr rfl, rfl⟩)
      have hk2 : k + 1 < s.size := by have := HNX.out.1; rw [HSL.out] at this; exact this
      clear HA HDE HBD hx1 hx2 hx3
      go_wp2_with (first | (go_at_call 33; refine (HBA _).mono ?_; rintro e w1 ⟨rfl, rfl⟩) | (at_builtin; refine wpList_append_s byteET rfl (.tmp 37) (.tmp 39) rfl (G + 1) (.slice a n c) n out rfl HX1.out (some ⟨wr.heap.size, 0, none⟩) [92] 1 1 rfl rfl HX2.out (by simp) (by omega) (by unfold maxLen; omega) hx4 ?_; intro v2 w2 ho2 hg2 hn2; have HO2 := hid ho2; have HG2 := hid hg2; clear ho2 hg2 hn2))
      go_step3
      exact ⟨txJ3 (k + 2) v2 (out ++ [92]) rfl (HAP.out _ _ _ _ HX3.out HO2.out HG2.out) (by omega) HNX.out.2, by simp [sel4, txM, intOf]; omega⟩
    by_cases h110 : d = 110
    · clear h34 h92
      subst h110
      obtain ⟨hx1, hx2, hx3, hx4⟩ := (HA 10).out
      have HX1 := hid hx1
      have HX2 := hid hx2
      have HX3 := hid hx3
      have HNX : Hid (k + 1 < (sInts s).length ∧ TxAt (sInts s) (k + 2) (out ++ [10])) := HDE.out 10 (.inr ⟨rfl, rfl⟩)
      have hk2 : k + 1 < s.size := by have := HNX.out.1; rw [HSL.out] at this; exact this
      clear HA HDE HBD hx1 hx2 hx3
      go_wp2_with (first | (go_at_call 33; refine (HBA _).mono ?_; rintro e w1 ⟨rfl, rfl⟩) | (at_builtin; refine wpList_append_s byteET rfl (.tmp 43) (.tmp 44) rfl (G + 1) (.slice a n c) n out rfl HX1.out (some ⟨wr.heap.size, 0, none⟩) [10] 1 1 rfl rfl HX2.out (by simp) (by omega) (by unfold maxLen; omega) hx4 ?_; intro v2 w2 ho2 hg2 hn2; have HO2 := hid ho2; have HG2 := hid hg2; clear ho2 hg2 hn2))
      go_step3
      exact ⟨txJ3 (k + 2) v2 (out ++ [10]) rfl (HAP.out _ _ _ _ HX3.out HO2.out HG2.out) (by omega) HNX.out.2, by simp [sel4, txM, intOf]; omega⟩
    have HT0 : Hid ((textR ((sInts s).drop 1)).2 = 0) := HBD.out ⟨h34, h92, h110⟩
    have HBX : Hid (Bx w wr G) := HTW.out.box
    have q1 : (d == 34) = false := by simpa using h34
    have q2 : (d == 92) = false := by simpa using h92
    have q3 : (d == 110) = false := by simpa using h110
    clear HA HDE HBD h34 h92 h110
    go_wp2_with (go_at_call 33; refine (HBA _).mono ?_; rintro e w1 ⟨rfl, rfl⟩)
    go_step3
    exact ⟨txJ2 (k + 1) _ rfl HBX.out HT0.out, by simp [sel4, txM, txM0, intOf]⟩
  case p3 =>
    rintro on1 a' wr ⟨k, v, out, u, rfl, hw, hk, ht⟩
    clear on1
    unfold txT
    have HTW : Hid (TxW w wr G v out) := hw
    have HTA : Hid (TxAt (sInts s) k out) := ht
    have hol : out.length ≤ 4096 := by have := ht.2.2.1; omega
    have HK1 : Hid (1 ≤ k ∧ ∀ z ∈ out, 0 ≤ z ∧ z ≤ 255) := ⟨ht.2.1, ht.2.2.2⟩
    obtain ⟨a, c, rfl⟩ := sown_slice hw.own
    have HBA := f_byteAt s k
    have hbd := byteAt_bd s k
    have hidx : k < s.size → ∀ w, (Instr.index 9 (.string s) (.int .i64 (k : Int))).run Try.prog w = .ok (.int .u8 (byteAt s k)) w := fun h => idx9 s k h
    have HQ : Hid (byteAt s k = 34 → textR ((sInts s).drop 1) = (out, k) ∧ k < (sInts s).length) := fun h => ht.quote h
    have HGB : Hid (∃ i, i = k ∧ byteAt s i = byteAt s k) := ⟨k, rfl, rfl⟩
    have HE : Hid (byteAt s k = 92 → byteAt s k = 92 ∧ k < (sInts s).length) := fun h => ⟨h, getD_end (l := sInts s) (k := k) (by show byteAt s k ≠ 0; omega)⟩
    have HBD : Hid (byteAt s k ≠ 34 → byteAt s k < 32 → (textR ((sInts s).drop 1)).2 = 0) := fun h h2 => ht.bad h h2
    have HPL : Hid (byteAt s k ≠ 34 → ¬ byteAt s k < 32 → byteAt s k ≠ 92 → k < (sInts s).length ∧ TxAt (sInts s) (k + 1) (out ++ [byteAt s k])) := fun h1 h2 h3 => ht.plain h1 h2 h3 hbd.2
    generalize byteAt s k = d at HBA hbd hidx HQ HE HBD HPL HGB
    clear ht
    by_cases h34 : d = 34
    · subst h34
      obtain ⟨h1, h2⟩ := HQ.out rfl
      have HTR := hid h1
      have hk2 : k < s.size := by rw [HSL.out] at h2; exact h2
      clear HQ HE HBD HPL h1 h2 hidx hw
      go_wp2_with (go_at_call 33; refine (HBA _).mono ?_; rintro e w1 ⟨rfl, rfl⟩)
      go_step3
      exact ⟨txJ0 k _ out rfl HTW.out hk2 HTR.out HK1.out.1 HK1.out.2, by simp [sel4, txM, txM0, intOf]⟩
    by_cases h92 : d = 92
    · obtain ⟨h1, h2⟩ := HE.out h92
      have H92 := hid h1
      have hk2 : k < s.size := by rw [HSL.out] at h2; exact h2
      clear HQ HE HBD HPL h1 h2 hidx hw h34
      subst h92
      go_wp2_with (go_at_call 33; refine (HBA _).mono ?_; rintro e w1 ⟨rfl, rfl⟩)
      go_step3
      exact ⟨txJ1 k _ out rfl HTW.out hk2 HTA.out (by obtain ⟨i, rfl, h⟩ := HGB.out; exact h), by simp [sel4, txM, intOf]⟩
    have q1 : (d == 34) = false := by simpa using h34
    have q2 : (d == 92) = false := by simpa using h92
    by_cases h32 : d < 32
    · have HT0 := hid (HBD.out h34 h32)
      have HBX : Hid (Bx w wr G) := HTW.out.box
      have q3 : decide (d < 32) = true := by simpa using h32
      clear HQ HE HBD HPL hidx hw h34 h92
      go_wp2_with (go_at_call 33; refine (HBA _).mono ?_; rintro e w1 ⟨rfl, rfl⟩)
      go_step3
      exact ⟨txJ2 k _ rfl HBX.out HT0.out, by simp [sel4, txM, txM0, intOf]⟩
    · obtain ⟨h1, h2⟩ := HPL.out h34 h32 h92
      have HNX := hid h2
      have hk2 : k < s.size := by rw [HSL.out] at h1; exact h1
      have hix := hidx hk2
      have q3 : decide (d < 32) = false := by simpa using h32
      have HXX : Hid (SOwn byteE 5 (wr.alloc (.cells #[.int .u8 d] 5)) (G + 1) (.slice a out.length c) out.length out ∧ SRd byteE (wr.alloc (.cells #[.int .u8 d] 5)) (some ⟨wr.heap.size, 0, none⟩) [d] ∧ wr.grownBy (wr.alloc (.cells #[.int .u8 d] 5)) none) := by
        exact ⟨SOwn.kept hw.own (World.grownBy_alloc wr _ none) (Classical.em _), srd_lit byteE 5 wr [d], World.grownBy_alloc wr _ none⟩
      have hx4 : G + 1 ≤ (wr.alloc (.cells #[.int .u8 d] 5)).heap.size := by
        have := hw.box.lt
        rw [size_alloc]
        omega
      clear HQ HE HBD HPL hidx hw h34 h92 h1 h2 h32 HTA
      generalize hn : out.length = n at HXX hol ⊢
      have HN : Hid (out.length = n) := hn
      clear hn
      have HAP : Hid (∀ (W1 W2 : World) (v2 : Value) (x : Int), wr.grownBy W1 none → SOwn byteE 5 W2 (G + 1) v2 (n + 1) (out ++ [x]) → W1.grownBy W2 (Value.ownBlock (.slice a n c)) → TxW w W2 G v2 (out ++ [x])) := fun W1 W2 v2 x h1 h2 h3 => by
        have e := HN.out
        subst e
        exact HTW.out.app h1 h2 h3
      go_wp2_with (first | (go_at_call 33; refine (HBA _).mono ?_; rintro e w1 ⟨rfl, rfl⟩) | (at_builtin; refine wpList_append_s byteET rfl (.tmp 20) (.tmp 24) rfl (G + 1) (.slice a n c) n out rfl HXX.out.1 (some ⟨wr.heap.size, 0, none⟩) [d] 1 1 rfl rfl HXX.out.2.1 (by simp) (by omega) (by unfold maxLen; omega) hx4 ?_; intro v2 w2 ho2 hg2 hn2; have HO2 := hid ho2; have HG2 := hid hg2; clear ho2 hg2 hn2))
      go_step3
      exact ⟨txJ3 (k + 1) v2 (out ++ [d]) rfl (HAP.out _ _ _ _ HXX.out.2.2 HO2.out HG2.out) (by omega) HNX.out, by simp [sel4, txM, intOf]; omega⟩
  case first =>
    intro go_on
    have GO : Hid (∀ a' w', TxJ3 s G w a' w' → _) := go_on
    clear go_on
    go_wp2
    go_step3
    refine ‹∀ (a : Act) (w : World), Code.wp Try.prog _ _ a w → _› _ _ (GO.out _ _ ?_)
    exact txJ3 1 _ [] rfl ⟨HB.out, SOwn.nil 5 _ _⟩ h0 (TxAt.start _)
end Go.Proofs.Ytkocdmkojoefoaa
