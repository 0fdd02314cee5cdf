/- Slices of texts: copied, lent, held against one another, kept. -/
import Derived.Test.YtailaehpgmpaaaaLabs
namespace Go.Proofs.Ytailaehpgmpaaaa
open Go.ChangeShapes Go.WideShapes Go.ChangeAt Go.RowKit
set_option linter.unusedVariables false

def strE : Elem ByteArray where
  cells s := [.string s]
  size := 1
  pos := by decide
  len _ := rfl
  one p v h := by
    simp only [List.mem_cons, List.mem_nil_iff, or_false] at h
    rw [h]; rfl
theorem info9 : (Try.prog.info? 9).map (fun i => (i.zero, i.size, i.bytes)) = some (some (.string ⟨#[]⟩), 1, 16) := by kernel_rfl
theorem strT : ElemOf strE Try.prog 40 9 16 := by
  obtain ⟨i0, hi, hz0, hz1, hz2⟩ := info_parts info9
  exact ⟨Try.underlying40, i0, _, hi, hz0, hz1, hz2, rfl⟩

/-- A slice of texts that the call made. -/
def TOwn (w : World) (base g n cap : Nat) (ss : List ByteArray) : Prop := SOwn strE 9 w base (.slice (some ⟨g, 0, none⟩) n cap) n ss
theorem TOwn.ge {w : World} {base g n cap : Nat} {ss : List ByteArray} (h : TOwn w base g n cap ss) : base ≤ g ∧ g < w.heap.size := SOwn.block h g rfl
theorem TOwn.cap {w : World} {base g n cap : Nat} {ss : List ByteArray} (h : TOwn w base g n cap ss) : n ≤ cap ∧ cap ≤ maxLen := by
  obtain ⟨g', c', e, _, _, h1, h2⟩ := SOwn.some h (by simp)
  simp only [Value.slice.injEq] at e
  obtain ⟨_, _, rfl⟩ := e
  exact ⟨h1, h2⟩
theorem TOwn.rd {w : World} {base g n cap : Nat} {ss : List ByteArray} (h : TOwn w base g n cap ss) : SRd strE w (some ⟨g, 0, none⟩) ss := SOwn.rd h
theorem TOwn.kept {w w' : World} {row : Option Nat} {base g n cap : Nat} {ss : List ByteArray} (h : TOwn w base g n cap ss) (hg : w.grownBy w' row) (hne : some g ≠ row) : TOwn w' base g n cap ss :=
  SOwn.kept h hg (.inr (by simpa [Value.ownBlock] using hne))
theorem TOwn.of {w : World} {base n : Nat} {v : Value} {ss : List ByteArray} (h : SOwn strE 9 w base v n ss) (hn : v ≠ .slice none 0 0) : ∃ g cap, v = .slice (some ⟨g, 0, none⟩) n cap ∧ TOwn w base g n cap ss := by
  obtain ⟨g, cap, rfl, _⟩ := SOwn.some h hn
  exact ⟨g, cap, rfl, h⟩

theorem tcopy (a : Option Addr) (ss : List ByteArray) (L cap : Nat) (w : World) (hr : SRd strE w a ss) (hL : ss.length = L) (hnil : a = none → cap = 0) (hz : L ≤ 8796093022000) :
    Calls Try.prog 57 #[.slice a L cap] w fun e w' => ∃ g c, e = .returned (.slice (some ⟨g, 0, none⟩) L c) ∧ TOwn w' w.heap.size g L c ss ∧ w.grownBy w' none := by
  have HR : Hid (SRd strE w a ss) := hr
  have HL : Hid (ss.length = L) := hL
  have HN : Hid (a = none → cap = 0) := hnil
  clear hr hL hnil
  go_enter Try.func57, Try.ntmps57
  go_wp2_with (at_builtin; refine wpList_append_s strT rfl (.tmp 3) (.tmp 4) rfl w.heap.size (.slice (some ⟨w.heap.size, 0, none⟩) 0 0) 0 [] rfl (SOwn.empty strE 9 w) a ss L cap rfl HL.out (HR.out.grown (World.grownBy_alloc w _ none) (by simp)) HN.out (by omega) (by unfold maxLen; omega) (Nat.le_of_lt (by rw [show ((w.alloc (.cells #[] 9)).heap.size) = w.heap.size + 1 from Array.size_push _]; omega)) ?_; intro v1 w1 ho1 hg1 hn1)
  go_ret
  rw [List.nil_append, Nat.zero_add] at ho1
  obtain ⟨g, c, rfl, ho⟩ := TOwn.of ho1 (fun e => by simpa using (hn1 e).1)
  exact ⟨g, c, rfl, ho, gb_trans (World.grownBy_alloc w _ none) hg1 (fun i hi => .inl (by simp [Value.ownBlock] at hi; omega))⟩

theorem tsame_len (a b : Option Addr) (L M : Nat) (c d : Nat) (w : World) (hne : ¬ L = M) :
    Calls Try.prog 62 #[.slice a L c, .slice b M d] w fun e w' => e = .returned (.bool false) ∧ w = w' := by
  have h : ((L : Int) != (M : Int)) = true := by simp; omega
  go_enter Try.func62, Try.ntmps62
  go_wp2
  go_ret
  exact ⟨rfl, rfl⟩

set_option maxHeartbeats 400000 in
theorem tsame_loop (a b : Option Addr) (xs ys : List ByteArray) (c d : Nat) (w : World) (hx : SRd strE w a xs) (hy : SRd strE w b ys) (hl : ys.length = xs.length) (hz : xs.length ≤ 8796093022208) :
    Calls Try.prog 62 #[.slice a xs.length c, .slice b xs.length d] w fun e w' => e = .returned (.bool (decide (xs = ys))) ∧ ∃ n, w' = w.drewN n := by
  have HX : Hid (SRd strE w a xs) := hx
  have HY : Hid (SRd strE w b ys) := hy
  have HE : Hid (∀ k, k < xs.length → xs[k]? ≠ ys[k]? → decide (xs = ys) = false) := by
    intro k hk hne
    simp only [decide_eq_false_iff_not]
    intro h
    rw [h] at hne
    exact hne rfl
  have HF : Hid ((∀ j, j < xs.length → xs[j]? = ys[j]?) → decide (xs = ys) = true) := fun h => by
    simp only [decide_eq_true_eq]
    apply List.ext_getElem?
    intro j
    by_cases hj : j < xs.length
    · exact h j hj
    · rw [List.getElem?_eq_none (by omega), List.getElem?_eq_none (by omega)]
  have HM : Hid (ys.length = xs.length) := hl
  obtain ⟨L, hL⟩ : ∃ L, L = xs.length := ⟨_, rfl⟩
  have H5 : Hid (L = xs.length) := hL
  obtain ⟨res, hres⟩ : ∃ r, r = decide (xs = ys) := ⟨_, rfl⟩
  have HRes : Hid (res = decide (xs = ys)) := hres
  rw [← hL] at hz ⊢
  rw [← hres]
  clear hx hy hl hL hres
  go_enter Try.func62, Try.ntmps62
  go_wp2
  go_loopw [5] (fun i wr => ∃ k : Nat, k ≤ L ∧ i = .int .i64 k ∧ (∃ n, wr = w.drewN n) ∧ ∀ j, j < k → xs[j]? = ys[j]?) (fun i _ => L - (intOf i).toNat)
  case atStart => exact ⟨0, Nat.zero_le _, rfl, ⟨0, rfl⟩, fun j h => by omega⟩
  case round =>
    obtain ⟨k, hk, rfl, ⟨m, rfl⟩, hall⟩ := hrel
    have HA : Hid (∀ j, j < k → xs[j]? = ys[j]?) := hall
    clear hall
    by_cases hlt : k < L
    · have h5 := H5.out
      have h6 := HM.out
      obtain ⟨ba, offa, rfl, hca⟩ := HX.out.at (by omega)
      obtain ⟨bb, offb, rfl, hcb⟩ := HY.out.at (by omega)
      obtain ⟨s, ex⟩ : ∃ x, xs[k]? = some x := ⟨_, List.getElem?_eq_getElem (by omega)⟩
      obtain ⟨t, ey⟩ : ∃ y, ys[k]? = some y := ⟨_, List.getElem?_eq_getElem (by omega)⟩
      have a0 : w.cell? ⟨ba, offa + k, none⟩ = some (.string s) := by have := hca k _ 0 _ ex rfl; rwa [show k * strE.size + 0 = k from Nat.mul_one k] at this
      have b0 : w.cell? ⟨bb, offb + k, none⟩ = some (.string t) := by have := hcb k _ 0 _ ey rfl; rwa [show k * strE.size + 0 = k from Nat.mul_one k] at this
      have EX : Hid (xs[k]? = some s) := ex
      have EY : Hid (ys[k]? = some t) := ey
      have hi : (k : Int) < (L : Int) := by omega
      clear hca hcb ex ey h5 h6
      by_cases hxy : s = t
      · have hb1 : (s.toList == t.toList) = true := by rw [str_eq]; simp [hxy]
        have HXY : Hid (s = t) := hxy
        clear hxy
        go_wp2_with fail
        go_quiet (fail)
        go_wp2
        go_roundw
        case rel =>
          refine ⟨k + 1, by omega, by go_num, ⟨_, rfl⟩, fun j hj => ?_⟩
          by_cases hjk : j < k
          · exact HA.out j hjk
          · have : j = k := by omega
            subst this
            rw [EX.out, EY.out, HXY.out]
        case measure => simp [intOf]; omega
      · have hb1 : (s.toList == t.toList) = false := by rw [str_eq]; simp [hxy]
        have HXY : Hid (¬ s = t) := hxy
        clear hxy
        go_wp2_with fail
        go_quiet (fail)
        go_wp2
        go_ret
        refine ⟨ret_bool ?_, _, drewN_drewN _ _ _⟩
        rw [HRes.out]
        refine (HE.out k (by have := H5.out; omega) ?_).symm
        rw [EX.out, EY.out]
        intro e
        exact HXY.out (Option.some.inj e)
    · go_wp2
      go_ret
      refine ⟨ret_bool ?_, _, rfl⟩
      rw [HRes.out]
      exact (HF.out fun j hj => HA.out j (by have := H5.out; omega)).symm

/-- SameTexts, of any two. -/
theorem tsame (a b : Option Addr) (xs ys : List ByteArray) (L M c d : Nat) (w : World) (hx : SRd strE w a xs) (hy : SRd strE w b ys) (hL : xs.length = L) (hM : ys.length = M) (hz : L ≤ 8796093022208) :
    Calls Try.prog 62 #[.slice a L c, .slice b M d] w fun e w' => e = .returned (.bool (decide (xs = ys))) ∧ w.grownBy w' none := by
  subst hL
  subst hM
  by_cases hl : xs.length = ys.length
  · rw [← hl]
    refine (tsame_loop a b xs ys c d w hx hy hl.symm hz).mono ?_
    rintro e w' ⟨rfl, n, rfl⟩
    exact ⟨rfl, gb_drewN w n⟩
  · have e : decide (xs = ys) = false := by
      simp only [decide_eq_false_iff_not]
      intro h
      exact hl (by rw [h])
    rw [e]
    refine (tsame_len a b _ _ c d w hl).mono ?_
    rintro e w' ⟨rfl, rfl⟩
    exact ⟨rfl, World.grownBy.refl _ _⟩

def ts2 : List ByteArray := [spoilt, spoilt]
theorem tlit (w : World) (ss : List ByteArray) : SRd strE (w.alloc (.cells (strE.flat ss).toArray 9)) (some ⟨w.heap.size, 0, none⟩) ss := by
  refine .inr ⟨w.heap.size, 0, rfl, fun j v hj => ?_⟩
  rw [Nat.zero_add, cell_of_row _ w.heap.size j _ 9 _ (heap_alloc_new w _)]
  simpa using hj

theorem tlend (a : Option Addr) (ss : List ByteArray) (L cap : Nat) (w : World) (hr : SRd strE w a ss) (hL : ss.length = L) (hnil : a = none → cap = 0) (hz : L ≤ 8796093022000) :
    Calls Try.prog 28 #[.slice a L cap] w fun e w' => ∃ g c, e = .returned (.slice (some ⟨g, 0, none⟩) L c) ∧ TOwn w' w.heap.size g (L + 2) c (ss ++ ts2) ∧ w.grownBy w' none := by
  have HC := tcopy a ss L cap w hr hL hnil hz
  clear hr hL hnil
  go_enter Try.func28, Try.ntmps28
  go_wp2_with fail
  refine HC.mono ?_
  rintro e w1 ⟨g, c, rfl, ho, hg⟩
  have HO : Hid (TOwn w1 w.heap.size g L c ss) := ho
  have HG : Hid (w.grownBy w1 none) := hg
  clear ho hg
  go_wp2_with (at_builtin; refine wpList_append_s strT rfl (.tmp 5) (.tmp 6) rfl w.heap.size (.slice (some ⟨g, 0, none⟩) L c) L ss rfl (SOwn.kept HO.out (World.grownBy_alloc w1 _ none) (.inr (by simp [Value.ownBlock]))) (some ⟨w1.heap.size, 0, none⟩) ts2 2 2 rfl rfl (tlit w1 ts2) (by simp) (by omega) (by unfold maxLen; omega) (Nat.le_trans HG.out.size (World.grownBy_alloc w1 _ none).size) ?_; intro v2 w2 ho2 hg2 hn2; obtain ⟨g2, c2, rfl, ho3⟩ := TOwn.of ho2 (fun e => by simpa using (hn2 e).1); have hc3 := ho3.cap.1)
  go_ret
  refine ⟨g2, c2, by simp, ho3, gb_trans (gb_trans HG.out (World.grownBy_alloc w1 _ none) (by simp)) hg2 (fun i hi => .inl ?_)⟩
  have := HO.out.ge
  simp [Value.ownBlock] at hi
  omega

theorem TOwn.head {w : World} {base g n cap : Nat} {xs ys : List ByteArray} (h : TOwn w base g n cap (xs ++ ys)) : SRd strE w (some ⟨g, 0, none⟩) xs := by
  rcases h.rd with h | ⟨b, off, e, h⟩
  · simp at h; rw [h.1]; exact .inl rfl
  · refine .inr ⟨b, off, e, fun j v hj => h j v ?_⟩
    rw [strE.flat_app, List.getElem?_append_left (List.getElem?_eq_some_iff.1 hj).1]
    exact hj
theorem TOwn.tail {w : World} {base g n cap : Nat} {xs ys : List ByteArray} (h : TOwn w base g n cap (xs ++ ys)) : SRd strE w (some ⟨g, xs.length, none⟩) ys := by
  rcases h.rd with h | ⟨b, off, e, h⟩
  · simp at h; rw [h.2]; exact .inl rfl
  · cases e
    refine .inr ⟨g, xs.length, rfl, fun j v hj => ?_⟩
    have h1 := h (xs.length + j) v (by
      rw [strE.flat_app, List.getElem?_append_right (by rw [strE.flat_len]; show xs.length * 1 ≤ _; omega), strE.flat_len]
      rw [show xs.length + j - xs.length * strE.size = j from by show xs.length + j - xs.length * 1 = j; omega]
      exact hj)
    rwa [Nat.zero_add] at h1
def Row1 (w : World) (g cap : Nat) : Prop := ∃ cur : Array Value, w.heap[g]? = some (.cells cur 9 (0, 0)) ∧ cur.size = cap
theorem TOwn.row1 {w : World} {base g n cap : Nat} {ss : List ByteArray} (h : TOwn w base g n cap ss) : Row1 w g cap := by
  rcases h.2 with ⟨h', _⟩ | ⟨g', cap', cur, h', _, h2, _, _, h5, h6⟩
  · simp at h'
  · simp only [Value.slice.injEq, Option.some.injEq, Addr.mk.injEq] at h'
    obtain ⟨⟨rfl, _⟩, _, rfl⟩ := h'
    exact ⟨cur, h2, by rw [h5]; exact Nat.mul_one _⟩
theorem Row1.cells {w : World} {g cap : Nat} (h : Row1 w g cap) (k : Nat) (hk : k < cap) : ∃ v0, w.cell? ⟨g, k, none⟩ = some v0 ∧ w.frozen? ⟨g, k, none⟩ = false := by
  obtain ⟨cur, h1, h2⟩ := h
  refine ⟨_, by rw [cell_of_row w g _ cur 9 _ h1, Array.getElem?_eq_getElem (by omega)], ?_⟩
  simp [World.frozen?, h1]
theorem Row1.set {w : World} {g cap : Nat} (h : Row1 w g cap) (j : Nat) (v : Value) : Row1 (w.setCell ⟨g, j, none⟩ v) g cap := by
  obtain ⟨cur, h1, h2⟩ := h
  exact ⟨cur.setIfInBounds j v, by rw [setCell_eq_setRow w g j cur 9 (0, 0) v h1, setRow_heap w g cur _ 9 _ h1], by simpa using h2⟩

set_option maxHeartbeats 1000000 in
theorem tkept (a : Option Addr) (ss : List ByteArray) (base g L c cap : Nat) (w : World) (hr : SRd strE w a ss) (hL : ss.length = L) (ho : TOwn w base g (L + 2) c (ss ++ ts2)) (hz : L ≤ 8796093022000) :
    Calls Try.prog 33 #[.slice (some ⟨g, 0, none⟩) L c, .slice a L cap] w fun e w' => e = .returned (.bool true) ∧ w.grownBy w' (some g) := by
  have HR : Hid (SRd strE w a ss) := hr
  have HO : Hid (TOwn w base g (L + 2) c (ss ++ ts2)) := ho
  have hcap := ho.cap.1
  have hcap2 : (c : Int) ≤ 9223372036854775807 := by have := ho.cap.2; unfold maxLen at this; omega
  have h1 : Hid (SRd strE w (some ⟨g, 0, none⟩) ss) := ho.head
  have h2 : Hid (SRd strE w (some ⟨g, L, none⟩) ts2) := by have := ho.tail; rwa [hL] at this
  have H5 : Hid (ss.length = L) := hL
  clear hr hL ho
  go_enter Try.func33, Try.ntmps33
  go_wp2_with fail
  refine (tsame (some ⟨g, 0, none⟩) a ss ss L L c cap _ h1.out HR.out H5.out H5.out (by omega)).mono ?_
  rintro e w1 ⟨rfl, hg1⟩
  have htt : decide (ss = ss) = true := by simp
  rw [htt]
  clear htt
  have HG1 : Hid (w.grownBy w1 none) := hg1
  clear hg1
  go_wp2_with fail
  have HL2 : Hid (SRd strE (w1.alloc (.cells #[.string ⟨#[115, 112, 111, 105, 108, 116]⟩, .string ⟨#[115, 112, 111, 105, 108, 116]⟩] 9)) (some ⟨w1.heap.size, 0, none⟩) ts2) := tlit w1 ts2
  have HGA : Hid (w.grownBy (w1.alloc (.cells #[.string ⟨#[115, 112, 111, 105, 108, 116]⟩, .string ⟨#[115, 112, 111, 105, 108, 116]⟩] 9)) none) := HG1.out.trans (World.grownBy_alloc w1 _ none)
  refine (tsame (some ⟨g, L, none⟩) (some ⟨w1.heap.size, 0, none⟩) ts2 ts2 2 2 (c - L) 2 _ (h2.out.grown HGA.out (by simp)) HL2.out rfl rfl (by omega)).mono ?_
  rintro e w2 ⟨rfl, hg2⟩
  have htt : decide (ts2 = ts2) = true := by simp
  rw [htt]
  clear htt
  have HG : Hid (w.grownBy w2 none) := HGA.out.trans hg2
  have HR2 : Hid (Row1 w2 g c) := (HO.out.kept HG.out (by simp)).row1
  clear hg2 HGA HL2 HG1 HO HR h1 h2
  go_wp2
  go_loopw [7] (fun i wr => ∃ k : Nat, k ≤ L + 2 ∧ i = .int .i64 k ∧ w2.grownBy wr (some g) ∧ Row1 wr g c) (fun i _ => L + 2 - (intOf i).toNat)
  case atStart => exact ⟨0, Nat.zero_le _, rfl, World.grownBy.refl _ _, HR2.out⟩
  case round =>
    obtain ⟨k, hk, rfl, hgr, hrow⟩ := hrel
    have HGR : Hid (w2.grownBy wr (some g)) := hgr
    by_cases hlt : k < L + 2
    · obtain ⟨v0, c0, f0⟩ := hrow.cells k (by omega)
      have HRow3 : Hid (Row1 (wr.setCell ⟨g, k, none⟩ (.string ⟨#[115, 112, 111, 105, 108, 116]⟩)) g c) := hrow.set _ _
      have hi : (k : Int) < (L : Int) + 2 := by omega
      clear hgr hrow
      go_wp2
      go_roundw
      case rel => exact ⟨k + 1, by omega, by go_num, gb_trans HGR.out (gb_set rfl) (fun j hj => .inr hj), HRow3.out⟩
      case measure => simp [intOf]; omega
    · clear hgr hrow
      go_wp2
      go_ret
      exact ⟨rfl, gb_trans (gb_any HG.out _) HGR.out (fun j hj => .inr hj)⟩
end Go.Proofs.Ytailaehpgmpaaaa
