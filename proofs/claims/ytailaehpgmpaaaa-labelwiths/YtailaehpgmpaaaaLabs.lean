/- Slices of labels: copied, lent, held against one another, kept, spoilt. -/
import Derived.Test.YtailaehpgmpaaaaSlot
import Derived.Test.YtailaehpgmpaaaaBytes
namespace Go.Proofs.Ytailaehpgmpaaaa
open Go.ChangeShapes Go.WideShapes Go.ChangeAt Go.RowKit
set_option linter.unusedVariables false
set_option maxRecDepth 20000

abbrev Lab := ByteArray × ByteArray
def labE : Elem Lab where
  cells p := [.string p.1, .string p.2]
  size := 2
  pos := by decide
  len _ := rfl
  one p v h := by
    simp only [List.mem_cons, List.mem_nil_iff, or_false] at h
    rcases h with rfl | rfl <;> rfl
theorem info52 : (Try.prog.info? 52).map (fun i => (i.zero, i.size, i.bytes)) = some (some (.agg #[.string ⟨#[]⟩, .string ⟨#[]⟩]), 2, 32) := by kernel_rfl
theorem labT : ElemOf labE Try.prog 22 52 32 := by
  obtain ⟨i0, hi, hz0, hz1, hz2⟩ := info_parts info52
  exact ⟨Try.underlying22, i0, _, hi, hz0, hz1, hz2, rfl⟩

/-- A slice of labels that the call made. -/
def LOwn (w : World) (base g n cap : Nat) (ls : List Lab) : Prop := SOwn labE 52 w base (.slice (some ⟨g, 0, none⟩) n cap) n ls
theorem LOwn.ge {w : World} {base g n cap : Nat} {ls : List Lab} (h : LOwn w base g n cap ls) : base ≤ g ∧ g < w.heap.size := SOwn.block h g rfl
theorem LOwn.cap {w : World} {base g n cap : Nat} {ls : List Lab} (h : LOwn w base g n cap ls) : n ≤ cap ∧ cap ≤ maxLen := by
  obtain ⟨g', c', e, _, _, h1, h2⟩ := SOwn.some h (by simp)
  simp only [Value.slice.injEq] at e
  obtain ⟨_, _, rfl⟩ := e
  exact ⟨h1, h2⟩
theorem LOwn.len {w : World} {base g n cap : Nat} {ls : List Lab} (h : LOwn w base g n cap ls) : ls.length = n := SOwn.len h
theorem LOwn.rd {w : World} {base g n cap : Nat} {ls : List Lab} (h : LOwn w base g n cap ls) : SRd labE w (some ⟨g, 0, none⟩) ls := SOwn.rd h
theorem LOwn.kept {w w' : World} {row : Option Nat} {base g n cap : Nat} {ls : List Lab} (h : LOwn w base g n cap ls) (hg : w.grownBy w' row) (hne : some g ≠ row) : LOwn w' base g n cap ls :=
  SOwn.kept h hg (.inr (by simpa [Value.ownBlock] using hne))
theorem LOwn.of {w : World} {base n : Nat} {v : Value} {ls : List Lab} (h : SOwn labE 52 w base v n ls) (hn : v ≠ .slice none 0 0) : ∃ g cap, v = .slice (some ⟨g, 0, none⟩) n cap ∧ LOwn w base g n cap ls := by
  obtain ⟨g, cap, rfl, _⟩ := SOwn.some h hn
  exact ⟨g, cap, rfl, h⟩

theorem lcopy (a : Option Addr) (ls : List Lab) (L cap : Nat) (w : World) (hr : SRd labE w a ls) (hL : ls.length = L) (hnil : a = none → cap = 0) (hz : L ≤ 4398046511000) :
    Calls Try.prog 38 #[.slice a L cap] w fun e w' => ∃ g c, e = .returned (.slice (some ⟨g, 0, none⟩) L c) ∧ LOwn w' w.heap.size g L c ls ∧ w.grownBy w' none := by
  have HR : Hid (SRd labE w a ls) := hr
  have HL : Hid (ls.length = L) := hL
  have HN : Hid (a = none → cap = 0) := hnil
  clear hr hL hnil
  go_enter Try.func38, Try.ntmps38
  go_wp2_with (at_builtin; refine wpList_append_s labT rfl (.tmp 3) (.tmp 4) rfl w.heap.size (.slice (some ⟨w.heap.size, 0, none⟩) 0 0) 0 [] rfl (SOwn.empty labE 52 w) a ls L cap rfl HL.out (HR.out.grown (World.grownBy_alloc w _ none) (by simp)) HN.out (by omega) (by unfold maxLen; omega) (Nat.le_of_lt (by rw [show ((w.alloc (.cells #[] 52)).heap.size) = w.heap.size + 1 from Array.size_push _]; omega)) ?_; intro v1 w1 ho1 hg1 hn1)
  go_ret
  rw [List.nil_append, Nat.zero_add] at ho1
  obtain ⟨g, c, rfl, ho⟩ := LOwn.of ho1 (fun e => by simpa using (hn1 e).1)
  exact ⟨g, c, rfl, ho, gb_trans (World.grownBy_alloc w _ none) hg1 (fun i hi => .inl (by simp [Value.ownBlock] at hi; omega))⟩

theorem lsame_len (a b : Option Addr) (L M : Nat) (c d : Nat) (w : World) (hne : ¬ L = M) :
    Calls Try.prog 26 #[.slice a L c, .slice b M d] w fun e w' => e = .returned (.bool false) ∧ w = w' := by
  have h : ((L : Int) != (M : Int)) = true := by simp; omega
  go_enter Try.func26, Try.ntmps26
  go_wp2
  go_ret
  exact ⟨rfl, rfl⟩
theorem str_eq (x y : ByteArray) : (x.toList == y.toList) = decide (x = y) := by
  rw [Bool.eq_iff_iff]
  simp only [beq_iff_eq, decide_eq_true_eq]
  constructor
  · intro h
    rw [ByteArray.toList_eq, ByteArray.toList_eq] at h
    exact ByteArray.ext (Array.toList_inj.1 h)
  · intro h; rw [h]
theorem neq52 (s1 s2 t1 t2 : ByteArray) (w : World) : (binOp .neq 52 (.agg #[.string s1, .string s2]) (.agg #[.string t1, .string t2])).run Try.prog w = .ok (.bool (!decide ((s1, s2) = (t1, t2)))) w := by
  have h : (Op.equal 52 (.agg #[.string s1, .string s2]) (.agg #[.string t1, .string t2])).run Try.prog w = .ok (decide ((s1, s2) = (t1, t2))) w := by
    have hf : (Try.prog.fieldsOf 52).toList.map (fun f => (f.type, f.offset)) = [(9, 0), (9, 1)] := by kernel_rfl
    have hn : (Try.prog.fieldsOf 52).toList.all (fun f => f.name != "_") = true := by kernel_rfl
    have hu : Try.prog.underlying 52 = some (.struct (Try.prog.fieldsOf 52)) := by kernel_rfl
    have hp : Try.prog.stoodInHeld 52 = false := by kernel_rfl
    simp only [Op.equal]
    rw [show Op.maxDepth = 9999 + 1 from rfl, run_equalIn_struct w 9999 52 _ _ hu hp]
    generalize (Try.prog.fieldsOf 52).toList = fs at hf hn
    have hl : fs.length = 2 := by simpa using congrArg List.length hf
    obtain ⟨f1, f2, rfl⟩ : ∃ f1 f2, fs = [f1, f2] := by
      match fs, hl with
      | [f1, f2], _ => exact ⟨f1, f2, rfl⟩
    simp only [List.map_cons, List.map_nil, List.cons.injEq, Prod.mk.injEq, and_true] at hf
    simp only [List.all_cons, List.all_nil, Bool.and_true, Bool.and_eq_true, bne_iff_ne] at hn
    obtain ⟨⟨h1, h2⟩, h3, h4⟩ := hf
    have p0 : ∀ (x y : ByteArray) (w : World), (part 9 #[.string x, .string y] 0).run Try.prog w = .ok (.string x) w := fun x y w => by simp [part, go_sem]
    have p1 : ∀ (x y : ByteArray) (w : World), (part 9 #[.string x, .string y] 1).run Try.prog w = .ok (.string y) w := fun x y w => by simp [part, go_sem]
    have q : ∀ (x y : ByteArray) (w : World), (Op.equalIn 9999 9 (.string x) (.string y)).run Try.prog w = .ok (x.toList == y.toList) w := fun x y w => run_equalIn_string w 9998 9 x y Try.underlying9
    simp only [Op.eqFields, hn.1, hn.2, h1, h2, h3, h4, ne_eq, not_false_eq_true, if_true, Sem.run_bind, p0, q, Result.andThen_ok]
    rw [str_eq]
    by_cases e1 : s1 = t1 <;> by_cases e2 : s2 = t2 <;> simp [e1, e2, p1, q, str_eq]
  simp [binOp, h]

set_option maxHeartbeats 400000 in
theorem lsame_loop (a b : Option Addr) (xs ys : List Lab) (c d : Nat) (w : World) (hx : SRd labE w a xs) (hy : SRd labE w b ys) (hl : ys.length = xs.length) (hz : xs.length ≤ 4398046511104) :
    Calls Try.prog 26 #[.slice a xs.length c, .slice b xs.length d] w fun e w' => e = .returned (.bool (decide (xs = ys))) ∧ ∃ n, w' = w.drewN n := by
  have HX : Hid (SRd labE w a xs) := hx
  have HY : Hid (SRd labE w b ys) := hy
  have HE : Hid (∀ k, k < xs.length → xs[k]? ≠ ys[k]? → decide (xs = ys) = false) := by
    intro k hk hne
    simp only [decide_eq_false_iff_not]
    intro h
    rw [h] at hne
    exact hne rfl
  have HF : Hid ((∀ j, j < xs.length → xs[j]? = ys[j]?) → decide (xs = ys) = true) := fun h => by
    simp only [decide_eq_true_eq]
    apply List.ext_getElem?
    intro j
    by_cases hj : j < xs.length
    · exact h j hj
    · rw [List.getElem?_eq_none (by omega), List.getElem?_eq_none (by omega)]
  have HM : Hid (ys.length = xs.length) := hl
  obtain ⟨L, hL⟩ : ∃ L, L = xs.length := ⟨_, rfl⟩
  have H5 : Hid (L = xs.length) := hL
  obtain ⟨res, hres⟩ : ∃ r, r = decide (xs = ys) := ⟨_, rfl⟩
  have HRes : Hid (res = decide (xs = ys)) := hres
  rw [← hL] at hz ⊢
  rw [← hres]
  clear hx hy hl hL hres
  go_enter Try.func26, Try.ntmps26
  go_wp2
  go_loopw [5] (fun i wr => ∃ k : Nat, k ≤ L ∧ i = .int .i64 k ∧ (∃ n, wr = w.drewN n) ∧ ∀ j, j < k → xs[j]? = ys[j]?) (fun i _ => L - (intOf i).toNat)
  case atStart => exact ⟨0, Nat.zero_le _, rfl, ⟨0, rfl⟩, fun j h => by omega⟩
  case round =>
    obtain ⟨k, hk, rfl, ⟨m, rfl⟩, hall⟩ := hrel
    have HA : Hid (∀ j, j < k → xs[j]? = ys[j]?) := hall
    clear hall
    by_cases hlt : k < L
    · have h5 := H5.out
      have h6 := HM.out
      obtain ⟨ba, offa, rfl, hca⟩ := HX.out.at (by omega)
      obtain ⟨bb, offb, rfl, hcb⟩ := HY.out.at (by omega)
      obtain ⟨⟨s1, s2⟩, ex⟩ : ∃ x, xs[k]? = some x := ⟨_, List.getElem?_eq_getElem (by omega)⟩
      obtain ⟨⟨t1, t2⟩, ey⟩ : ∃ y, ys[k]? = some y := ⟨_, List.getElem?_eq_getElem (by omega)⟩
      have a0 : w.cell? ⟨ba, offa + k * 2, none⟩ = some (.string s1) := hca k _ 0 _ ex rfl
      have a1 : w.cell? ⟨ba, offa + k * 2 + 1, none⟩ = some (.string s2) := by rw [Nat.add_assoc]; exact hca k _ 1 _ ex rfl
      have b0 : w.cell? ⟨bb, offb + k * 2, none⟩ = some (.string t1) := hcb k _ 0 _ ey rfl
      have b1 : w.cell? ⟨bb, offb + k * 2 + 1, none⟩ = some (.string t2) := by rw [Nat.add_assoc]; exact hcb k _ 1 _ ey rfl
      have EX : Hid (xs[k]? = some (s1, s2)) := ex
      have EY : Hid (ys[k]? = some (t1, t2)) := ey
      have hi : (k : Int) < (L : Int) := by omega
      have hq : ∀ w, _ := neq52 s1 s2 t1 t2
      clear hca hcb ex ey h5 h6
      by_cases hxy : (s1, s2) = (t1, t2)
      · have hb1 : (!decide ((s1, s2) = (t1, t2))) = false := by simp [hxy]
        rw [hb1] at hq
        have HXY : Hid ((s1, s2) = (t1, t2)) := hxy
        clear hxy hb1
        go_wp2_with fail
        go_quiet (fail)
        go_wp2
        go_roundw
        case rel =>
          refine ⟨k + 1, by omega, by go_num, ⟨_, rfl⟩, fun j hj => ?_⟩
          by_cases hjk : j < k
          · exact HA.out j hjk
          · have : j = k := by omega
            subst this
            rw [EX.out, EY.out, HXY.out]
        case measure => simp [intOf]; omega
      · have hb1 : (!decide ((s1, s2) = (t1, t2))) = true := by simp [hxy]
        rw [hb1] at hq
        have HXY : Hid (¬ (s1, s2) = (t1, t2)) := hxy
        clear hxy hb1
        go_wp2_with fail
        go_quiet (fail)
        go_wp2
        go_ret
        refine ⟨ret_bool ?_, _, drewN_drewN _ _ _⟩
        rw [HRes.out]
        refine (HE.out k (by have := H5.out; omega) ?_).symm
        rw [EX.out, EY.out]
        intro e
        exact HXY.out (Option.some.inj e)
    · go_wp2
      go_ret
      refine ⟨ret_bool ?_, _, rfl⟩
      rw [HRes.out]
      exact (HF.out fun j hj => HA.out j (by have := H5.out; omega)).symm

/-- SameLabels, of any two. -/
theorem lsame (a b : Option Addr) (xs ys : List Lab) (L M c d : Nat) (w : World) (hx : SRd labE w a xs) (hy : SRd labE w b ys) (hL : xs.length = L) (hM : ys.length = M) (hz : L ≤ 4398046511104) :
    Calls Try.prog 26 #[.slice a L c, .slice b M d] w fun e w' => e = .returned (.bool (decide (xs = ys))) ∧ w.grownBy w' none := by
  subst hL
  subst hM
  by_cases hl : xs.length = ys.length
  · rw [← hl]
    refine (lsame_loop a b xs ys c d w hx hy hl.symm hz).mono ?_
    rintro e w' ⟨rfl, n, rfl⟩
    exact ⟨rfl, gb_drewN w n⟩
  · have e : decide (xs = ys) = false := by
      simp only [decide_eq_false_iff_not]
      intro h
      exact hl (by rw [h])
    rw [e]
    refine (lsame_len a b _ _ c d w hl).mono ?_
    rintro e w' ⟨rfl, rfl⟩
    exact ⟨rfl, World.grownBy.refl _ _⟩

def spoilt : ByteArray := ⟨#[115, 112, 111, 105, 108, 116]⟩
def sp2 : List Lab := [(spoilt, spoilt), (spoilt, spoilt)]
theorem llit (w : World) (ls : List Lab) : SRd labE (w.alloc (.cells (labE.flat ls).toArray 52)) (some ⟨w.heap.size, 0, none⟩) ls := by
  refine .inr ⟨w.heap.size, 0, rfl, fun j v hj => ?_⟩
  rw [Nat.zero_add, cell_of_row _ w.heap.size j _ 52 _ (heap_alloc_new w _)]
  simpa using hj

theorem llend (a : Option Addr) (ls : List Lab) (L cap : Nat) (w : World) (hr : SRd labE w a ls) (hL : ls.length = L) (hnil : a = none → cap = 0) (hz : L ≤ 4398046511000) :
    Calls Try.prog 9 #[.slice a L cap] w fun e w' => ∃ g c, e = .returned (.slice (some ⟨g, 0, none⟩) L c) ∧ LOwn w' w.heap.size g (L + 2) c (ls ++ sp2) ∧ w.grownBy w' none := by
  have HC := lcopy a ls L cap w hr hL hnil hz
  clear hr hL hnil
  go_enter Try.func9, Try.ntmps9
  go_wp2_with fail
  refine HC.mono ?_
  rintro e w1 ⟨g, c, rfl, ho, hg⟩
  have HO : Hid (LOwn w1 w.heap.size g L c ls) := ho
  have HG : Hid (w.grownBy w1 none) := hg
  clear ho hg
  go_wp2_with (at_builtin; refine wpList_append_s labT rfl (.tmp 5) (.tmp 8) rfl w.heap.size (.slice (some ⟨g, 0, none⟩) L c) L ls rfl (SOwn.kept HO.out (World.grownBy_alloc w1 _ none) (.inr (by simp [Value.ownBlock]))) (some ⟨w1.heap.size, 0, none⟩) sp2 2 2 rfl rfl (llit w1 sp2) (by simp) (by omega) (by unfold maxLen; omega) (Nat.le_trans HG.out.size (World.grownBy_alloc w1 _ none).size) ?_; intro v2 w2 ho2 hg2 hn2; obtain ⟨g2, c2, rfl, ho3⟩ := LOwn.of ho2 (fun e => by simpa using (hn2 e).1); have hc3 := ho3.cap.1)
  go_ret
  refine ⟨g2, c2, by simp, ho3, gb_trans (gb_trans HG.out (World.grownBy_alloc w1 _ none) (by simp)) hg2 (fun i hi => .inl ?_)⟩
  have := HO.out.ge
  simp [Value.ownBlock] at hi
  omega

/-- Parts of a slice of labels that the call made. -/
theorem LOwn.head {w : World} {base g n cap : Nat} {xs ys : List Lab} (h : LOwn w base g n cap (xs ++ ys)) : SRd labE w (some ⟨g, 0, none⟩) xs := by
  rcases h.rd with h | ⟨b, off, e, h⟩
  · simp at h; rw [h.1]; exact .inl rfl
  · refine .inr ⟨b, off, e, fun j v hj => h j v ?_⟩
    rw [labE.flat_app, List.getElem?_append_left (List.getElem?_eq_some_iff.1 hj).1]
    exact hj
theorem LOwn.tail {w : World} {base g n cap : Nat} {xs ys : List Lab} (h : LOwn w base g n cap (xs ++ ys)) : SRd labE w (some ⟨g, xs.length * 2, none⟩) ys := by
  rcases h.rd with h | ⟨b, off, e, h⟩
  · simp at h; rw [h.2]; exact .inl rfl
  · cases e
    refine .inr ⟨g, xs.length * 2, rfl, fun j v hj => ?_⟩
    have h1 := h (xs.length * 2 + j) v (by
      rw [labE.flat_app, List.getElem?_append_right (by rw [labE.flat_len]; exact Nat.le_add_right _ _), labE.flat_len]
      rw [show xs.length * 2 + j - xs.length * labE.size = j from by show xs.length * 2 + j - xs.length * 2 = j; omega]
      exact hj)
    rwa [Nat.zero_add] at h1
theorem LOwn.row {w : World} {base g n cap : Nat} {ls : List Lab} (h : LOwn w base g n cap ls) : ∃ cur, w.heap[g]? = some (.cells cur 52 (0, 0)) ∧ cur.size = cap * 2 ∧ cur.toList.take (n * 2) = labE.flat ls := by
  rcases h.2 with ⟨h', _⟩ | ⟨g', cap', cur, h', _, h2, _, _, h5, h6⟩
  · simp at h'
  · simp only [Value.slice.injEq, Option.some.injEq, Addr.mk.injEq] at h'
    obtain ⟨⟨rfl, _⟩, _, rfl⟩ := h'
    exact ⟨cur, h2, h5, h6⟩
theorem gb_setRow (w : World) (g : Nat) (cs : Array Value) : w.grownBy (w.setRow g cs) (some g) := by
  refine ⟨rfl, rfl, rfl, ?_, ?_⟩
  · simp [World.setRow]
  · intro k hk hne
    simp only [World.setRow]
    rw [Array.getElem?_modify]
    have : ¬ g = k := fun e => hne (by rw [e])
    simp [this]
/-- A row of so many labels. -/
def Row2 (w : World) (g cap : Nat) : Prop := ∃ cur : Array Value, w.heap[g]? = some (.cells cur 52 (0, 0)) ∧ cur.size = cap * 2
theorem LOwn.row2 {w : World} {base g n cap : Nat} {ls : List Lab} (h : LOwn w base g n cap ls) : Row2 w g cap := by
  obtain ⟨cur, h1, h2, _⟩ := h.row
  exact ⟨cur, h1, h2⟩
theorem Row2.cells {w : World} {g cap : Nat} (h : Row2 w g cap) (k : Nat) (hk : k < cap) : ∃ v0 v1, w.cell? ⟨g, k * 2, none⟩ = some v0 ∧ w.cell? ⟨g, k * 2 + 1, none⟩ = some v1 ∧ w.frozen? ⟨g, k * 2, none⟩ = false ∧ w.frozen? ⟨g, k * 2 + 1, none⟩ = false := by
  obtain ⟨cur, h1, h2⟩ := h
  refine ⟨_, _, by rw [cell_of_row w g _ cur 52 _ h1, Array.getElem?_eq_getElem (by omega)], by rw [cell_of_row w g _ cur 52 _ h1, Array.getElem?_eq_getElem (by omega)], ?_, ?_⟩ <;> simp [World.frozen?, h1]
theorem Row2.set {w : World} {g cap : Nat} (h : Row2 w g cap) (j : Nat) (v : Value) : Row2 (w.setCell ⟨g, j, none⟩ v) g cap := by
  obtain ⟨cur, h1, h2⟩ := h
  exact ⟨cur.setIfInBounds j v, by rw [setCell_eq_setRow w g j cur 52 (0, 0) v h1, setRow_heap w g cur _ 52 _ h1], by simpa using h2⟩
/-- A label of it is written over. -/
theorem Row2.store {w : World} {g cap : Nat} (h : Row2 w g cap) (k : Nat) (hk : k < cap) (s t : ByteArray) : ∃ w', (storeCells ⟨g, k * 2, none⟩ [.string s, .string t]).run Try.prog w = .ok () w' ∧ Row2 w' g cap ∧ w.grownBy w' (some g) := by
  obtain ⟨cur, h1, h2⟩ := h
  refine ⟨_, run_storeCells_at (P := Try.prog) g (k * 2) 52 [.string s, .string t] 0 cur w h1 (by simp; omega) ?_, ?_, ?_⟩
  · intro v hv
    simp only [List.mem_cons, List.mem_nil_iff, or_false] at hv
    rcases hv with rfl | rfl <;> rfl
  · refine ⟨_, setRow_heap w g cur _ 52 _ h1, ?_⟩
    simp only [List.size_toArray, List.length_append, List.length_take, List.length_drop, Array.length_toList, List.length_cons, List.length_nil]
    omega
  · exact gb_setRow w g _

set_option maxHeartbeats 1000000 in
theorem lkept (a : Option Addr) (ls : List Lab) (base g L c cap : Nat) (w : World) (hr : SRd labE w a ls) (hL : ls.length = L) (ho : LOwn w base g (L + 2) c (ls ++ sp2)) (hz : L ≤ 4398046511000) :
    Calls Try.prog 14 #[.slice (some ⟨g, 0, none⟩) L c, .slice a L cap] w fun e w' => e = .returned (.bool true) ∧ w.grownBy w' (some g) := by
  have HR : Hid (SRd labE w a ls) := hr
  have HO : Hid (LOwn w base g (L + 2) c (ls ++ sp2)) := ho
  have hcap := ho.cap.1
  have hcap2 : (c : Int) ≤ 9223372036854775807 := by have := ho.cap.2; unfold maxLen at this; omega
  have h1 : Hid (SRd labE w (some ⟨g, 0, none⟩) ls) := ho.head
  have h2 : Hid (SRd labE w (some ⟨g, L * 2, none⟩) sp2) := by have := ho.tail; rwa [hL] at this
  have H5 : Hid (ls.length = L) := hL
  clear hr hL ho
  go_enter Try.func14, Try.ntmps14
  go_wp2_with fail
  refine (lsame (some ⟨g, 0, none⟩) a ls ls L L c cap _ h1.out HR.out H5.out H5.out (by omega)).mono ?_
  rintro e w1 ⟨rfl, hg1⟩
  have htt : decide (ls = ls) = true := by simp
  rw [htt]
  clear htt
  have HG1 : Hid (w.grownBy w1 none) := hg1
  clear hg1
  go_wp2_with fail
  have HL2 : Hid (SRd labE (w1.alloc (.cells #[.string ⟨#[115, 112, 111, 105, 108, 116]⟩, .string ⟨#[115, 112, 111, 105, 108, 116]⟩, .string ⟨#[115, 112, 111, 105, 108, 116]⟩, .string ⟨#[115, 112, 111, 105, 108, 116]⟩] 52)) (some ⟨w1.heap.size, 0, none⟩) sp2) := llit w1 sp2
  have HGA : Hid (w.grownBy (w1.alloc (.cells #[.string ⟨#[115, 112, 111, 105, 108, 116]⟩, .string ⟨#[115, 112, 111, 105, 108, 116]⟩, .string ⟨#[115, 112, 111, 105, 108, 116]⟩, .string ⟨#[115, 112, 111, 105, 108, 116]⟩] 52)) none) := HG1.out.trans (World.grownBy_alloc w1 _ none)
  refine (lsame (some ⟨g, L * 2, none⟩) (some ⟨w1.heap.size, 0, none⟩) sp2 sp2 2 2 (c - L) 2 _ (h2.out.grown HGA.out (by simp)) HL2.out rfl rfl (by omega)).mono ?_
  rintro e w2 ⟨rfl, hg2⟩
  have htt : decide (sp2 = sp2) = true := by simp
  rw [htt]
  clear htt
  have HG : Hid (w.grownBy w2 none) := HGA.out.trans hg2
  have HR2 : Hid (Row2 w2 g c) := (HO.out.kept HG.out (by simp)).row2
  clear hg2 HGA HL2 HG1 HO HR h1 h2
  go_wp2
  go_loopw [7] (fun i wr => ∃ k : Nat, k ≤ L + 2 ∧ i = .int .i64 k ∧ w2.grownBy wr (some g) ∧ Row2 wr g c) (fun i _ => L + 2 - (intOf i).toNat)
  case atStart => exact ⟨0, Nat.zero_le _, rfl, World.grownBy.refl _ _, HR2.out⟩
  case round =>
    obtain ⟨k, hk, rfl, hgr, hrow⟩ := hrel
    have HGR : Hid (w2.grownBy wr (some g)) := hgr
    by_cases hlt : k < L + 2
    · obtain ⟨v0, v1, c0, c1, f0, f1⟩ := hrow.cells k (by omega)
      have HRow3 : Hid (Row2 ((wr.setCell ⟨g, k * 2, none⟩ (.string ⟨#[115, 112, 111, 105, 108, 116]⟩)).setCell ⟨g, k * 2 + 1, none⟩ (.string ⟨#[115, 112, 111, 105, 108, 116]⟩)) g c) := (hrow.set _ _).set _ _
      have HG3 : Hid (wr.grownBy ((wr.setCell ⟨g, k * 2, none⟩ (.string ⟨#[115, 112, 111, 105, 108, 116]⟩)).setCell ⟨g, k * 2 + 1, none⟩ (.string ⟨#[115, 112, 111, 105, 108, 116]⟩)) (some g)) := gb_trans (gb_set rfl) (gb_set rfl) (fun j hj => .inr hj)
      have hi : (k : Int) < (L : Int) + 2 := by omega
      clear hgr hrow
      go_wp2
      go_roundw
      case rel => exact ⟨k + 1, by omega, by go_num, gb_trans HGR.out HG3.out (fun j hj => .inr hj), HRow3.out⟩
      case measure => simp [intOf]; omega
    · clear hgr hrow
      go_wp2
      go_ret
      exact ⟨rfl, gb_trans (gb_any HG.out _) HGR.out (fun j hj => .inr hj)⟩

theorem Row2.other {w : World} {g cap : Nat} (h : Row2 w g cap) (g2 j : Nat) (v : Value) : Row2 (w.setCell ⟨g2, j, none⟩ v) g cap := by
  by_cases e : g2 = g
  · subst e; exact h.set j v
  · obtain ⟨cur, h1, h2⟩ := h
    exact ⟨cur, ((gb_set (w := w) (p := ⟨g2, j, none⟩) (u := v) rfl).block g (Array.getElem?_eq_some_iff.1 h1).1 (fun x => e (Option.some.inj x).symm)).trans h1, h2⟩
abbrev sput (w : World) (g k : Nat) : World := (w.setCell ⟨g, k * 2, none⟩ (.string ⟨#[115, 112, 111, 105, 108, 116]⟩)).setCell ⟨g, k * 2 + 1, none⟩ (.string ⟨#[115, 112, 111, 105, 108, 116]⟩)
theorem gb_sput (w : World) (g k : Nat) : w.grownBy (sput w g k) (some g) := gb_trans (gb_set rfl) (gb_set rfl) (fun j hj => .inr hj)

theorem Row2.kept {w w' : World} {row : Option Nat} {g cap : Nat} (h : Row2 w g cap) (hg : w.grownBy w' row) (hne : some g ≠ row) : Row2 w' g cap := by
  obtain ⟨cur, h1, h2⟩ := h
  exact ⟨cur, (hg.block g (Array.getElem?_eq_some_iff.1 h1).1 hne).trans h1, h2⟩
theorem Row2.sput {w : World} {g cap : Nat} (h : Row2 w g cap) (g2 k : Nat) : Row2 (sput w g2 k) g cap := (h.other g2 _ _).other g2 _ _

set_option maxHeartbeats 1000000 in
theorem lspoil_fits (g base n c : Nat) (ls : List Lab) (w : World) (ho : LOwn w base g n c ls) (hc : n + 1 ≤ c) (hn : n ≤ 4398046511000) :
    Calls Try.prog 27 #[.slice (some ⟨g, 0, none⟩) n c] w fun e w' => e = .returned (.tuple #[]) ∧ w.grownBy w' (some g) := by
  obtain ⟨i0, z, hi, hz0, hz1, hz2, hz3⟩ := labT.info
  have hcm : (c : Int) ≤ 9223372036854775807 := by have := ho.cap.2; unfold maxLen at this; omega
  have HO : Hid (LOwn (w.alloc (.cells (labE.flat [(spoilt, spoilt)]).toArray 52)) base g n c ls) := ho.kept (World.grownBy_alloc w _ none) (by simp)
  clear ho
  go_enter Try.func27, Try.ntmps27
  go_wp2_with (at_builtin; refine wpList_append_fits _ rfl (.tmp 5) (.tmp 7) 22 rfl base 52 i0 2 labT.under hi hz1 g n c (labE.flat ls) rfl HO.out ⟨w.heap.size, 0, none⟩ 1 1 (labE.flat [(spoilt, spoilt)]) rfl rfl (SRd.news (llit w [(spoilt, spoilt)])) (labE.flat_one _) hc ?_; intro w1 hown hg1)
  have HG1 : Hid (w.grownBy w1 (some g)) := gb_trans (gb_any (World.grownBy_alloc w _ none) _) hg1 (fun j hj => .inr hj)
  have HR1 : Hid (Row2 w1 g c) := by
    have h : LOwn w1 base g (n + 1) c (ls ++ [(spoilt, spoilt)]) := by
      unfold LOwn SOwn
      rw [labE.flat_app]
      exact hown
    exact h.row2
  clear hown hg1 HO
  go_loopw [3] (fun i wr => ∃ k : Nat, k ≤ n + 1 ∧ i = .int .i64 k ∧ w.grownBy wr (some g) ∧ Row2 wr g c) (fun i _ => n + 1 - (intOf i).toNat)
  case atStart => exact ⟨0, Nat.zero_le _, rfl, HG1.out, HR1.out⟩
  case round =>
    obtain ⟨k, hk, rfl, hgr, hrow⟩ := hrel
    have HGR : Hid (w.grownBy wr (some g)) := hgr
    have HROW : Hid (Row2 wr g c) := hrow
    clear hgr hrow HG1 HR1
    by_cases hlt : k < n + 1
    · obtain ⟨v0, v1, c0, c1, f0, f1⟩ := HROW.out.cells k (by omega)
      have hi : (k : Int) < (n : Int) + 1 := by omega
      go_wp2
      go_roundw
      case rel => exact ⟨k + 1, by omega, by go_num, gb_trans HGR.out (gb_sput wr g k) (fun j hj => .inr hj), HROW.out.sput g k⟩
      case measure => simp [intOf]; omega
    · go_wp2
      go_loopw [4] (fun i wq => ∃ k : Nat, k ≤ n ∧ i = .int .i64 k ∧ w.grownBy wq (some g) ∧ Row2 wq g c) (fun i _ => n - (intOf i).toNat)
      case atStart => exact ⟨0, Nat.zero_le _, rfl, HGR.out, HROW.out⟩
      case round =>
        obtain ⟨q, hq, rfl, hgq, hrq⟩ := hrel
        have HGQ : Hid (w.grownBy wr (some g)) := hgq
        have HRQ : Hid (Row2 wr g c) := hrq
        clear hgq hrq HROW HGR
        by_cases hlt : q < n
        · obtain ⟨v0, v1, c0, c1, f0, f1⟩ := HRQ.out.cells q (by omega)
          have hi : (q : Int) < (n : Int) := by omega
          go_wp2
          go_roundw
          case rel => exact ⟨q + 1, by omega, by go_num, gb_trans HGQ.out (gb_sput wr g q) (fun j hj => .inr hj), HRQ.out.sput g q⟩
          case measure => simp [intOf]; omega
        · go_wp2
          go_end0
          exact ⟨rfl, HGQ.out⟩

set_option maxHeartbeats 1000000 in
theorem lspoil_grow (g base n : Nat) (ls : List Lab) (w : World) (ho : LOwn w base g n n ls) (hn : n ≤ 4398046511000) :
    Calls Try.prog 27 #[.slice (some ⟨g, 0, none⟩) n n] w fun e w' => e = .returned (.tuple #[]) ∧ w.grownBy w' (some g) := by
  obtain ⟨i0, z, hi, hz0, hz1, hz2, hz3⟩ := labT.info
  have HO : Hid (LOwn w base g n n ls) := ho
  have HL : Hid ((labE.flat ls).length = n * 2) := ho.1
  have HOL : Hid (∀ b, some (⟨g, 0, none⟩ : Addr) = some b → ∀ j u, (labE.flat ls)[j]? = some u → (w.alloc (.cells (labE.flat [(spoilt, spoilt)]).toArray 52)).cell? (b.add j) = some u) := by
    intro b hb j u hj
    cases hb
    exact SRd.news (ho.rd.grown (World.grownBy_alloc w _ none) (by simp)) j u hj
  clear ho
  go_enter Try.func27, Try.ntmps27
  go_wp2_with (at_builtin; refine wpList_append_grows _ rfl (.tmp 5) (.tmp 7) 22 rfl 52 i0 z 2 32 labT.under hi hz0 hz1 hz2 hz3 (by decide) (some ⟨g, 0, none⟩) n n (labE.flat ls) rfl (by simp) HL.out HOL.out ⟨w.heap.size, 0, none⟩ 1 1 (labE.flat [(spoilt, spoilt)]) rfl rfl (SRd.news (llit w [(spoilt, spoilt)])) (labE.flat_one _) (by omega) (by unfold maxLen; omega) (by omega) ?_; intro v' w1 hown hg1; obtain ⟨g1, c1, rfl, hge1, hlt1, hc1, hcm1⟩ := SOwn.some (E := labE) (l := ls ++ [(spoilt, spoilt)]) (show SOwn labE 52 w1 _ v' (n + 1) (ls ++ [(spoilt, spoilt)]) by unfold SOwn; rw [labE.flat_app]; exact hown) (fun e => by rw [e] at hown; rcases hown.2 with ⟨_, h⟩ | ⟨_, _, _, h, _⟩ <;> simp at h))
  have HG1 : Hid (w.grownBy w1 none) := gb_trans (World.grownBy_alloc w _ none) hg1 (by simp)
  have HR1 : Hid (Row2 w1 g1 c1) := by
    have h : LOwn w1 (w.alloc (.cells (labE.flat [(spoilt, spoilt)]).toArray 52)).heap.size g1 (n + 1) c1 (ls ++ [(spoilt, spoilt)]) := by
      unfold LOwn SOwn
      rw [labE.flat_app]
      exact hown
    exact h.row2
  have HGe : Hid (w.heap.size ≤ g1) := Nat.le_trans (World.grownBy_alloc w _ none).size hge1
  have hcm : (c1 : Int) ≤ 9223372036854775807 := by unfold maxLen at hcm1; omega
  clear hown hg1 hge1 hlt1 hcm1
  go_loopw [3] (fun i wr => ∃ k : Nat, k ≤ n + 1 ∧ i = .int .i64 k ∧ w.grownBy wr none ∧ Row2 wr g1 c1) (fun i _ => n + 1 - (intOf i).toNat)
  case atStart => exact ⟨0, Nat.zero_le _, rfl, HG1.out, HR1.out⟩
  case round =>
    obtain ⟨k, hk, rfl, hgr, hrow⟩ := hrel
    have HGR : Hid (w.grownBy wr none) := hgr
    have HROW : Hid (Row2 wr g1 c1) := hrow
    clear hgr hrow HG1 HR1
    by_cases hlt : k < n + 1
    · obtain ⟨v0, v1, c0, c1, f0, f1⟩ := HROW.out.cells k (by omega)
      have hi : (k : Int) < (n : Int) + 1 := by omega
      go_wp2
      go_roundw
      case rel => exact ⟨k + 1, by omega, by go_num, gb_trans HGR.out (gb_sput wr g1 k) (fun j hj => .inl (by simp at hj; have := HGe.out; omega)), HROW.out.sput g1 k⟩
      case measure => simp [intOf]; omega
    · have HRA : Hid (Row2 wr g n) := HO.out.row2.kept HGR.out (by simp)
      clear HROW
      go_wp2
      go_loopw [4] (fun i wq => ∃ k : Nat, k ≤ n ∧ i = .int .i64 k ∧ w.grownBy wq (some g) ∧ Row2 wq g n) (fun i _ => n - (intOf i).toNat)
      case atStart => exact ⟨0, Nat.zero_le _, rfl, gb_any HGR.out _, HRA.out⟩
      case round =>
        obtain ⟨q, hq, rfl, hgq, hrq⟩ := hrel
        have HGQ : Hid (w.grownBy wr (some g)) := hgq
        have HRQ : Hid (Row2 wr g n) := hrq
        clear hgq hrq HRA HGR
        by_cases hlt : q < n
        · obtain ⟨v0, v1, c0, c1, f0, f1⟩ := HRQ.out.cells q (by omega)
          have hi : (q : Int) < (n : Int) := by omega
          go_wp2
          go_roundw
          case rel => exact ⟨q + 1, by omega, by go_num, gb_trans HGQ.out (gb_sput wr g q) (fun j hj => .inr hj), HRQ.out.sput g q⟩
          case measure => simp [intOf]; omega
        · go_wp2
          go_end0
          exact ⟨rfl, HGQ.out⟩

set_option maxHeartbeats 1000000 in
theorem lspoil_nil (w : World) :
    Calls Try.prog 27 #[.slice none 0 0] w fun e w' => e = .returned (.tuple #[]) ∧ w.grownBy w' none := by
  obtain ⟨i0, z, hi, hz0, hz1, hz2, hz3⟩ := labT.info
  go_enter Try.func27, Try.ntmps27
  go_wp2_with (at_builtin; refine wpList_append_grows _ rfl (.tmp 5) (.tmp 7) 22 rfl 52 i0 z 2 32 labT.under hi hz0 hz1 hz2 hz3 (by decide) none 0 0 (labE.flat []) rfl (by simp) rfl (by simp) ⟨w.heap.size, 0, none⟩ 1 1 (labE.flat [(spoilt, spoilt)]) rfl rfl (SRd.news (llit w [(spoilt, spoilt)])) (labE.flat_one _) (by omega) (by unfold maxLen; omega) (by omega) ?_; intro v' w1 hown hg1; obtain ⟨g1, c1, rfl, hge1, hlt1, hc1, hcm1⟩ := SOwn.some (E := labE) (l := [] ++ [(spoilt, spoilt)]) (show SOwn labE 52 w1 _ v' (0 + 1) ([] ++ [(spoilt, spoilt)]) by unfold SOwn; rw [labE.flat_app]; exact hown) (fun e => by rw [e] at hown; rcases hown.2 with ⟨_, h⟩ | ⟨_, _, _, h, _⟩ <;> simp at h))
  have HG1 : Hid (w.grownBy w1 none) := gb_trans (World.grownBy_alloc w _ none) hg1 (by simp)
  have HR1 : Hid (Row2 w1 g1 c1) := by
    have h : LOwn w1 (w.alloc (.cells (labE.flat [(spoilt, spoilt)]).toArray 52)).heap.size g1 (1) c1 ([] ++ [(spoilt, spoilt)]) := by
      unfold LOwn SOwn
      rw [labE.flat_app]
      exact hown
    exact h.row2
  have HGe : Hid (w.heap.size ≤ g1) := Nat.le_trans (World.grownBy_alloc w _ none).size hge1
  have hcm : (c1 : Int) ≤ 9223372036854775807 := by unfold maxLen at hcm1; omega
  clear hown hg1 hge1 hlt1 hcm1
  go_loopw [3] (fun i wr => ∃ k : Nat, k ≤ 1 ∧ i = .int .i64 k ∧ w.grownBy wr none ∧ Row2 wr g1 c1) (fun i _ => 1 - (intOf i).toNat)
  case atStart => exact ⟨0, Nat.zero_le _, rfl, HG1.out, HR1.out⟩
  case round =>
    obtain ⟨k, hk, rfl, hgr, hrow⟩ := hrel
    have HGR : Hid (w.grownBy wr none) := hgr
    have HROW : Hid (Row2 wr g1 c1) := hrow
    clear hgr hrow HG1 HR1
    by_cases hlt : k < 1
    · obtain ⟨v0, v1, c0, c1, f0, f1⟩ := HROW.out.cells k (by omega)
      have hi : (k : Int) < 1 := by omega
      go_wp2
      go_roundw
      case rel => exact ⟨k + 1, by omega, by go_num, gb_trans HGR.out (gb_sput wr g1 k) (fun j hj => .inl (by simp at hj; have := HGe.out; omega)), HROW.out.sput g1 k⟩
      case measure => simp [intOf]; omega
    · clear HROW
      go_wp2
      refine wp_loop_rounds 1 ?_
      rw [rounds_succ]
      go_wp2
      go_end0
      exact ⟨rfl, HGR.out⟩

/-- SpoilLabels of what a call made. -/
theorem lspoil (a : Option Addr) (base n c : Nat) (ls : List Lab) (w : World) (ho : SOwn labE 52 w base (.slice a n c) n ls) (hn : n ≤ 4398046511000) :
    Calls Try.prog 27 #[.slice a n c] w fun e w' => e = .returned (.tuple #[]) ∧ w.grownBy w' (Value.slice a n c).ownBlock := by
  rcases ho.2 with ⟨h', h0⟩ | ⟨g, cap, cur, h', h1, h2, h3, h4, h5, h6⟩
  · simp only [Value.slice.injEq] at h'
    obtain ⟨rfl, rfl, rfl⟩ := h'
    exact lspoil_nil w
  · simp only [Value.slice.injEq] at h'
    obtain ⟨rfl, _, rfl⟩ := h'
    by_cases hc : n + 1 ≤ c
    · exact lspoil_fits g base n c ls w ho hc hn
    · obtain rfl : c = n := by omega
      exact lspoil_grow g base c ls w ho hn
end Go.Proofs.Ytailaehpgmpaaaa
