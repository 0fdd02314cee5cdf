/- Slices of labels: copied, lent, held against one another, kept, spoilt. -/
import Derived.Test.YtailaehpgmpaaabSlot
import Derived.Test.YtailaehpgmpaaabBytes
namespace Go.Proofs.Ytailaehpgmpaaab
open Go.ChangeShapes Go.WideShapes Go.ChangeAt Go.RowKit
set_option linter.unusedVariables false
set_option maxRecDepth 20000

abbrev Lab := ByteArray × ByteArray
def labE : Elem Lab where
  cells p := [.string p.1, .string p.2]
  size := 2
  pos := by decide
  len _ := rfl
  one p v h := by
    simp only [List.mem_cons, List.mem_nil_iff, or_false] at h
    rcases h with rfl | rfl <;> rfl
theorem info27 : (Try.prog.info? 27).map (fun i => (i.zero, i.size, i.bytes)) = some (some (.agg #[.string ⟨#[]⟩, .string ⟨#[]⟩]), 2, 32) := by kernel_rfl
theorem labT : ElemOf labE Try.prog 28 27 32 := by
  obtain ⟨i0, hi, hz0, hz1, hz2⟩ := info_parts info27
  exact ⟨Try.underlying28, i0, _, hi, hz0, hz1, hz2, rfl⟩

/-- A slice of labels that the call made. -/
def LOwn (w : World) (base g n cap : Nat) (ls : List Lab) : Prop := SOwn labE 27 w base (.slice (some ⟨g, 0, none⟩) n cap) n ls
theorem LOwn.ge {w : World} {base g n cap : Nat} {ls : List Lab} (h : LOwn w base g n cap ls) : base ≤ g ∧ g < w.heap.size := SOwn.block h g rfl
theorem LOwn.cap {w : World} {base g n cap : Nat} {ls : List Lab} (h : LOwn w base g n cap ls) : n ≤ cap ∧ cap ≤ maxLen := by
  obtain ⟨g', c', e, _, _, h1, h2⟩ := SOwn.some h (by simp)
  simp only [Value.slice.injEq] at e
  obtain ⟨_, _, rfl⟩ := e
  exact ⟨h1, h2⟩
theorem LOwn.len {w : World} {base g n cap : Nat} {ls : List Lab} (h : LOwn w base g n cap ls) : ls.length = n := SOwn.len h
theorem LOwn.rd {w : World} {base g n cap : Nat} {ls : List Lab} (h : LOwn w base g n cap ls) : SRd labE w (some ⟨g, 0, none⟩) ls := SOwn.rd h
theorem LOwn.kept {w w' : World} {row : Option Nat} {base g n cap : Nat} {ls : List Lab} (h : LOwn w base g n cap ls) (hg : w.grownBy w' row) (hne : some g ≠ row) : LOwn w' base g n cap ls :=
  SOwn.kept h hg (.inr (by simpa [Value.ownBlock] using hne))
theorem LOwn.of {w : World} {base n : Nat} {v : Value} {ls : List Lab} (h : SOwn labE 27 w base v n ls) (hn : v ≠ .slice none 0 0) : ∃ g cap, v = .slice (some ⟨g, 0, none⟩) n cap ∧ LOwn w base g n cap ls := by
  obtain ⟨g, cap, rfl, _⟩ := SOwn.some h hn
  exact ⟨g, cap, rfl, h⟩

theorem lsame_len (a b : Option Addr) (L M : Nat) (c d : Nat) (w : World) (hne : ¬ L = M) :
    Calls Try.prog 13 #[.slice a L c, .slice b M d] w fun e w' => e = .returned (.bool false) ∧ w = w' := by
  have h : ((L : Int) != (M : Int)) = true := by simp; omega
  go_enter Try.func13, Try.ntmps13
  go_wp2
  go_ret
  exact ⟨rfl, rfl⟩
theorem str_eq (x y : ByteArray) : (x.toList == y.toList) = decide (x = y) := by
  rw [Bool.eq_iff_iff]
  simp only [beq_iff_eq, decide_eq_true_eq]
  constructor
  · intro h
    rw [ByteArray.toList_eq, ByteArray.toList_eq] at h
    exact ByteArray.ext (Array.toList_inj.1 h)
  · intro h; rw [h]
theorem neq27 (s1 s2 t1 t2 : ByteArray) (w : World) : (binOp .neq 27 (.agg #[.string s1, .string s2]) (.agg #[.string t1, .string t2])).run Try.prog w = .ok (.bool (!decide ((s1, s2) = (t1, t2)))) w := by
  have h : (Op.equal 27 (.agg #[.string s1, .string s2]) (.agg #[.string t1, .string t2])).run Try.prog w = .ok (decide ((s1, s2) = (t1, t2))) w := by
    have hf : (Try.prog.fieldsOf 27).toList.map (fun f => (f.type, f.offset)) = [(9, 0), (9, 1)] := by kernel_rfl
    have hn : (Try.prog.fieldsOf 27).toList.all (fun f => f.name != "_") = true := by kernel_rfl
    have hu : Try.prog.underlying 27 = some (.struct (Try.prog.fieldsOf 27)) := by kernel_rfl
    have hp : Try.prog.stoodInHeld 27 = false := by kernel_rfl
    simp only [Op.equal]
    rw [show Op.maxDepth = 9999 + 1 from rfl, run_equalIn_struct w 9999 27 _ _ hu hp]
    generalize (Try.prog.fieldsOf 27).toList = fs at hf hn
    have hl : fs.length = 2 := by simpa using congrArg List.length hf
    obtain ⟨f1, f2, rfl⟩ : ∃ f1 f2, fs = [f1, f2] := by
      match fs, hl with
      | [f1, f2], _ => exact ⟨f1, f2, rfl⟩
    simp only [List.map_cons, List.map_nil, List.cons.injEq, Prod.mk.injEq, and_true] at hf
    simp only [List.all_cons, List.all_nil, Bool.and_true, Bool.and_eq_true, bne_iff_ne] at hn
    obtain ⟨⟨h1, h2⟩, h3, h4⟩ := hf
    have p0 : ∀ (x y : ByteArray) (w : World), (part 9 #[.string x, .string y] 0).run Try.prog w = .ok (.string x) w := fun x y w => by simp [part, go_sem]
    have p1 : ∀ (x y : ByteArray) (w : World), (part 9 #[.string x, .string y] 1).run Try.prog w = .ok (.string y) w := fun x y w => by simp [part, go_sem]
    have q : ∀ (x y : ByteArray) (w : World), (Op.equalIn 9999 9 (.string x) (.string y)).run Try.prog w = .ok (x.toList == y.toList) w := fun x y w => run_equalIn_string w 9998 9 x y Try.underlying9
    simp only [Op.eqFields, hn.1, hn.2, h1, h2, h3, h4, ne_eq, not_false_eq_true, if_true, Sem.run_bind, p0, q, Result.andThen_ok]
    rw [str_eq]
    by_cases e1 : s1 = t1 <;> by_cases e2 : s2 = t2 <;> simp [e1, e2, p1, q, str_eq]
  simp [binOp, h]

set_option maxHeartbeats 400000 in
theorem lsame_loop (a b : Option Addr) (xs ys : List Lab) (c d : Nat) (w : World) (hx : SRd labE w a xs) (hy : SRd labE w b ys) (hl : ys.length = xs.length) (hz : xs.length ≤ 4398046511104) :
    Calls Try.prog 13 #[.slice a xs.length c, .slice b xs.length d] w fun e w' => e = .returned (.bool (decide (xs = ys))) ∧ ∃ n, w' = w.drewN n := by
  have HX : Hid (SRd labE w a xs) := hx
  have HY : Hid (SRd labE w b ys) := hy
  have HE : Hid (∀ k, k < xs.length → xs[k]? ≠ ys[k]? → decide (xs = ys) = false) := by
    intro k hk hne
    simp only [decide_eq_false_iff_not]
    intro h
    rw [h] at hne
    exact hne rfl
  have HF : Hid ((∀ j, j < xs.length → xs[j]? = ys[j]?) → decide (xs = ys) = true) := fun h => by
    simp only [decide_eq_true_eq]
    apply List.ext_getElem?
    intro j
    by_cases hj : j < xs.length
    · exact h j hj
    · rw [List.getElem?_eq_none (by omega), List.getElem?_eq_none (by omega)]
  have HM : Hid (ys.length = xs.length) := hl
  obtain ⟨L, hL⟩ : ∃ L, L = xs.length := ⟨_, rfl⟩
  have H5 : Hid (L = xs.length) := hL
  obtain ⟨res, hres⟩ : ∃ r, r = decide (xs = ys) := ⟨_, rfl⟩
  have HRes : Hid (res = decide (xs = ys)) := hres
  rw [← hL] at hz ⊢
  rw [← hres]
  clear hx hy hl hL hres
  go_enter Try.func13, Try.ntmps13
  go_wp2
  go_loopw [5] (fun i wr => ∃ k : Nat, k ≤ L ∧ i = .int .i64 k ∧ (∃ n, wr = w.drewN n) ∧ ∀ j, j < k → xs[j]? = ys[j]?) (fun i _ => L - (intOf i).toNat)
  case atStart => exact ⟨0, Nat.zero_le _, rfl, ⟨0, rfl⟩, fun j h => by omega⟩
  case round =>
    obtain ⟨k, hk, rfl, ⟨m, rfl⟩, hall⟩ := hrel
    have HA : Hid (∀ j, j < k → xs[j]? = ys[j]?) := hall
    clear hall
    by_cases hlt : k < L
    · have h5 := H5.out
      have h6 := HM.out
      obtain ⟨ba, offa, rfl, hca⟩ := HX.out.at (by omega)
      obtain ⟨bb, offb, rfl, hcb⟩ := HY.out.at (by omega)
      obtain ⟨⟨s1, s2⟩, ex⟩ : ∃ x, xs[k]? = some x := ⟨_, List.getElem?_eq_getElem (by omega)⟩
      obtain ⟨⟨t1, t2⟩, ey⟩ : ∃ y, ys[k]? = some y := ⟨_, List.getElem?_eq_getElem (by omega)⟩
      have a0 : w.cell? ⟨ba, offa + k * 2, none⟩ = some (.string s1) := hca k _ 0 _ ex rfl
      have a1 : w.cell? ⟨ba, offa + k * 2 + 1, none⟩ = some (.string s2) := by rw [Nat.add_assoc]; exact hca k _ 1 _ ex rfl
      have b0 : w.cell? ⟨bb, offb + k * 2, none⟩ = some (.string t1) := hcb k _ 0 _ ey rfl
      have b1 : w.cell? ⟨bb, offb + k * 2 + 1, none⟩ = some (.string t2) := by rw [Nat.add_assoc]; exact hcb k _ 1 _ ey rfl
      have EX : Hid (xs[k]? = some (s1, s2)) := ex
      have EY : Hid (ys[k]? = some (t1, t2)) := ey
      have hi : (k : Int) < (L : Int) := by omega
      have hq : ∀ w, _ := neq27 s1 s2 t1 t2
      clear hca hcb ex ey h5 h6
      by_cases hxy : (s1, s2) = (t1, t2)
      · have hb1 : (!decide ((s1, s2) = (t1, t2))) = false := by simp [hxy]
        rw [hb1] at hq
        have HXY : Hid ((s1, s2) = (t1, t2)) := hxy
        clear hxy hb1
        go_wp2_with fail
        go_quiet (fail)
        go_wp2
        go_roundw
        case rel =>
          refine ⟨k + 1, by omega, by go_num, ⟨_, rfl⟩, fun j hj => ?_⟩
          by_cases hjk : j < k
          · exact HA.out j hjk
          · have : j = k := by omega
            subst this
            rw [EX.out, EY.out, HXY.out]
        case measure => simp [intOf]; omega
      · have hb1 : (!decide ((s1, s2) = (t1, t2))) = true := by simp [hxy]
        rw [hb1] at hq
        have HXY : Hid (¬ (s1, s2) = (t1, t2)) := hxy
        clear hxy hb1
        go_wp2_with fail
        go_quiet (fail)
        go_wp2
        go_ret
        refine ⟨ret_bool ?_, _, drewN_drewN _ _ _⟩
        rw [HRes.out]
        refine (HE.out k (by have := H5.out; omega) ?_).symm
        rw [EX.out, EY.out]
        intro e
        exact HXY.out (Option.some.inj e)
    · go_wp2
      go_ret
      refine ⟨ret_bool ?_, _, rfl⟩
      rw [HRes.out]
      exact (HF.out fun j hj => HA.out j (by have := H5.out; omega)).symm

/-- SameLabels, of any two. -/
theorem lsame (a b : Option Addr) (xs ys : List Lab) (L M c d : Nat) (w : World) (hx : SRd labE w a xs) (hy : SRd labE w b ys) (hL : xs.length = L) (hM : ys.length = M) (hz : L ≤ 4398046511104) :
    Calls Try.prog 13 #[.slice a L c, .slice b M d] w fun e w' => e = .returned (.bool (decide (xs = ys))) ∧ w.grownBy w' none := by
  subst hL
  subst hM
  by_cases hl : xs.length = ys.length
  · rw [← hl]
    refine (lsame_loop a b xs ys c d w hx hy hl.symm hz).mono ?_
    rintro e w' ⟨rfl, n, rfl⟩
    exact ⟨rfl, gb_drewN w n⟩
  · have e : decide (xs = ys) = false := by
      simp only [decide_eq_false_iff_not]
      intro h
      exact hl (by rw [h])
    rw [e]
    refine (lsame_len a b _ _ c d w hl).mono ?_
    rintro e w' ⟨rfl, rfl⟩
    exact ⟨rfl, World.grownBy.refl _ _⟩

def spoilt : ByteArray := ⟨#[115, 112, 111, 105, 108, 116]⟩
def sp2 : List Lab := [(spoilt, spoilt), (spoilt, spoilt)]
theorem llit (w : World) (ls : List Lab) : SRd labE (w.alloc (.cells (labE.flat ls).toArray 27)) (some ⟨w.heap.size, 0, none⟩) ls := by
  refine .inr ⟨w.heap.size, 0, rfl, fun j v hj => ?_⟩
  rw [Nat.zero_add, cell_of_row _ w.heap.size j _ 27 _ (heap_alloc_new w _)]
  simpa using hj

/-- Parts of a slice of labels that the call made. -/
theorem LOwn.head {w : World} {base g n cap : Nat} {xs ys : List Lab} (h : LOwn w base g n cap (xs ++ ys)) : SRd labE w (some ⟨g, 0, none⟩) xs := by
  rcases h.rd with h | ⟨b, off, e, h⟩
  · simp at h; rw [h.1]; exact .inl rfl
  · refine .inr ⟨b, off, e, fun j v hj => h j v ?_⟩
    rw [labE.flat_app, List.getElem?_append_left (List.getElem?_eq_some_iff.1 hj).1]
    exact hj
theorem LOwn.tail {w : World} {base g n cap : Nat} {xs ys : List Lab} (h : LOwn w base g n cap (xs ++ ys)) : SRd labE w (some ⟨g, xs.length * 2, none⟩) ys := by
  rcases h.rd with h | ⟨b, off, e, h⟩
  · simp at h; rw [h.2]; exact .inl rfl
  · cases e
    refine .inr ⟨g, xs.length * 2, rfl, fun j v hj => ?_⟩
    have h1 := h (xs.length * 2 + j) v (by
      rw [labE.flat_app, List.getElem?_append_right (by rw [labE.flat_len]; exact Nat.le_add_right _ _), labE.flat_len]
      rw [show xs.length * 2 + j - xs.length * labE.size = j from by show xs.length * 2 + j - xs.length * 2 = j; omega]
      exact hj)
    rwa [Nat.zero_add] at h1
theorem LOwn.row {w : World} {base g n cap : Nat} {ls : List Lab} (h : LOwn w base g n cap ls) : ∃ cur, w.heap[g]? = some (.cells cur 27 (0, 0)) ∧ cur.size = cap * 2 ∧ cur.toList.take (n * 2) = labE.flat ls := by
  rcases h.2 with ⟨h', _⟩ | ⟨g', cap', cur, h', _, h2, _, _, h5, h6⟩
  · simp at h'
  · simp only [Value.slice.injEq, Option.some.injEq, Addr.mk.injEq] at h'
    obtain ⟨⟨rfl, _⟩, _, rfl⟩ := h'
    exact ⟨cur, h2, h5, h6⟩
theorem gb_setRow (w : World) (g : Nat) (cs : Array Value) : w.grownBy (w.setRow g cs) (some g) := by
  refine ⟨rfl, rfl, rfl, ?_, ?_⟩
  · simp [World.setRow]
  · intro k hk hne
    simp only [World.setRow]
    rw [Array.getElem?_modify]
    have : ¬ g = k := fun e => hne (by rw [e])
    simp [this]
/-- A row of so many labels. -/
def Row2 (w : World) (g cap : Nat) : Prop := ∃ cur : Array Value, w.heap[g]? = some (.cells cur 27 (0, 0)) ∧ cur.size = cap * 2
theorem LOwn.row2 {w : World} {base g n cap : Nat} {ls : List Lab} (h : LOwn w base g n cap ls) : Row2 w g cap := by
  obtain ⟨cur, h1, h2, _⟩ := h.row
  exact ⟨cur, h1, h2⟩
theorem Row2.cells {w : World} {g cap : Nat} (h : Row2 w g cap) (k : Nat) (hk : k < cap) : ∃ v0 v1, w.cell? ⟨g, k * 2, none⟩ = some v0 ∧ w.cell? ⟨g, k * 2 + 1, none⟩ = some v1 ∧ w.frozen? ⟨g, k * 2, none⟩ = false ∧ w.frozen? ⟨g, k * 2 + 1, none⟩ = false := by
  obtain ⟨cur, h1, h2⟩ := h
  refine ⟨_, _, by rw [cell_of_row w g _ cur 27 _ h1, Array.getElem?_eq_getElem (by omega)], by rw [cell_of_row w g _ cur 27 _ h1, Array.getElem?_eq_getElem (by omega)], ?_, ?_⟩ <;> simp [World.frozen?, h1]
theorem Row2.set {w : World} {g cap : Nat} (h : Row2 w g cap) (j : Nat) (v : Value) : Row2 (w.setCell ⟨g, j, none⟩ v) g cap := by
  obtain ⟨cur, h1, h2⟩ := h
  exact ⟨cur.setIfInBounds j v, by rw [setCell_eq_setRow w g j cur 27 (0, 0) v h1, setRow_heap w g cur _ 27 _ h1], by simpa using h2⟩
/-- A label of it is written over. -/
theorem Row2.store {w : World} {g cap : Nat} (h : Row2 w g cap) (k : Nat) (hk : k < cap) (s t : ByteArray) : ∃ w', (storeCells ⟨g, k * 2, none⟩ [.string s, .string t]).run Try.prog w = .ok () w' ∧ Row2 w' g cap ∧ w.grownBy w' (some g) := by
  obtain ⟨cur, h1, h2⟩ := h
  refine ⟨_, run_storeCells_at (P := Try.prog) g (k * 2) 27 [.string s, .string t] 0 cur w h1 (by simp; omega) ?_, ?_, ?_⟩
  · intro v hv
    simp only [List.mem_cons, List.mem_nil_iff, or_false] at hv
    rcases hv with rfl | rfl <;> rfl
  · refine ⟨_, setRow_heap w g cur _ 27 _ h1, ?_⟩
    simp only [List.size_toArray, List.length_append, List.length_take, List.length_drop, Array.length_toList, List.length_cons, List.length_nil]
    omega
  · exact gb_setRow w g _

theorem Row2.other {w : World} {g cap : Nat} (h : Row2 w g cap) (g2 j : Nat) (v : Value) : Row2 (w.setCell ⟨g2, j, none⟩ v) g cap := by
  by_cases e : g2 = g
  · subst e; exact h.set j v
  · obtain ⟨cur, h1, h2⟩ := h
    exact ⟨cur, ((gb_set (w := w) (p := ⟨g2, j, none⟩) (u := v) rfl).block g (Array.getElem?_eq_some_iff.1 h1).1 (fun x => e (Option.some.inj x).symm)).trans h1, h2⟩
abbrev sput (w : World) (g k : Nat) : World := (w.setCell ⟨g, k * 2, none⟩ (.string ⟨#[115, 112, 111, 105, 108, 116]⟩)).setCell ⟨g, k * 2 + 1, none⟩ (.string ⟨#[115, 112, 111, 105, 108, 116]⟩)
theorem gb_sput (w : World) (g k : Nat) : w.grownBy (sput w g k) (some g) := gb_trans (gb_set rfl) (gb_set rfl) (fun j hj => .inr hj)

theorem Row2.kept {w w' : World} {row : Option Nat} {g cap : Nat} (h : Row2 w g cap) (hg : w.grownBy w' row) (hne : some g ≠ row) : Row2 w' g cap := by
  obtain ⟨cur, h1, h2⟩ := h
  exact ⟨cur, (hg.block g (Array.getElem?_eq_some_iff.1 h1).1 hne).trans h1, h2⟩
theorem Row2.sput {w : World} {g cap : Nat} (h : Row2 w g cap) (g2 k : Nat) : Row2 (sput w g2 k) g cap := (h.other g2 _ _).other g2 _ _

end Go.Proofs.Ytailaehpgmpaaab
