/- Slices of points: copied, lent, held against one another, kept. -/
import Derived.Test.YteahhkpbjkcmhaaDoorMs
namespace Go.Proofs.YteahhkpbjkcmhaaDoor
open Go.ChangeShapes Go.WideShapes Go.ChangeAt Go.RowKit
set_option linter.unusedVariables false
set_option maxRecDepth 20000

abbrev Pnt := Int × Int
def pntE : Elem Pnt where
  cells q := [.int .i64 q.1, .int .u64 q.2]
  size := 2
  pos := by decide
  len _ := rfl
  one q v h := by
    simp only [List.mem_cons, List.mem_nil_iff, or_false] at h
    rcases h with rfl | rfl <;> rfl
theorem info41 : (Tryd.prog.info? 41).map (fun i => (i.zero, i.size, i.bytes)) = some (some (.agg #[.int .i64 0, .int .u64 0]), 2, 16) := by kernel_rfl
theorem pntET : ElemOf pntE Tryd.prog 22 41 16 := by
  obtain ⟨i0, hi, hz0, hz1, hz2⟩ := info_parts info41
  exact ⟨Tryd.underlying22, i0, _, hi, hz0, hz1, hz2, rfl⟩
/-- A slice that the call made. -/
def POwn (w : World) (base g n cap : Nat) (ls : List Pnt) : Prop := SOwn pntE 41 w base (.slice (some ⟨g, 0, none⟩) n cap) n ls
theorem POwn.ge {w : World} {base g n cap : Nat} {ls : List Pnt} (h : POwn w base g n cap ls) : base ≤ g ∧ g < w.heap.size := SOwn.block h g rfl
theorem POwn.cap {w : World} {base g n cap : Nat} {ls : List Pnt} (h : POwn w base g n cap ls) : n ≤ cap ∧ cap ≤ maxLen := by
  obtain ⟨g', c', e, _, _, h1, h2⟩ := SOwn.some h (by simp)
  simp only [Value.slice.injEq] at e
  obtain ⟨_, _, rfl⟩ := e
  exact ⟨h1, h2⟩
theorem POwn.len {w : World} {base g n cap : Nat} {ls : List Pnt} (h : POwn w base g n cap ls) : ls.length = n := SOwn.len h
theorem POwn.rd {w : World} {base g n cap : Nat} {ls : List Pnt} (h : POwn w base g n cap ls) : SRd pntE w (some ⟨g, 0, none⟩) ls := SOwn.rd h
theorem POwn.kept {w w' : World} {row : Option Nat} {base g n cap : Nat} {ls : List Pnt} (h : POwn w base g n cap ls) (hg : w.grownBy w' row) (hne : some g ≠ row) : POwn w' base g n cap ls :=
  SOwn.kept h hg (.inr (by simpa [Value.ownBlock] using hne))
theorem POwn.of {w : World} {base n : Nat} {v : Value} {ls : List Pnt} (h : SOwn pntE 41 w base v n ls) (hn : v ≠ .slice none 0 0) : ∃ g cap, v = .slice (some ⟨g, 0, none⟩) n cap ∧ POwn w base g n cap ls := by
  obtain ⟨g, cap, rfl, _⟩ := SOwn.some h hn
  exact ⟨g, cap, rfl, h⟩
theorem plit (w : World) (ls : List Pnt) : SRd pntE (w.alloc (.cells (pntE.flat ls).toArray 41)) (some ⟨w.heap.size, 0, none⟩) ls := by
  refine .inr ⟨w.heap.size, 0, rfl, fun j v hj => ?_⟩
  rw [Nat.zero_add, cell_of_row _ w.heap.size j _ 41 _ (heap_alloc_new w _)]
  simpa using hj

theorem pcopy (a : Option Addr) (ls : List Pnt) (L cap : Nat) (w : World) (hr : SRd pntE w a ls) (hL : ls.length = L) (hnil : a = none → cap = 0) (hz : L ≤ 8796093022204) :
    Calls Tryd.prog 13 #[.slice a L cap] w fun e w' => ∃ g c, e = .returned (.slice (some ⟨g, 0, none⟩) L c) ∧ POwn w' w.heap.size g L c ls ∧ w.grownBy w' none := by
  have HR : Hid (SRd pntE w a ls) := hr
  have HL : Hid (ls.length = L) := hL
  have HN : Hid (a = none → cap = 0) := hnil
  clear hr hL hnil
  go_enter Tryd.func13, Tryd.ntmps13
  go_wp2_with (at_builtin; refine wpList_append_s pntET rfl (.tmp 3) (.tmp 4) rfl w.heap.size (.slice (some ⟨w.heap.size, 0, none⟩) 0 0) 0 [] rfl (SOwn.empty pntE 41 w) a ls L cap rfl HL.out (HR.out.grown (World.grownBy_alloc w _ none) (by simp)) HN.out (by omega) (by unfold maxLen; omega) (Nat.le_of_lt (by rw [show ((w.alloc (.cells #[] 41)).heap.size) = w.heap.size + 1 from Array.size_push _]; omega)) ?_; intro v1 w1 ho1 hg1 hn1)
  go_ret
  rw [List.nil_append, Nat.zero_add] at ho1
  obtain ⟨g, c, rfl, ho⟩ := POwn.of ho1 (fun e => by simpa using (hn1 e).1)
  exact ⟨g, c, rfl, ho, gb_trans (World.grownBy_alloc w _ none) hg1 (fun i hi => .inl (by simp [Value.ownBlock] at hi; omega))⟩

theorem neq41 (x0 : Int) (x1 : Int) (y0 : Int) (y1 : Int) (w : World) : (binOp .neq 41 (.agg #[.int .i64 x0, .int .u64 x1]) (.agg #[.int .i64 y0, .int .u64 y1])).run Tryd.prog w = .ok (.bool (!decide (((x0, x1) : Pnt) = (y0, y1)))) w := by
  have h : (Op.equal 41 (.agg #[.int .i64 x0, .int .u64 x1]) (.agg #[.int .i64 y0, .int .u64 y1])).run Tryd.prog w = .ok (decide (((x0, x1) : Pnt) = (y0, y1))) w := by
    have hf : (Tryd.prog.fieldsOf 41).toList.map (fun f => (f.type, f.offset)) = [(2, 0), (38, 1)] := by kernel_rfl
    have hn : (Tryd.prog.fieldsOf 41).toList.all (fun f => f.name != "_") = true := by kernel_rfl
    have hu : Tryd.prog.underlying 41 = some (.struct (Tryd.prog.fieldsOf 41)) := by kernel_rfl
    have hp : Tryd.prog.stoodInHeld 41 = false := by kernel_rfl
    simp only [Op.equal]
    rw [show Op.maxDepth = 9999 + 1 from rfl, run_equalIn_struct w 9999 41 _ _ hu hp]
    generalize (Tryd.prog.fieldsOf 41).toList = fs at hf hn
    have hl : fs.length = 2 := by simpa using congrArg List.length hf
    obtain ⟨f0, f1, rfl⟩ : ∃ f0 f1, fs = [f0, f1] := by
      match fs, hl with
      | [f0, f1], _ => exact ⟨f0, f1, rfl⟩
    simp only [List.map_cons, List.map_nil, List.cons.injEq, Prod.mk.injEq, and_true] at hf
    simp only [List.all_cons, List.all_nil, Bool.and_true, Bool.and_eq_true, bne_iff_ne] at hn
    obtain ⟨⟨a0, b0⟩, ⟨a1, b1⟩⟩ := hf
    have p0 : ∀ (z0 : Int) (z1 : Int) (w : World), (part 2 #[.int .i64 z0, .int .u64 z1] 0).run Tryd.prog w = .ok (.int .i64 z0) w := fun z0 z1 w => by simp [part, go_sem]
    have p1 : ∀ (z0 : Int) (z1 : Int) (w : World), (part 38 #[.int .i64 z0, .int .u64 z1] 1).run Tryd.prog w = .ok (.int .u64 z1) w := fun z0 z1 w => by simp [part, go_sem]
    have q0 : ∀ (x y : Int) (w : World), (Op.equalIn 9999 2 (.int .i64 x) (.int .i64 y)).run Tryd.prog w = .ok (decide (x = y)) w := fun x y w => by rw [run_equalIn_int w 9998 2 .i64 _ x y Tryd.underlying2]; congr 1
    have q1 : ∀ (x y : Int) (w : World), (Op.equalIn 9999 38 (.int .u64 x) (.int .u64 y)).run Tryd.prog w = .ok (decide (x = y)) w := fun x y w => by rw [run_equalIn_int w 9998 38 .u64 _ x y Tryd.underlying38]; congr 1
    by_cases e0 : x0 = y0 <;> by_cases e1 : x1 = y1 <;> simp [Op.eqFields, hn.1, hn.2, a0, b0, a1, b1, p0, e0, p1, e1, q0, q1]
  simp [binOp, h]
theorem psame_len (a b : Option Addr) (L M : Nat) (c d : Nat) (w : World) (hne : ¬ L = M) :
    Calls Tryd.prog 22 #[.slice a L c, .slice b M d] w fun e w' => e = .returned (.bool false) ∧ w = w' := by
  have h : ((L : Int) != (M : Int)) = true := by simp; omega
  go_enter Tryd.func22, Tryd.ntmps22
  go_wp2
  go_ret
  exact ⟨rfl, rfl⟩
set_option maxHeartbeats 1000000 in
theorem psame_loop (a b : Option Addr) (xs ys : List Pnt) (c d : Nat) (w : World) (hx : SRd pntE w a xs) (hy : SRd pntE w b ys) (hl : ys.length = xs.length) (hz : xs.length ≤ 8796093022208) :
    Calls Tryd.prog 22 #[.slice a xs.length c, .slice b xs.length d] w fun e w' => e = .returned (.bool (decide (xs = ys))) ∧ ∃ n, w' = w.drewN n := by
  have HX : Hid (SRd pntE w a xs) := hx
  have HY : Hid (SRd pntE w b ys) := hy
  have HE : Hid (∀ k, k < xs.length → xs[k]? ≠ ys[k]? → decide (xs = ys) = false) := by
    intro k hk hne
    simp only [decide_eq_false_iff_not]
    intro h
    rw [h] at hne
    exact hne rfl
  have HF : Hid ((∀ j, j < xs.length → xs[j]? = ys[j]?) → decide (xs = ys) = true) := fun h => by
    simp only [decide_eq_true_eq]
    apply List.ext_getElem?
    intro j
    by_cases hj : j < xs.length
    · exact h j hj
    · rw [List.getElem?_eq_none (by omega), List.getElem?_eq_none (by omega)]
  have HM : Hid (ys.length = xs.length) := hl
  obtain ⟨L, hL⟩ : ∃ L, L = xs.length := ⟨_, rfl⟩
  have H5 : Hid (L = xs.length) := hL
  obtain ⟨res, hres⟩ : ∃ r, r = decide (xs = ys) := ⟨_, rfl⟩
  have HRes : Hid (res = decide (xs = ys)) := hres
  rw [← hL] at hz ⊢
  rw [← hres]
  clear hx hy hl hL hres
  go_enter Tryd.func22, Tryd.ntmps22
  go_wp2
  go_loopw [5] (fun i wr => ∃ k : Nat, k ≤ L ∧ i = .int .i64 k ∧ (∃ n, wr = w.drewN n) ∧ ∀ j, j < k → xs[j]? = ys[j]?) (fun i _ => L - (intOf i).toNat)
  case atStart => exact ⟨0, Nat.zero_le _, rfl, ⟨0, rfl⟩, fun j h => by omega⟩
  case round =>
    obtain ⟨k, hk, rfl, ⟨m, rfl⟩, hall⟩ := hrel
    have HA : Hid (∀ j, j < k → xs[j]? = ys[j]?) := hall
    clear hall
    by_cases hlt : k < L
    · have h5 := H5.out
      have h6 := HM.out
      obtain ⟨ba, offa, rfl, hca⟩ := HX.out.at (by omega)
      obtain ⟨bb, offb, rfl, hcb⟩ := HY.out.at (by omega)
      obtain ⟨⟨x0, x1⟩, ex⟩ : ∃ x, xs[k]? = some x := ⟨_, List.getElem?_eq_getElem (by omega)⟩
      obtain ⟨⟨y0, y1⟩, ey⟩ : ∃ y, ys[k]? = some y := ⟨_, List.getElem?_eq_getElem (by omega)⟩
      have a0 : w.cell? ⟨ba, offa + k * 2, none⟩ = some (.int .i64 x0) := by exact hca k _ 0 _ ex rfl
      have b0 : w.cell? ⟨bb, offb + k * 2, none⟩ = some (.int .i64 y0) := by exact hcb k _ 0 _ ey rfl
      have a1 : w.cell? ⟨ba, offa + k * 2 + 1, none⟩ = some (.int .u64 x1) := by rw [Nat.add_assoc]; exact hca k _ 1 _ ex rfl
      have b1 : w.cell? ⟨bb, offb + k * 2 + 1, none⟩ = some (.int .u64 y1) := by rw [Nat.add_assoc]; exact hcb k _ 1 _ ey rfl
      have EX : Hid (xs[k]? = some (x0, x1)) := ex
      have EY : Hid (ys[k]? = some (y0, y1)) := ey
      have hi : (k : Int) < (L : Int) := by omega
      have hq : ∀ w, _ := neq41 x0 x1 y0 y1
      clear hca hcb ex ey h5 h6
      by_cases hxy : ((x0, x1) : Pnt) = (y0, y1)
      · have hb1 : (!decide (((x0, x1) : Pnt) = (y0, y1))) = false := by simp [hxy]
        rw [hb1] at hq
        have HXY : Hid (((x0, x1) : Pnt) = (y0, y1)) := hxy
        clear hxy hb1
        go_wp2_with fail
        go_quiet (fail)
        go_wp2
        go_roundw
        case rel =>
          refine ⟨k + 1, by omega, by go_num, ⟨_, rfl⟩, fun j hj => ?_⟩
          by_cases hjk : j < k
          · exact HA.out j hjk
          · have : j = k := by omega
            subst this
            rw [EX.out, EY.out, HXY.out]
        case measure => simp [intOf]; omega
      · have hb1 : (!decide (((x0, x1) : Pnt) = (y0, y1))) = true := by
          rw [decide_eq_false hxy]
          rfl
        rw [hb1] at hq
        have HXY : Hid (¬ ((x0, x1) : Pnt) = (y0, y1)) := hxy
        clear hxy hb1
        go_wp2_with fail
        go_quiet (fail)
        go_wp2
        go_ret
        refine ⟨ret_bool ?_, _, drewN_drewN _ _ _⟩
        rw [HRes.out]
        refine (HE.out k (by have := H5.out; omega) ?_).symm
        rw [EX.out, EY.out]
        intro e
        exact HXY.out (Option.some.inj e)
    · go_wp2
      go_ret
      refine ⟨ret_bool ?_, _, rfl⟩
      rw [HRes.out]
      exact (HF.out fun j hj => HA.out j (by have := H5.out; omega)).symm
theorem psame (a b : Option Addr) (xs ys : List Pnt) (L M c d : Nat) (w : World) (hx : SRd pntE w a xs) (hy : SRd pntE w b ys) (hL : xs.length = L) (hM : ys.length = M) (hz : L ≤ 8796093022208) :
    Calls Tryd.prog 22 #[.slice a L c, .slice b M d] w fun e w' => e = .returned (.bool (decide (xs = ys))) ∧ w.grownBy w' none := by
  subst hL
  subst hM
  by_cases hl : xs.length = ys.length
  · rw [← hl]
    refine (psame_loop a b xs ys c d w hx hy hl.symm hz).mono ?_
    rintro e w' ⟨rfl, n, rfl⟩
    exact ⟨rfl, gb_drewN w n⟩
  · have e : decide (xs = ys) = false := by
      simp only [decide_eq_false_iff_not]
      intro h
      exact hl (by rw [h])
    rw [e]
    refine (psame_len a b _ _ c d w hl).mono ?_
    rintro e w' ⟨rfl, rfl⟩
    exact ⟨rfl, World.grownBy.refl _ _⟩

def pmark : Pnt := ((-7), 77)
def psp2 : List Pnt := [pmark, pmark]
theorem plend (a : Option Addr) (ls : List Pnt) (L cap : Nat) (w : World) (hr : SRd pntE w a ls) (hL : ls.length = L) (hnil : a = none → cap = 0) (hz : L ≤ 8796093022204) :
    Calls Tryd.prog 10 #[.slice a L cap] w fun e w' => ∃ g c, e = .returned (.slice (some ⟨g, 0, none⟩) L c) ∧ POwn w' w.heap.size g (L + 2) c (ls ++ psp2) ∧ w.grownBy w' none := by
  have HC := pcopy a ls L cap w hr hL hnil hz
  clear hr hL hnil
  go_enter Tryd.func10, Tryd.ntmps10
  go_wp2_with fail
  refine HC.mono ?_
  rintro e w1 ⟨g, c, rfl, ho, hg⟩
  have HO : Hid (POwn w1 w.heap.size g L c ls) := ho
  have HG : Hid (w.grownBy w1 none) := hg
  clear ho hg
  go_wp2_with (at_builtin; refine wpList_append_s pntET rfl (.tmp 5) (.tmp 8) rfl w.heap.size (.slice (some ⟨g, 0, none⟩) L c) L ls rfl (SOwn.kept HO.out (World.grownBy_alloc w1 _ none) (.inr (by simp [Value.ownBlock]))) (some ⟨w1.heap.size, 0, none⟩) psp2 2 2 rfl rfl (plit w1 psp2) (by simp) (by omega) (by unfold maxLen; omega) (Nat.le_trans HG.out.size (World.grownBy_alloc w1 _ none).size) ?_; intro v2 w2 ho2 hg2 hn2; obtain ⟨g2, c2, rfl, ho3⟩ := POwn.of ho2 (fun e => by simpa using (hn2 e).1); have hc3 := ho3.cap.1)
  go_ret
  refine ⟨g2, c2, by simp, ho3, gb_trans (gb_trans HG.out (World.grownBy_alloc w1 _ none) (by simp)) hg2 (fun i hi => .inl ?_)⟩
  have := HO.out.ge
  simp [Value.ownBlock] at hi
  omega
theorem POwn.head {w : World} {base g n cap : Nat} {xs ys : List Pnt} (h : POwn w base g n cap (xs ++ ys)) : SRd pntE w (some ⟨g, 0, none⟩) xs := by
  rcases h.rd with h | ⟨b, off, e, h⟩
  · simp at h; rw [h.1]; exact .inl rfl
  · refine .inr ⟨b, off, e, fun j v hj => h j v ?_⟩
    rw [pntE.flat_app, List.getElem?_append_left (List.getElem?_eq_some_iff.1 hj).1]
    exact hj
theorem POwn.tail {w : World} {base g n cap : Nat} {xs ys : List Pnt} (h : POwn w base g n cap (xs ++ ys)) : SRd pntE w (some ⟨g, xs.length * 2, none⟩) ys := by
  rcases h.rd with h | ⟨b, off, e, h⟩
  · simp at h; rw [h.2]; exact .inl rfl
  · cases e
    refine .inr ⟨g, xs.length * 2, rfl, fun j v hj => ?_⟩
    have h1 := h (xs.length * 2 + j) v (by
      rw [pntE.flat_app, List.getElem?_append_right (by rw [pntE.flat_len]; exact Nat.le_add_right _ _), pntE.flat_len]
      rw [show xs.length * 2 + j - xs.length * pntE.size = j from by show xs.length * 2 + j - xs.length * 2 = j; omega]
      exact hj)
    rwa [Nat.zero_add] at h1
/-- A row of so many. -/
def PRow (w : World) (g cap : Nat) : Prop := ∃ cur : Array Value, w.heap[g]? = some (.cells cur 41 (0, 0)) ∧ cur.size = cap * 2
theorem POwn.row {w : World} {base g n cap : Nat} {ls : List Pnt} (h : POwn w base g n cap ls) : PRow w g cap := by
  rcases h.2 with ⟨h', _⟩ | ⟨g', cap', cur, h', _, h2, _, _, h5, h6⟩
  · simp at h'
  · simp only [Value.slice.injEq, Option.some.injEq, Addr.mk.injEq] at h'
    obtain ⟨⟨rfl, _⟩, _, rfl⟩ := h'
    exact ⟨cur, h2, h5⟩
theorem PRow.cells {w : World} {g cap : Nat} (h : PRow w g cap) (j : Nat) (hj : j < cap * 2) : (∃ v, w.cell? ⟨g, j, none⟩ = some v) ∧ w.frozen? ⟨g, j, none⟩ = false := by
  obtain ⟨cur, h1, h2⟩ := h
  exact ⟨⟨_, by rw [cell_of_row w g _ cur 41 _ h1, Array.getElem?_eq_getElem (by omega)]⟩, by simp [World.frozen?, h1]⟩
theorem PRow.set {w : World} {g cap : Nat} (h : PRow w g cap) (j : Nat) (v : Value) : PRow (w.setCell ⟨g, j, none⟩ v) g cap := by
  obtain ⟨cur, h1, h2⟩ := h
  exact ⟨cur.setIfInBounds j v, by rw [setCell_eq_setRow w g j cur 41 (0, 0) v h1, setRow_heap w g cur _ 41 _ h1], by simpa using h2⟩

set_option maxHeartbeats 1000000 in
theorem pkept (a : Option Addr) (ls : List Pnt) (base g L c cap : Nat) (w : World) (hr : SRd pntE w a ls) (hL : ls.length = L) (ho : POwn w base g (L + 2) c (ls ++ psp2)) (hz : L ≤ 8796093022204) :
    Calls Tryd.prog 12 #[.slice (some ⟨g, 0, none⟩) L c, .slice a L cap] w fun e w' => e = .returned (.bool true) ∧ w.grownBy w' (some g) := by
  have HR : Hid (SRd pntE w a ls) := hr
  have HO : Hid (POwn w base g (L + 2) c (ls ++ psp2)) := ho
  have hcap := ho.cap.1
  have hcap2 : (c : Int) ≤ 9223372036854775807 := by have := ho.cap.2; unfold maxLen at this; omega
  have h1 : Hid (SRd pntE w (some ⟨g, 0, none⟩) ls) := ho.head
  have h2 : Hid (SRd pntE w (some ⟨g, L * 2, none⟩) psp2) := by have := ho.tail; rwa [hL] at this
  have H5 : Hid (ls.length = L) := hL
  clear hr hL ho
  go_enter Tryd.func12, Tryd.ntmps12
  go_wp2_with fail
  refine (psame (some ⟨g, 0, none⟩) a ls ls L L c cap _ h1.out HR.out H5.out H5.out (by omega)).mono ?_
  rintro e w1 ⟨rfl, hg1⟩
  have htt : decide (ls = ls) = true := by simp
  rw [htt]
  clear htt
  have HG1 : Hid (w.grownBy w1 none) := hg1
  clear hg1
  go_wp2_with fail
  have HL2 : Hid (SRd pntE (w1.alloc (.cells #[.int .i64 (-7), .int .u64 77, .int .i64 (-7), .int .u64 77] 41)) (some ⟨w1.heap.size, 0, none⟩) psp2) := plit w1 psp2
  have HGA : Hid (w.grownBy (w1.alloc (.cells #[.int .i64 (-7), .int .u64 77, .int .i64 (-7), .int .u64 77] 41)) none) := HG1.out.trans (World.grownBy_alloc w1 _ none)
  refine (psame (some ⟨g, L * 2, none⟩) (some ⟨w1.heap.size, 0, none⟩) psp2 psp2 2 2 (c - L) 2 _ (h2.out.grown HGA.out (by simp)) HL2.out rfl rfl (by omega)).mono ?_
  rintro e w2 ⟨rfl, hg2⟩
  have htt : decide (psp2 = psp2) = true := by simp
  rw [htt]
  clear htt
  have HG : Hid (w.grownBy w2 none) := HGA.out.trans hg2
  have HR2 : Hid (PRow w2 g c) := (HO.out.kept HG.out (by simp)).row
  clear hg2 HGA HL2 HG1 HO HR h1 h2
  go_wp2
  go_loopw [7] (fun i wr => ∃ k : Nat, k ≤ L + 2 ∧ i = .int .i64 k ∧ w2.grownBy wr (some g) ∧ PRow wr g c) (fun i _ => L + 2 - (intOf i).toNat)
  case atStart => exact ⟨0, Nat.zero_le _, rfl, World.grownBy.refl _ _, HR2.out⟩
  case round =>
    obtain ⟨k, hk, rfl, hgr, hrow⟩ := hrel
    have HGR : Hid (w2.grownBy wr (some g)) := hgr
    by_cases hlt : k < L + 2
    · obtain ⟨⟨v0, c0⟩, f0⟩ := hrow.cells (k * 2) (by omega)
      obtain ⟨⟨v1, c1⟩, f1⟩ := hrow.cells (k * 2 + 1) (by omega)
      have HRow3 : Hid (PRow ((wr.setCell ⟨g, k * 2, none⟩ (.int .i64 (-7))).setCell ⟨g, k * 2 + 1, none⟩ (.int .u64 77)) g c) := (hrow.set _ _).set _ _
      have HG3 : Hid (wr.grownBy ((wr.setCell ⟨g, k * 2, none⟩ (.int .i64 (-7))).setCell ⟨g, k * 2 + 1, none⟩ (.int .u64 77)) (some g)) := gb_trans (gb_set rfl) (gb_set rfl) (fun j hj => .inr hj)
      have hi : (k : Int) < (L : Int) + 2 := by omega
      clear hgr hrow
      go_wp2
      go_roundw
      case rel => exact ⟨k + 1, by omega, by go_num, gb_trans HGR.out HG3.out (fun j hj => .inr hj), HRow3.out⟩
      case measure => simp [intOf]; omega
    · clear hgr hrow
      go_wp2
      go_ret
      exact ⟨rfl, gb_trans (gb_any HG.out _) HGR.out (fun j hj => .inr hj)⟩
end Go.Proofs.YteahhkpbjkcmhaaDoor
