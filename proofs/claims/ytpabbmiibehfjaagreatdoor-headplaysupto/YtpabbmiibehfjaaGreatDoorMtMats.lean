/- Slices of matchers: copied, lent, held against one another, kept. -/
import Derived.Test.YtpabbmiibehfjaaGreatDoorGa
import Derived.Test.YtpabbmiibehfjaaGreatDoorGc
namespace Go.Proofs.YtpabbmiibehfjaaGreatDoor.Mt
open Go.ChangeShapes Go.WideShapes Go.ChangeAt Go.RowKit
set_option linter.unusedVariables false
set_option maxRecDepth 20000

abbrev Mat := Int × ByteArray × ByteArray
def matE : Elem Mat where
  cells q := [.int .i64 q.1, .string q.2.1, .string q.2.2]
  size := 3
  pos := by decide
  len _ := rfl
  one q v h := by
    simp only [List.mem_cons, List.mem_nil_iff, or_false] at h
    rcases h with rfl | rfl | rfl <;> rfl
theorem info94 : (Tryz.prog.info? 94).map (fun i => (i.zero, i.size, i.bytes)) = some (some (.agg #[.int .i64 0, .string ⟨#[]⟩, .string ⟨#[]⟩]), 3, 40) := by kernel_rfl
theorem matET : ElemOf matE Tryz.prog 32 94 40 := by
  obtain ⟨i0, hi, hz0, hz1, hz2⟩ := info_parts info94
  exact ⟨Tryz.underlying32, i0, _, hi, hz0, hz1, hz2, rfl⟩
/-- A slice that the call made. -/
def MOwn (w : World) (base g n cap : Nat) (ls : List Mat) : Prop := SOwn matE 94 w base (.slice (some ⟨g, 0, none⟩) n cap) n ls
theorem MOwn.ge {w : World} {base g n cap : Nat} {ls : List Mat} (h : MOwn w base g n cap ls) : base ≤ g ∧ g < w.heap.size := SOwn.block h g rfl
theorem MOwn.cap {w : World} {base g n cap : Nat} {ls : List Mat} (h : MOwn w base g n cap ls) : n ≤ cap ∧ cap ≤ maxLen := by
  obtain ⟨g', c', e, _, _, h1, h2⟩ := SOwn.some h (by simp)
  simp only [Value.slice.injEq] at e
  obtain ⟨_, _, rfl⟩ := e
  exact ⟨h1, h2⟩
theorem MOwn.len {w : World} {base g n cap : Nat} {ls : List Mat} (h : MOwn w base g n cap ls) : ls.length = n := SOwn.len h
theorem MOwn.rd {w : World} {base g n cap : Nat} {ls : List Mat} (h : MOwn w base g n cap ls) : SRd matE w (some ⟨g, 0, none⟩) ls := SOwn.rd h
theorem MOwn.kept {w w' : World} {row : Option Nat} {base g n cap : Nat} {ls : List Mat} (h : MOwn w base g n cap ls) (hg : w.grownBy w' row) (hne : some g ≠ row) : MOwn w' base g n cap ls :=
  SOwn.kept h hg (.inr (by simpa [Value.ownBlock] using hne))
theorem MOwn.of {w : World} {base n : Nat} {v : Value} {ls : List Mat} (h : SOwn matE 94 w base v n ls) (hn : v ≠ .slice none 0 0) : ∃ g cap, v = .slice (some ⟨g, 0, none⟩) n cap ∧ MOwn w base g n cap ls := by
  obtain ⟨g, cap, rfl, _⟩ := SOwn.some h hn
  exact ⟨g, cap, rfl, h⟩
theorem mlit (w : World) (ls : List Mat) : SRd matE (w.alloc (.cells (matE.flat ls).toArray 94)) (some ⟨w.heap.size, 0, none⟩) ls := by
  refine .inr ⟨w.heap.size, 0, rfl, fun j v hj => ?_⟩
  rw [Nat.zero_add, cell_of_row _ w.heap.size j _ 94 _ (heap_alloc_new w _)]
  simpa using hj

theorem mcopy (a : Option Addr) (ls : List Mat) (L cap : Nat) (w : World) (hr : SRd matE w a ls) (hL : ls.length = L) (hnil : a = none → cap = 0) (hz : L ≤ 3518437208879) :
    Calls Tryz.prog 53 #[.slice a L cap] w fun e w' => ∃ g c, e = .returned (.slice (some ⟨g, 0, none⟩) L c) ∧ MOwn w' w.heap.size g L c ls ∧ w.grownBy w' none := by
  have HR : Hid (SRd matE w a ls) := hr
  have HL : Hid (ls.length = L) := hL
  have HN : Hid (a = none → cap = 0) := hnil
  clear hr hL hnil
  go_enter Tryz.func53, Tryz.ntmps53
  go_wp2_with (at_builtin; refine wpList_append_s matET rfl (.tmp 3) (.tmp 4) rfl w.heap.size (.slice (some ⟨w.heap.size, 0, none⟩) 0 0) 0 [] rfl (SOwn.empty matE 94 w) a ls L cap rfl HL.out (HR.out.grown (World.grownBy_alloc w _ none) (by simp)) HN.out (by omega) (by unfold maxLen; omega) (Nat.le_of_lt (by rw [show ((w.alloc (.cells #[] 94)).heap.size) = w.heap.size + 1 from Array.size_push _]; omega)) ?_; intro v1 w1 ho1 hg1 hn1)
  go_ret
  rw [List.nil_append, Nat.zero_add] at ho1
  obtain ⟨g, c, rfl, ho⟩ := MOwn.of ho1 (fun e => by simpa using (hn1 e).1)
  exact ⟨g, c, rfl, ho, gb_trans (World.grownBy_alloc w _ none) hg1 (fun i hi => .inl (by simp [Value.ownBlock] at hi; omega))⟩

theorem neq35 (x0 : Int) (x1 : ByteArray) (x2 : ByteArray) (y0 : Int) (y1 : ByteArray) (y2 : ByteArray) (w : World) : (binOp .neq 94 (.agg #[.int .i64 x0, .string x1, .string x2]) (.agg #[.int .i64 y0, .string y1, .string y2])).run Tryz.prog w = .ok (.bool (!decide (((x0, x1, x2) : Mat) = (y0, y1, y2)))) w := by
  have h : (Op.equal 94 (.agg #[.int .i64 x0, .string x1, .string x2]) (.agg #[.int .i64 y0, .string y1, .string y2])).run Tryz.prog w = .ok (decide (((x0, x1, x2) : Mat) = (y0, y1, y2))) w := by
    have hf : (Tryz.prog.fieldsOf 94).toList.map (fun f => (f.type, f.offset)) = [(3, 0), (9, 1), (9, 2)] := by kernel_rfl
    have hn : (Tryz.prog.fieldsOf 94).toList.all (fun f => f.name != "_") = true := by kernel_rfl
    have hu : Tryz.prog.underlying 94 = some (.struct (Tryz.prog.fieldsOf 94)) := by kernel_rfl
    have hp : Tryz.prog.stoodInHeld 94 = false := by kernel_rfl
    simp only [Op.equal]
    rw [show Op.maxDepth = 9999 + 1 from rfl, run_equalIn_struct w 9999 94 _ _ hu hp]
    generalize (Tryz.prog.fieldsOf 94).toList = fs at hf hn
    have hl : fs.length = 3 := by simpa using congrArg List.length hf
    obtain ⟨f0, f1, f2, rfl⟩ : ∃ f0 f1 f2, fs = [f0, f1, f2] := by
      match fs, hl with
      | [f0, f1, f2], _ => exact ⟨f0, f1, f2, rfl⟩
    simp only [List.map_cons, List.map_nil, List.cons.injEq, Prod.mk.injEq, and_true] at hf
    simp only [List.all_cons, List.all_nil, Bool.and_true, Bool.and_eq_true, bne_iff_ne] at hn
    obtain ⟨⟨a0, b0⟩, ⟨a1, b1⟩, ⟨a2, b2⟩⟩ := hf
    have p0 : ∀ (z0 : Int) (z1 : ByteArray) (z2 : ByteArray) (w : World), (part 3 #[.int .i64 z0, .string z1, .string z2] 0).run Tryz.prog w = .ok (.int .i64 z0) w := fun z0 z1 z2 w => by simp [part, go_sem]
    have p1 : ∀ (z0 : Int) (z1 : ByteArray) (z2 : ByteArray) (w : World), (part 9 #[.int .i64 z0, .string z1, .string z2] 1).run Tryz.prog w = .ok (.string z1) w := fun z0 z1 z2 w => by simp [part, go_sem]
    have p2 : ∀ (z0 : Int) (z1 : ByteArray) (z2 : ByteArray) (w : World), (part 9 #[.int .i64 z0, .string z1, .string z2] 2).run Tryz.prog w = .ok (.string z2) w := fun z0 z1 z2 w => by simp [part, go_sem]
    have q0 : ∀ (x y : Int) (w : World), (Op.equalIn 9999 3 (.int .i64 x) (.int .i64 y)).run Tryz.prog w = .ok (decide (x = y)) w := fun x y w => by rw [run_equalIn_int w 9998 3 .i64 _ x y Tryz.underlying3]; congr 1
    have q1 : ∀ (x y : ByteArray) (w : World), (Op.equalIn 9999 9 (.string x) (.string y)).run Tryz.prog w = .ok (decide (x = y)) w := fun x y w => by rw [run_equalIn_string w 9998 9 x y Tryz.underlying9, str_eq]
    by_cases e0 : x0 = y0 <;> by_cases e1 : x1 = y1 <;> by_cases e2 : x2 = y2 <;> simp [Op.eqFields, hn.1, hn.2.1, hn.2.2, a0, b0, a1, b1, a2, b2, p0, e0, p1, e1, p2, e2, q0, q1]
  simp [binOp, h]
theorem msame_len (a b : Option Addr) (L M : Nat) (c d : Nat) (w : World) (hne : ¬ L = M) :
    Calls Tryz.prog 54 #[.slice a L c, .slice b M d] w fun e w' => e = .returned (.bool false) ∧ w = w' := by
  have h : ((L : Int) != (M : Int)) = true := by simp; omega
  go_enter Tryz.func54, Tryz.ntmps54
  go_wp2
  go_ret
  exact ⟨rfl, rfl⟩
set_option maxHeartbeats 1000000 in
theorem msame_loop (a b : Option Addr) (xs ys : List Mat) (c d : Nat) (w : World) (hx : SRd matE w a xs) (hy : SRd matE w b ys) (hl : ys.length = xs.length) (hz : xs.length ≤ 3518437208883) :
    Calls Tryz.prog 54 #[.slice a xs.length c, .slice b xs.length d] w fun e w' => e = .returned (.bool (decide (xs = ys))) ∧ ∃ n, w' = w.drewN n := by
  have HX : Hid (SRd matE w a xs) := hx
  have HY : Hid (SRd matE w b ys) := hy
  have HE : Hid (∀ k, k < xs.length → xs[k]? ≠ ys[k]? → decide (xs = ys) = false) := by
    intro k hk hne
    simp only [decide_eq_false_iff_not]
    intro h
    rw [h] at hne
    exact hne rfl
  have HF : Hid ((∀ j, j < xs.length → xs[j]? = ys[j]?) → decide (xs = ys) = true) := fun h => by
    simp only [decide_eq_true_eq]
    apply List.ext_getElem?
    intro j
    by_cases hj : j < xs.length
    · exact h j hj
    · rw [List.getElem?_eq_none (by omega), List.getElem?_eq_none (by omega)]
  have HM : Hid (ys.length = xs.length) := hl
  obtain ⟨L, hL⟩ : ∃ L, L = xs.length := ⟨_, rfl⟩
  have H5 : Hid (L = xs.length) := hL
  obtain ⟨res, hres⟩ : ∃ r, r = decide (xs = ys) := ⟨_, rfl⟩
  have HRes : Hid (res = decide (xs = ys)) := hres
  rw [← hL] at hz ⊢
  rw [← hres]
  clear hx hy hl hL hres
  go_enter Tryz.func54, Tryz.ntmps54
  go_wp2
  go_loopw [5] (fun i wr => ∃ k : Nat, k ≤ L ∧ i = .int .i64 k ∧ (∃ n, wr = w.drewN n) ∧ ∀ j, j < k → xs[j]? = ys[j]?) (fun i _ => L - (intOf i).toNat)
  case atStart => exact ⟨0, Nat.zero_le _, rfl, ⟨0, rfl⟩, fun j h => by omega⟩
  case round =>
    obtain ⟨k, hk, rfl, ⟨m, rfl⟩, hall⟩ := hrel
    have HA : Hid (∀ j, j < k → xs[j]? = ys[j]?) := hall
    clear hall
    by_cases hlt : k < L
    · have h5 := H5.out
      have h6 := HM.out
      obtain ⟨ba, offa, rfl, hca⟩ := HX.out.at (by omega)
      obtain ⟨bb, offb, rfl, hcb⟩ := HY.out.at (by omega)
      obtain ⟨⟨x0, x1, x2⟩, ex⟩ : ∃ x, xs[k]? = some x := ⟨_, List.getElem?_eq_getElem (by omega)⟩
      obtain ⟨⟨y0, y1, y2⟩, ey⟩ : ∃ y, ys[k]? = some y := ⟨_, List.getElem?_eq_getElem (by omega)⟩
      have a0 : w.cell? ⟨ba, offa + k * 3, none⟩ = some (.int .i64 x0) := by exact hca k _ 0 _ ex rfl
      have b0 : w.cell? ⟨bb, offb + k * 3, none⟩ = some (.int .i64 y0) := by exact hcb k _ 0 _ ey rfl
      have a1 : w.cell? ⟨ba, offa + k * 3 + 1, none⟩ = some (.string x1) := by rw [Nat.add_assoc]; exact hca k _ 1 _ ex rfl
      have b1 : w.cell? ⟨bb, offb + k * 3 + 1, none⟩ = some (.string y1) := by rw [Nat.add_assoc]; exact hcb k _ 1 _ ey rfl
      have a2 : w.cell? ⟨ba, offa + k * 3 + 2, none⟩ = some (.string x2) := by rw [Nat.add_assoc]; exact hca k _ 2 _ ex rfl
      have b2 : w.cell? ⟨bb, offb + k * 3 + 2, none⟩ = some (.string y2) := by rw [Nat.add_assoc]; exact hcb k _ 2 _ ey rfl
      have EX : Hid (xs[k]? = some (x0, x1, x2)) := ex
      have EY : Hid (ys[k]? = some (y0, y1, y2)) := ey
      have hi : (k : Int) < (L : Int) := by omega
      have hq : ∀ w, _ := neq35 x0 x1 x2 y0 y1 y2
      clear hca hcb ex ey h5 h6
      by_cases hxy : ((x0, x1, x2) : Mat) = (y0, y1, y2)
      · have hb1 : (!decide (((x0, x1, x2) : Mat) = (y0, y1, y2))) = false := by simp [hxy]
        rw [hb1] at hq
        have HXY : Hid (((x0, x1, x2) : Mat) = (y0, y1, y2)) := hxy
        clear hxy hb1
        go_wp2_with fail
        go_quiet (fail)
        go_wp2
        go_roundw
        case rel =>
          refine ⟨k + 1, by omega, by go_num, ⟨_, rfl⟩, fun j hj => ?_⟩
          by_cases hjk : j < k
          · exact HA.out j hjk
          · have : j = k := by omega
            subst this
            rw [EX.out, EY.out, HXY.out]
        case measure => simp [intOf]; omega
      · have hb1 : (!decide (((x0, x1, x2) : Mat) = (y0, y1, y2))) = true := by
          rw [decide_eq_false hxy]
          rfl
        rw [hb1] at hq
        have HXY : Hid (¬ ((x0, x1, x2) : Mat) = (y0, y1, y2)) := hxy
        clear hxy hb1
        go_wp2_with fail
        go_quiet (fail)
        go_wp2
        go_ret
        refine ⟨ret_bool ?_, _, drewN_drewN _ _ _⟩
        rw [HRes.out]
        refine (HE.out k (by have := H5.out; omega) ?_).symm
        rw [EX.out, EY.out]
        intro e
        exact HXY.out (Option.some.inj e)
    · go_wp2
      go_ret
      refine ⟨ret_bool ?_, _, rfl⟩
      rw [HRes.out]
      exact (HF.out fun j hj => HA.out j (by have := H5.out; omega)).symm
theorem msame (a b : Option Addr) (xs ys : List Mat) (L M c d : Nat) (w : World) (hx : SRd matE w a xs) (hy : SRd matE w b ys) (hL : xs.length = L) (hM : ys.length = M) (hz : L ≤ 3518437208883) :
    Calls Tryz.prog 54 #[.slice a L c, .slice b M d] w fun e w' => e = .returned (.bool (decide (xs = ys))) ∧ w.grownBy w' none := by
  subst hL
  subst hM
  by_cases hl : xs.length = ys.length
  · rw [← hl]
    refine (msame_loop a b xs ys c d w hx hy hl.symm hz).mono ?_
    rintro e w' ⟨rfl, n, rfl⟩
    exact ⟨rfl, gb_drewN w n⟩
  · have e : decide (xs = ys) = false := by
      simp only [decide_eq_false_iff_not]
      intro h
      exact hl (by rw [h])
    rw [e]
    refine (msame_len a b _ _ c d w hl).mono ?_
    rintro e w' ⟨rfl, rfl⟩
    exact ⟨rfl, World.grownBy.refl _ _⟩

def mmark : Mat := (77, ⟨#[]⟩, ⟨#[]⟩)
def msp2 : List Mat := [mmark, mmark]
theorem mlend (a : Option Addr) (ls : List Mat) (L cap : Nat) (w : World) (hr : SRd matE w a ls) (hL : ls.length = L) (hnil : a = none → cap = 0) (hz : L ≤ 3518437208879) :
    Calls Tryz.prog 28 #[.slice a L cap] w fun e w' => ∃ g c, e = .returned (.slice (some ⟨g, 0, none⟩) L c) ∧ MOwn w' w.heap.size g (L + 2) c (ls ++ msp2) ∧ w.grownBy w' none := by
  have HC := mcopy a ls L cap w hr hL hnil hz
  clear hr hL hnil
  go_enter Tryz.func28, Tryz.ntmps28
  go_wp2_with fail
  refine HC.mono ?_
  rintro e w1 ⟨g, c, rfl, ho, hg⟩
  have HO : Hid (MOwn w1 w.heap.size g L c ls) := ho
  have HG : Hid (w.grownBy w1 none) := hg
  clear ho hg
  go_wp2_with (at_builtin; refine wpList_append_s matET rfl (.tmp 5) (.tmp 8) rfl w.heap.size (.slice (some ⟨g, 0, none⟩) L c) L ls rfl (SOwn.kept HO.out (World.grownBy_alloc w1 _ none) (.inr (by simp [Value.ownBlock]))) (some ⟨w1.heap.size, 0, none⟩) msp2 2 2 rfl rfl (mlit w1 msp2) (by simp) (by omega) (by unfold maxLen; omega) (Nat.le_trans HG.out.size (World.grownBy_alloc w1 _ none).size) ?_; intro v2 w2 ho2 hg2 hn2; obtain ⟨g2, c2, rfl, ho3⟩ := MOwn.of ho2 (fun e => by simpa using (hn2 e).1); have hc3 := ho3.cap.1)
  go_ret
  refine ⟨g2, c2, by simp, ho3, gb_trans (gb_trans HG.out (World.grownBy_alloc w1 _ none) (by simp)) hg2 (fun i hi => .inl ?_)⟩
  have := HO.out.ge
  simp [Value.ownBlock] at hi
  omega
theorem MOwn.head {w : World} {base g n cap : Nat} {xs ys : List Mat} (h : MOwn w base g n cap (xs ++ ys)) : SRd matE w (some ⟨g, 0, none⟩) xs := by
  rcases h.rd with h | ⟨b, off, e, h⟩
  · simp at h; rw [h.1]; exact .inl rfl
  · refine .inr ⟨b, off, e, fun j v hj => h j v ?_⟩
    rw [matE.flat_app, List.getElem?_append_left (List.getElem?_eq_some_iff.1 hj).1]
    exact hj
theorem MOwn.tail {w : World} {base g n cap : Nat} {xs ys : List Mat} (h : MOwn w base g n cap (xs ++ ys)) : SRd matE w (some ⟨g, xs.length * 3, none⟩) ys := by
  rcases h.rd with h | ⟨b, off, e, h⟩
  · simp at h; rw [h.2]; exact .inl rfl
  · cases e
    refine .inr ⟨g, xs.length * 3, rfl, fun j v hj => ?_⟩
    have h1 := h (xs.length * 3 + j) v (by
      rw [matE.flat_app, List.getElem?_append_right (by rw [matE.flat_len]; exact Nat.le_add_right _ _), matE.flat_len]
      rw [show xs.length * 3 + j - xs.length * matE.size = j from by show xs.length * 3 + j - xs.length * 3 = j; omega]
      exact hj)
    rwa [Nat.zero_add] at h1
/-- A row of so many. -/
def MRow (w : World) (g cap : Nat) : Prop := ∃ cur : Array Value, w.heap[g]? = some (.cells cur 94 (0, 0)) ∧ cur.size = cap * 3
theorem MOwn.row {w : World} {base g n cap : Nat} {ls : List Mat} (h : MOwn w base g n cap ls) : MRow w g cap := by
  rcases h.2 with ⟨h', _⟩ | ⟨g', cap', cur, h', _, h2, _, _, h5, h6⟩
  · simp at h'
  · simp only [Value.slice.injEq, Option.some.injEq, Addr.mk.injEq] at h'
    obtain ⟨⟨rfl, _⟩, _, rfl⟩ := h'
    exact ⟨cur, h2, h5⟩
theorem MRow.cells {w : World} {g cap : Nat} (h : MRow w g cap) (j : Nat) (hj : j < cap * 3) : (∃ v, w.cell? ⟨g, j, none⟩ = some v) ∧ w.frozen? ⟨g, j, none⟩ = false := by
  obtain ⟨cur, h1, h2⟩ := h
  exact ⟨⟨_, by rw [cell_of_row w g _ cur 94 _ h1, Array.getElem?_eq_getElem (by omega)]⟩, by simp [World.frozen?, h1]⟩
theorem MRow.set {w : World} {g cap : Nat} (h : MRow w g cap) (j : Nat) (v : Value) : MRow (w.setCell ⟨g, j, none⟩ v) g cap := by
  obtain ⟨cur, h1, h2⟩ := h
  exact ⟨cur.setIfInBounds j v, by rw [setCell_eq_setRow w g j cur 94 (0, 0) v h1, setRow_heap w g cur _ 94 _ h1], by simpa using h2⟩

set_option maxHeartbeats 1000000 in
theorem mkept (a : Option Addr) (ls : List Mat) (base g L c cap : Nat) (w : World) (hr : SRd matE w a ls) (hL : ls.length = L) (ho : MOwn w base g (L + 2) c (ls ++ msp2)) (hz : L ≤ 3518437208879) :
    Calls Tryz.prog 29 #[.slice (some ⟨g, 0, none⟩) L c, .slice a L cap] w fun e w' => e = .returned (.bool true) ∧ w.grownBy w' (some g) := by
  have HR : Hid (SRd matE w a ls) := hr
  have HO : Hid (MOwn w base g (L + 2) c (ls ++ msp2)) := ho
  have hcap := ho.cap.1
  have hcap2 : (c : Int) ≤ 9223372036854775807 := by have := ho.cap.2; unfold maxLen at this; omega
  have h1 : Hid (SRd matE w (some ⟨g, 0, none⟩) ls) := ho.head
  have h2 : Hid (SRd matE w (some ⟨g, L * 3, none⟩) msp2) := by have := ho.tail; rwa [hL] at this
  have H5 : Hid (ls.length = L) := hL
  clear hr hL ho
  go_enter Tryz.func29, Tryz.ntmps29
  go_wp2_with fail
  refine (msame (some ⟨g, 0, none⟩) a ls ls L L c cap _ h1.out HR.out H5.out H5.out (by omega)).mono ?_
  rintro e w1 ⟨rfl, hg1⟩
  have htt : decide (ls = ls) = true := by simp
  rw [htt]
  clear htt
  have HG1 : Hid (w.grownBy w1 none) := hg1
  clear hg1
  go_wp2_with fail
  have HL2 : Hid (SRd matE (w1.alloc (.cells #[.int .i64 77, .string ⟨#[]⟩, .string ⟨#[]⟩, .int .i64 77, .string ⟨#[]⟩, .string ⟨#[]⟩] 94)) (some ⟨w1.heap.size, 0, none⟩) msp2) := mlit w1 msp2
  have HGA : Hid (w.grownBy (w1.alloc (.cells #[.int .i64 77, .string ⟨#[]⟩, .string ⟨#[]⟩, .int .i64 77, .string ⟨#[]⟩, .string ⟨#[]⟩] 94)) none) := HG1.out.trans (World.grownBy_alloc w1 _ none)
  refine (msame (some ⟨g, L * 3, none⟩) (some ⟨w1.heap.size, 0, none⟩) msp2 msp2 2 2 (c - L) 2 _ (h2.out.grown HGA.out (by simp)) HL2.out rfl rfl (by omega)).mono ?_
  rintro e w2 ⟨rfl, hg2⟩
  have htt : decide (msp2 = msp2) = true := by simp
  rw [htt]
  clear htt
  have HG : Hid (w.grownBy w2 none) := HGA.out.trans hg2
  have HR2 : Hid (MRow w2 g c) := (HO.out.kept HG.out (by simp)).row
  clear hg2 HGA HL2 HG1 HO HR h1 h2
  go_wp2
  go_loopw [7] (fun i wr => ∃ k : Nat, k ≤ L + 2 ∧ i = .int .i64 k ∧ w2.grownBy wr (some g) ∧ MRow wr g c) (fun i _ => L + 2 - (intOf i).toNat)
  case atStart => exact ⟨0, Nat.zero_le _, rfl, World.grownBy.refl _ _, HR2.out⟩
  case round =>
    obtain ⟨k, hk, rfl, hgr, hrow⟩ := hrel
    have HGR : Hid (w2.grownBy wr (some g)) := hgr
    by_cases hlt : k < L + 2
    · obtain ⟨⟨v0, c0⟩, f0⟩ := hrow.cells (k * 3) (by omega)
      obtain ⟨⟨v1, c1⟩, f1⟩ := hrow.cells (k * 3 + 1) (by omega)
      obtain ⟨⟨v2, c2⟩, f2⟩ := hrow.cells (k * 3 + 2) (by omega)
      have HRow3 : Hid (MRow (((wr.setCell ⟨g, k * 3, none⟩ (.int .i64 77)).setCell ⟨g, k * 3 + 1, none⟩ (.string ⟨#[]⟩)).setCell ⟨g, k * 3 + 2, none⟩ (.string ⟨#[]⟩)) g c) := ((hrow.set _ _).set _ _).set _ _
      have HG3 : Hid (wr.grownBy (((wr.setCell ⟨g, k * 3, none⟩ (.int .i64 77)).setCell ⟨g, k * 3 + 1, none⟩ (.string ⟨#[]⟩)).setCell ⟨g, k * 3 + 2, none⟩ (.string ⟨#[]⟩)) (some g)) := gb_trans (gb_trans (gb_set rfl) (gb_set rfl) (fun j hj => .inr hj)) (gb_set rfl) (fun j hj => .inr hj)
      have hi : (k : Int) < (L : Int) + 2 := by omega
      clear hgr hrow
      go_wp2
      go_roundw
      case rel => exact ⟨k + 1, by omega, by go_num, gb_trans HGR.out HG3.out (fun j hj => .inr hj), HRow3.out⟩
      case measure => simp [intOf]; omega
    · clear hgr hrow
      go_wp2
      go_ret
      exact ⟨rfl, gb_trans (gb_any HG.out _) HGR.out (fun j hj => .inr hj)⟩
end Go.Proofs.YtpabbmiibehfjaaGreatDoor.Mt
