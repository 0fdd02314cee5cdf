/- Several texts in one: Rw, Rz. -/
import Derived.Test.YtboamjhlaehoaaaGreatMl
import Derived.Maps.AppendAt
/- Rings: Replicas. -/
namespace Go.Proofs.YtboamjhlaehoaaaGreat
open Go.RowKit Go.Shelf
set_option linter.unusedVariables false
set_option maxRecDepth 20000
attribute [local go_sem] Oper.semAt_some

def intE : Elem Int where
  cells x := [.int .i64 x]
  size := 1
  pos := by decide
  len _ := rfl
  one p v h := by
    simp only [List.mem_cons, List.mem_nil_iff, or_false] at h
    rcases h with rfl; rfl
theorem info3 : (Tryz.prog.info? 3).map (fun i => (i.zero, i.size, i.bytes)) = some (some (.int .i64 0), 1, 8) := by kernel_rfl
theorem intT : ElemOf intE Tryz.prog 38 3 8 := by
  obtain ⟨i0, hi, hz0, hz1, hz2⟩ := info_part info3
  exact ⟨Tryz.underlying38, i0, _, hi, hz0, hz1, hz2, rfl⟩
/-- Each one once, as they come. -/
def metS (acc : List Int) (x : Int) : List Int := if acc.contains x then acc else acc ++ [x]
def metL (l : List Int) : List Int := l.foldl metS []
theorem metL_snoc (l : List Int) (x : Int) : metL (l ++ [x]) = metS (metL l) x := by simp [metL, List.foldl_append]
theorem metS_pre (acc : List Int) : ∀ l : List Int, acc <+: l.foldl metS acc
  | [] => List.prefix_rfl
  | x :: r => by
    refine List.IsPrefix.trans ?_ (metS_pre (metS acc x) r)
    unfold metS
    split
    · exact List.prefix_rfl
    · exact List.prefix_append _ _
theorem metL_pre {p l : List Int} (h : p <+: l) : metL p <+: metL l := by
  obtain ⟨r, rfl⟩ := h
  unfold metL
  rw [List.foldl_append]
  exact metS_pre _ r
theorem cells_kept {W W' : World} {row : Option Nat} {k : Nat} {cs : Array Value} {t : TypeId} {fr : Nat × Nat} (h : W.heap[k]? = some (.cells cs t fr)) (hg : W.grownBy W' row) (hr : ∀ r, row = some r → ∃ o : Obj, W.heap[r]? = some o ∧ o.isCells = false) : W'.heap[k]? = some (.cells cs t fr) := by
  rw [hg.block k (Array.getElem?_eq_some_iff.1 h).1 (fun e => ?_), h]
  obtain ⟨o, h1, h2⟩ := hr k e.symm
  rw [h] at h1
  cases h1
  simp [Obj.isCells] at h2
/-- Where the loop of Replicas stands. -/
structure MeAt (w W : World) (N M : Nat) (rf : Int) (met : List Int) (a : Option Addr) (c : Nat) : Prop where
  h5 : W.heap[N + 1]? = some (.cells #[.int .i64 rf] 3 (0, 0))
  h6 : W.heap[N + 2]? = some (.cells #[.slice none 0 0] 38 (0, 0))
  h7 : W.heap[N + 3]? = some (.cells #[.int .i64 0] 28 (0, 0))
  h8 : W.heap[M]? = some (.cells #[.slice a met.length c] 38 (0, 0))
  own : SOwn intE 3 W (M + 1) (.slice a met.length c) met.length met
  gb : w.grownBy W none
theorem MeAt.keep {w W W' : World} {N M : Nat} {rf : Int} {met : List Int} {a : Option Addr} {c : Nat} {row : Option Nat} (h : MeAt w W N M rf met a c) (hg : W.grownBy W' row) (hr : ∀ r, row = some r → w.heap.size ≤ r ∧ ∃ o : Obj, W.heap[r]? = some o ∧ o.isCells = false) : MeAt w W' N M rf met a c := by
  have hr' : ∀ r, row = some r → ∃ o : Obj, W.heap[r]? = some o ∧ o.isCells = false := fun r e => (hr r e).2
  refine ⟨cells_kept h.h5 hg hr', cells_kept h.h6 hg hr', cells_kept h.h7 hg hr', cells_kept h.h8 hg hr', ?_, gb_trans h.gb hg (fun k hk => .inl (hr k hk).1)⟩
  refine sown_stay h.own (fun x hx => ?_)
  have h2 := h.own
  rw [hx] at h2
  obtain ⟨cs, hcs⟩ := sown_typed h2
  rw [cells_kept hcs hg hr', hcs]
/-- Behind it, all found. -/
structure DnAt (w W : World) (N M : Nat) (met : List Int) (a : Option Addr) (c : Nat) : Prop where
  h6 : W.heap[N + 2]? = some (.cells #[.slice a met.length c] 38 (0, 0))
  h7 : W.heap[N + 3]? = some (.cells #[.int .i64 0] 28 (0, 0))
  own : SOwn intE 3 W (M + 1) (.slice a met.length c) met.length met
  gb : w.grownBy W none
theorem DnAt.keep {w W W' : World} {N M : Nat} {met : List Int} {a : Option Addr} {c : Nat} {row : Option Nat} (h : DnAt w W N M met a c) (hg : W.grownBy W' row) (hr : ∀ r, row = some r → w.heap.size ≤ r ∧ ∃ o : Obj, W.heap[r]? = some o ∧ o.isCells = false) : DnAt w W' N M met a c := by
  have hr' : ∀ r, row = some r → ∃ o : Obj, W.heap[r]? = some o ∧ o.isCells = false := fun r e => (hr r e).2
  refine ⟨cells_kept h.h6 hg hr', cells_kept h.h7 hg hr', ?_, gb_trans h.gb hg (fun k hk => .inl (hr k hk).1)⟩
  refine sown_stay h.own (fun x hx => ?_)
  have h2 := h.own
  rw [hx] at h2
  obtain ⟨cs, hcs⟩ := sown_typed h2
  rw [cells_kept hcs hg hr', hcs]
theorem cell1 {w : World} {g : Nat} {x : Value} {t : TypeId} (h : w.heap[g]? = some (.cells #[x] t (0, 0))) : w.cell? ⟨g, 0, none⟩ = some x := by
  rw [cell_of_row w g 0 _ _ _ h]; rfl
theorem set1 {w : World} {g : Nat} {x : Value} {t : TypeId} (h : w.heap[g]? = some (.cells #[x] t (0, 0))) (v : Value) : (w.setCell ⟨g, 0, none⟩ v).heap[g]? = some (.cells #[v] t (0, 0)) := by
  simp [World.setCell, Array.getElem?_modify, h]
theorem load38 {w : World} {ad : Addr} {v : Value} (h : w.cell? ad = some v) : (loadVar 38 ad).run Tryz.prog w = .ok v w := by
  simp [loadVar, go_sem, Tryz.isAgg38, h]
theorem load28 {w : World} {ad : Addr} {v : Value} (h : w.cell? ad = some v) : (loadVar 28 ad).run Tryz.prog w = .ok v w := by
  simp [loadVar, go_sem, Tryz.isAgg28, h]
theorem results_2c {fn : Func} {p q : Tmp} (h : fn.results = #[.cell p 38, .cell q 28]) (tmps : Array Value) (w : World) (g k : Nat) (v u : Value) (h1 : tmps.getD p undef = .pointer (some ⟨g, 0, none⟩)) (h2 : tmps.getD q undef = .pointer (some ⟨k, 0, none⟩)) (h3 : w.cell? ⟨g, 0, none⟩ = some v) (h4 : w.cell? ⟨k, 0, none⟩ = some u) :
    (results fn tmps).run Tryz.prog w = .ok (.tuple #[v, u]) w := by
  rw [Array.getD_eq_getD_getElem?] at h1 h2
  simp only [results, h]
  simp [h1, h2, asAddr, load38 h3, load28 h4]
theorem g_contains (a : Option Addr) (l : List Int) (n c : Nat) (x : Int) (w : World) (h : SRd intE w a l) (hn : l.length = n) (hz : n ≤ 1000000) :
    Calls Tryz.prog 57 #[.slice a n c, .int .i64 x] w fun e w' => e = .returned (.bool (l.contains x)) ∧ w' = w := by
  by_cases h0 : n = 0
  · subst h0
    obtain rfl := List.eq_nil_of_length_eq_zero hn
    exact Tryz.slices_Contains_int_empty a c x w
  · obtain ⟨b, o, rfl, hc⟩ := h.at (by omega)
    have := Tryz.slices_Contains_int b o n c l x w (by omega) (by omega) (fun j hj => by
      have := hc j l[j] 0 _ (List.getElem?_eq_getElem hj) rfl
      rw [List.getD_eq_getElem?_getD, List.getElem?_eq_getElem hj]
      simpa [intE] using this)
    rw [List.take_of_length_le (by omega)] at this
    exact this
end Go.Proofs.YtboamjhlaehoaaaGreat

/- Rings: SameInts, State, Check. -/
namespace Go.Proofs.YtboamjhlaehoaaaGreat
open Go.RowKit Go.Shelf
set_option linter.unusedVariables false
set_option maxRecDepth 20000

set_option maxHeartbeats 1000000 in
theorem isame_len (a b : Option Addr) (L M : Nat) (c d : Nat) (w : World) (hne : ¬ L = M) :
    Calls Tryz.prog 27 #[.slice a L c, .slice b M d] w fun e w' => e = .returned (.bool false) ∧ w = w' := by
  have h : ((L : Int) != (M : Int)) = true := by simp; omega
  go_enter Tryz.func27, Tryz.ntmps27
  go_wp2
  go_ret
  exact ⟨rfl, rfl⟩
set_option maxHeartbeats 1000000 in
theorem isame_loop (a b : Option Addr) (xs ys : List Int) (c d : Nat) (w : World) (hx : SRd intE w a xs) (hy : SRd intE w b ys) (hl : ys.length = xs.length) (hz : xs.length ≤ 35184372088832) :
    Calls Tryz.prog 27 #[.slice a xs.length c, .slice b xs.length d] w fun e w' => e = .returned (.bool (decide (xs = ys))) ∧ ∃ n, w' = w.drewN n := by
  have HX : Hid (SRd intE w a xs) := hx
  have HY : Hid (SRd intE w b ys) := hy
  have HE : Hid (∀ k, k < xs.length → xs[k]? ≠ ys[k]? → decide (xs = ys) = false) := by
    intro k hk hne
    simp only [decide_eq_false_iff_not]
    intro h
    rw [h] at hne
    exact hne rfl
  have HF : Hid ((∀ j, j < xs.length → xs[j]? = ys[j]?) → decide (xs = ys) = true) := fun h => by
    simp only [decide_eq_true_eq]
    apply List.ext_getElem?
    intro j
    by_cases hj : j < xs.length
    · exact h j hj
    · rw [List.getElem?_eq_none (by omega), List.getElem?_eq_none (by omega)]
  have HM : Hid (ys.length = xs.length) := hl
  obtain ⟨L, hL⟩ : ∃ L, L = xs.length := ⟨_, rfl⟩
  have H5 : Hid (L = xs.length) := hL
  obtain ⟨res, hres⟩ : ∃ r, r = decide (xs = ys) := ⟨_, rfl⟩
  have HRes : Hid (res = decide (xs = ys)) := hres
  rw [← hL] at hz ⊢
  rw [← hres]
  clear hx hy hl hL hres
  go_enter Tryz.func27, Tryz.ntmps27
  go_wp2
  go_loopw [5] (fun i wr => ∃ k : Nat, k ≤ L ∧ i = .int .i64 k ∧ (∃ n, wr = w.drewN n) ∧ ∀ j, j < k → xs[j]? = ys[j]?) (fun i _ => L - (intOf i).toNat)
  case atStart => exact ⟨0, Nat.zero_le _, rfl, ⟨0, rfl⟩, fun j h => by omega⟩
  case round =>
    obtain ⟨k, hk, rfl, ⟨m, rfl⟩, hall⟩ := hrel
    have HA : Hid (∀ j, j < k → xs[j]? = ys[j]?) := hall
    clear hall
    by_cases hlt : k < L
    · have h5 := H5.out
      have h6 := HM.out
      obtain ⟨ba, offa, rfl, hca⟩ := HX.out.at (by omega)
      obtain ⟨bb, offb, rfl, hcb⟩ := HY.out.at (by omega)
      obtain ⟨x0, ex⟩ : ∃ x, xs[k]? = some x := ⟨_, List.getElem?_eq_getElem (by omega)⟩
      obtain ⟨y0, ey⟩ : ∃ y, ys[k]? = some y := ⟨_, List.getElem?_eq_getElem (by omega)⟩
      have a0 : w.cell? ⟨ba, offa + k, none⟩ = some (.int .i64 x0) := by have := hca k _ 0 _ ex rfl; simpa [intE] using this
      have b0 : w.cell? ⟨bb, offb + k, none⟩ = some (.int .i64 y0) := by have := hcb k _ 0 _ ey rfl; simpa [intE] using this
      have EX : Hid (xs[k]? = some x0) := ex
      have EY : Hid (ys[k]? = some y0) := ey
      have hi : (k : Int) < (L : Int) := by omega
      clear hca hcb ex ey h5 h6
      by_cases hxy : x0 = y0
      · have hb1 : (x0 != y0) = false := by simp [hxy]
        have HXY : Hid (x0 = y0) := hxy
        clear hxy
        go_wp2_with fail
        go_quiet (fail)
        go_wp2
        go_roundw
        case rel =>
          refine ⟨k + 1, by omega, by go_num, ⟨_, rfl⟩, fun j hj => ?_⟩
          by_cases hjk : j < k
          · exact HA.out j hjk
          · have : j = k := by omega
            subst this
            rw [EX.out, EY.out, HXY.out]
        case measure => simp [intOf]; omega
      · have hb1 : (x0 != y0) = true := by simp [hxy]
        have HXY : Hid (¬ x0 = y0) := hxy
        clear hxy
        go_wp2_with fail
        go_quiet (fail)
        go_wp2
        go_ret
        refine ⟨ret_bool ?_, _, drewN_drewN _ _ _⟩
        rw [HRes.out]
        refine (HE.out k (by have := H5.out; omega) ?_).symm
        rw [EX.out, EY.out]
        intro e
        exact HXY.out (Option.some.inj e)
    · go_wp2
      go_ret
      refine ⟨ret_bool ?_, _, rfl⟩
      rw [HRes.out]
      exact (HF.out fun j hj => HA.out j (by have := H5.out; omega)).symm
theorem isameQ (a b : Option Addr) (xs ys : List Int) (L M c d : Nat) (w : World) (hx : SRd intE w a xs) (hy : SRd intE w b ys) (hL : xs.length = L) (hM : ys.length = M) (hz : L ≤ 35184372088832) :
    Calls Tryz.prog 27 #[.slice a L c, .slice b M d] w fun e w' => e = .returned (.bool (decide (xs = ys))) ∧ ∃ n, w' = w.drewN n := by
  subst hL
  subst hM
  by_cases hl : xs.length = ys.length
  · rw [← hl]
    exact isame_loop a b xs ys c d w hx hy hl.symm hz
  · have e : decide (xs = ys) = false := by
      simp only [decide_eq_false_iff_not]
      intro h
      exact hl (by rw [h])
    rw [e]
    refine (isame_len a b _ _ c d w hl).mono ?_
    rintro e w' ⟨rfl, rfl⟩
    exact ⟨rfl, 0, rfl⟩
def stOf (ms : List Mem) (id : Int) : Int := if ringOk ms = true ∧ hasI ms id = true then stAt ms id else 0
def chkC (ms : List Mem) : Int := if ringOk ms = true then 0 else 130
set_option maxHeartbeats 1000000 in
theorem f_check (E : Int) (ms : List Mem) (raw : List MRow) (a : Option Addr) (n c : Nat) (w : World) (hr : MsRd w a ms raw) (hn : ms.length = n) (hz : n ≤ 3518437208800) (hz2 : ∀ s ∈ ms, s.2.2.length ≤ 35184372088832) :
    Calls Tryz.prog 15 #[.agg #[.int .u64 E, .slice a n c]] w fun e w' => e = .returned (.int .i64 (chkC ms)) ∧ w.grownBy w' none := by
  have ga := World.grownBy_alloc w (.cells #[.int .u64 E, .slice a n c] 25) none
  have HC := g_mayBe E a raw ms n c _ (hr.grown ga) hn (by omega) hz2
  have HG : Hid (w.grownBy (w.alloc (.cells #[.int .u64 E, .slice a n c] 25)) none) := ga
  clear hr hn hz hz2 ga
  unfold chkC
  cases ho : ringOk ms with
  | false =>
    rw [ho] at HC
    rw [if_neg (by decide)]
    clear ho
    go_enter Tryz.func15, Tryz.ntmps15
    go_wp2_with fail
    refine HC.mono ?_
    rintro e w1 ⟨rfl, hg1⟩
    have HG1 : Hid (w.grownBy w1 none) := HG.out.trans hg1
    clear hg1
    go_wp2
    go_ret
    exact ⟨rfl, HG1.out⟩
  | true =>
    rw [ho] at HC
    rw [if_pos rfl]
    clear ho
    go_enter Tryz.func15, Tryz.ntmps15
    go_wp2_with fail
    refine HC.mono ?_
    rintro e w1 ⟨rfl, hg1⟩
    have HG1 : Hid (w.grownBy w1 none) := HG.out.trans hg1
    clear hg1
    go_wp2
    go_ret
    exact ⟨rfl, HG1.out⟩
set_option maxHeartbeats 2000000 in
theorem f_state (E : Int) (ms : List Mem) (raw : List MRow) (id : Int) (a : Option Addr) (n c : Nat) (w : World) (hr : MsRd w a ms raw) (hn : ms.length = n) (hz : n ≤ 3518437208800) (hz2 : ∀ s ∈ ms, s.2.2.length ≤ 35184372088832) :
    Calls Tryz.prog 17 #[.agg #[.int .u64 E, .slice a n c], .int .i64 id] w fun e w' => e = .returned (.int .i64 (stOf ms id)) ∧ w.grownBy w' none := by
  have ga := World.grownBy_alloc w (.cells #[.int .u64 E, .slice a n c] 25) none
  have HC := g_mayBe E a raw ms n c _ (hr.grown ga) hn (by omega) hz2
  have HG : Hid (w.grownBy (w.alloc (.cells #[.int .u64 E, .slice a n c] 25)) none) := ga
  have HBX : Hid ((w.alloc (.cells #[.int .u64 E, .slice a n c] 25)).cell? ⟨w.heap.size, 1, none⟩ = some (.slice a n c)) := (boxed_cells w E _).2
  unfold stOf
  cases ho : ringOk ms with
  | false =>
    rw [ho] at HC
    rw [if_neg (by simp)]
    clear ho hr hn hz hz2 ga
    go_enter Tryz.func17, Tryz.ntmps17
    go_wp2_with fail
    refine HC.mono ?_
    rintro e w1 ⟨rfl, hg1⟩
    have HG1 : Hid (w.grownBy w1 none) := HG.out.trans hg1
    clear hg1
    go_wp2
    go_ret
    exact ⟨rfl, HG1.out⟩
  | true =>
    have hl := ringOk_len ho
    have HF : Hid (∀ w1, w.grownBy w1 none → Calls Tryz.prog 45 #[.slice a n c, .int .i64 id] w1 fun e w' => e = .returned (.tuple #[.int .i64 (posI ms id), .bool (hasI ms id)]) ∧ w1.grownBy w' none) := fun w1 hg => g_find ms raw id a n c w1 (hr.grown hg) hn (by omega) (ringOk_rise ho)
    rw [ho] at HC
    cases hh : hasI ms id with
    | false =>
      rw [if_neg (by simp)]
      rw [hh] at HF
      generalize posI ms id = I at HF
      clear ho hr hn hz hz2 ga hh hl
      go_enter Tryz.func17, Tryz.ntmps17
      go_wp2_with fail
      refine HC.mono ?_
      rintro e w1 ⟨rfl, hg1⟩
      have HG1 : Hid (w.grownBy w1 none) := HG.out.trans hg1
      have b1 := hg1.cell HBX.out (by simp)
      have HC2 := HF.out w1 HG1.out
      clear hg1
      go_wp2_with fail
      refine HC2.mono ?_
      rintro e w2 ⟨rfl, hg2⟩
      have HG2 : Hid (w.grownBy w2 none) := HG1.out.trans hg2
      clear hg2
      go_wp2
      go_ret
      exact ⟨rfl, HG2.out⟩
    | true =>
      rw [if_pos (by simp)]
      obtain ⟨m, hm, _⟩ := hasI_get hh
      have hI := (List.getElem?_eq_some_iff.1 hm).1
      rw [hh] at HF
      have hst : stAt ms id = m.2.1 := by simp [stAt, hm]
      rw [hst]
      obtain ⟨b, off, ta, tc, rfl, c0, c1, c2, _⟩ := hr.cells hm
      have HCC : Hid (∀ w1, w.grownBy w1 none → w1.cell? ⟨b, off + posI ms id * 3 + 1, none⟩ = some (.int .i64 m.2.1)) := fun w1 hg => hg.cell c1 (by simp)
      have hIn : (posI ms id : Int) < (n : Int) := by omega
      generalize posI ms id = I at HF HCC hIn
      generalize m.2.1 = q at HCC ⊢
      clear ho hr hn hz hz2 ga hh hl hm hst c0 c1 c2 hI
      go_enter Tryz.func17, Tryz.ntmps17
      go_wp2_with fail
      refine HC.mono ?_
      rintro e w1 ⟨rfl, hg1⟩
      have HG1 : Hid (w.grownBy w1 none) := HG.out.trans hg1
      have b1 := hg1.cell HBX.out (by simp)
      have HB1 : Hid (w1.cell? ⟨w.heap.size, 1, none⟩ = some (.slice (some ⟨b, off, none⟩) n c)) := b1
      have HC2 := HF.out w1 HG1.out
      clear hg1
      go_wp2_with fail
      refine HC2.mono ?_
      rintro e w2 ⟨rfl, hg2⟩
      have HG2 : Hid (w.grownBy w2 none) := HG1.out.trans hg2
      have b2 := hg2.cell HB1.out (by simp)
      have cc := HCC.out w2 HG2.out
      clear hg2 b1
      go_wp2
      go_ret
      exact ⟨rfl, HG2.out⟩
end Go.Proofs.YtboamjhlaehoaaaGreat

