/- Several texts in one: Rb, Rc, Rd. -/
import Derived.Test.YtboamjhlaehoaaaGreatMa
import Derived.BigQuiet
import Derived.Deep.Quiet
import Derived.Deep.QuietTactic
/- Rings: held against one another. -/
namespace Go.Proofs.YtboamjhlaehoaaaGreat
open Go.RowKit
set_option linter.unusedVariables false
set_option maxRecDepth 20000

/-- A ring in a box. -/
def ringV (E : Int) (a : Option Addr) (n c : Nat) : Value := .agg #[.int .u64 E, .slice a n c]
theorem boxed_cells (w : World) (E : Int) (V : Value) : (w.alloc (.cells #[.int .u64 E, V] 25)).cell? ⟨w.heap.size, 0, none⟩ = some (.int .u64 E) ∧ (w.alloc (.cells #[.int .u64 E, V] 25)).cell? ⟨w.heap.size, 1, none⟩ = some V := by
  constructor
  · rw [cell_of_row _ w.heap.size 0 _ 25 _ (heap_alloc_new w _)]; rfl
  · rw [cell_of_row _ w.heap.size 1 _ 25 _ (heap_alloc_new w _)]; rfl
theorem size_alloc (w : World) (o : Obj) : (w.alloc o).heap.size = w.heap.size + 1 := Array.size_push _
theorem rsame_epoch (ea eb : Int) (a b : Option Addr) (L M c d : Nat) (w : World) (hne : ¬ ea = eb) :
    Calls Tryz.prog 14 #[.agg #[.int .u64 ea, .slice a L c], .agg #[.int .u64 eb, .slice b M d]] w fun e w' => e = .returned (.bool false) ∧ w.grownBy w' none := by
  have h : (ea != eb) = true := by simp [hne]
  have HG : Hid (w.grownBy ((w.alloc (.cells #[.int .u64 ea, .slice a L c] 25)).alloc (.cells #[.int .u64 eb, .slice b M d] 25)) none) := (World.grownBy_alloc _ _ none).trans (World.grownBy_alloc _ _ none)
  go_enter Tryz.func14, Tryz.ntmps14
  go_wp2
  go_ret
  exact ⟨rfl, HG.out⟩
theorem rsame_len (ea : Int) (a b : Option Addr) (L M c d : Nat) (w : World) (hne : ¬ L = M) :
    Calls Tryz.prog 14 #[.agg #[.int .u64 ea, .slice a L c], .agg #[.int .u64 ea, .slice b M d]] w fun e w' => e = .returned (.bool false) ∧ w.grownBy w' none := by
  have h : ((L : Int) != (M : Int)) = true := by simp; omega
  have h0 : (ea != ea) = false := by simp
  have HG : Hid (w.grownBy ((w.alloc (.cells #[.int .u64 ea, .slice a L c] 25)).alloc (.cells #[.int .u64 ea, .slice b M d] 25)) none) := (World.grownBy_alloc _ _ none).trans (World.grownBy_alloc _ _ none)
  go_enter Tryz.func14, Tryz.ntmps14
  go_wp2
  go_ret
  exact ⟨rfl, HG.out⟩
set_option maxHeartbeats 4000000 in
theorem rsame_loop (ea : Int) (a b : Option Addr) (ra rb : List MRow) (xs ys : List Mem) (c d : Nat) (w : World) (hx : MsRd w a xs ra) (hy : MsRd w b ys rb) (hl : ys.length = xs.length) (hz : xs.length ≤ 9007199254740992) (hz2 : ∀ s ∈ xs, s.2.2.length ≤ 35184372088832) :
    Calls Tryz.prog 14 #[.agg #[.int .u64 ea, .slice a xs.length c], .agg #[.int .u64 ea, .slice b xs.length d]] w fun e w' => e = .returned (.bool (decide (xs = ys))) ∧ w.grownBy w' none := by
  have HX : Hid (MsRd w a xs ra) := hx
  have HY : Hid (MsRd w b ys rb) := hy
  have HZ : Hid (∀ s ∈ xs, s.2.2.length ≤ 35184372088832) := hz2
  have HE : Hid (∀ k, k < xs.length → xs[k]? ≠ ys[k]? → decide (xs = ys) = false) := by
    intro k hk hne
    simp only [decide_eq_false_iff_not]
    intro h
    rw [h] at hne
    exact hne rfl
  have HF : Hid ((∀ j, j < xs.length → xs[j]? = ys[j]?) → decide (xs = ys) = true) := fun h => by
    simp only [decide_eq_true_eq]
    apply List.ext_getElem?
    intro j
    by_cases hj : j < xs.length
    · exact h j hj
    · rw [List.getElem?_eq_none (by omega), List.getElem?_eq_none (by omega)]
  have HM : Hid (ys.length = xs.length) := hl
  obtain ⟨L, hL⟩ : ∃ L, L = xs.length := ⟨_, rfl⟩
  have H5 : Hid (L = xs.length) := hL
  obtain ⟨res, hres⟩ : ∃ r, r = decide (xs = ys) := ⟨_, rfl⟩
  have HRes : Hid (res = decide (xs = ys)) := hres
  rw [← hL] at hz ⊢
  rw [← hres]
  clear hx hy hl hL hres hz2
  have h0 : (ea != ea) = false := by simp
  have h1 : ((L : Int) != (L : Int)) = false := by simp
  have g1 := World.grownBy_alloc w (.cells #[.int .u64 ea, .slice a L c] 25) none
  have g2 := World.grownBy_alloc (w.alloc (.cells #[.int .u64 ea, .slice a L c] 25)) (.cells #[.int .u64 ea, .slice b L d] 25) none
  have k1 := g2.cell (boxed_cells w ea (.slice a L c)).2 (by simp)
  have k2 := (boxed_cells (w.alloc (.cells #[.int .u64 ea, .slice a L c] 25)) ea (.slice b L d)).2
  rw [size_alloc] at k2
  have HG : Hid (w.grownBy ((w.alloc (.cells #[.int .u64 ea, .slice a L c] 25)).alloc (.cells #[.int .u64 ea, .slice b L d] 25)) none) := g1.trans g2
  have K1 : Hid (((w.alloc (.cells #[.int .u64 ea, .slice a L c] 25)).alloc (.cells #[.int .u64 ea, .slice b L d] 25)).cell? ⟨w.heap.size, 1, none⟩ = some (.slice a L c)) := k1
  have K2 : Hid (((w.alloc (.cells #[.int .u64 ea, .slice a L c] 25)).alloc (.cells #[.int .u64 ea, .slice b L d] 25)).cell? ⟨w.heap.size + 1, 1, none⟩ = some (.slice b L d)) := k2
  clear g1 g2 k1 k2
  go_enter Tryz.func14, Tryz.ntmps14
  go_wp2
  generalize ((w.alloc (.cells #[.int .u64 ea, .slice a L c] 25)).alloc (.cells #[.int .u64 ea, .slice b L d] 25)) = W at HG K1 K2 ⊢
  have HG0 : Hid (W.grownBy W none) := World.grownBy.refl _ _
  go_loopw [5] (fun i wr => ∃ k : Nat, k ≤ L ∧ i = .int .i64 k ∧ W.grownBy wr none ∧ ∀ j, j < k → xs[j]? = ys[j]?) (fun i _ => L - (intOf i).toNat)
  case atStart => exact ⟨0, Nat.zero_le _, rfl, HG0.out, fun j h => by omega⟩
  case round =>
    obtain ⟨k, hk, rfl, hgr, hall⟩ := hrel
    have HA : Hid (∀ j, j < k → xs[j]? = ys[j]?) := hall
    have HGR : Hid (W.grownBy wr none) := hgr
    have c1 := hgr.cell K1.out (by simp)
    have c2 := hgr.cell K2.out (by simp)
    clear hall hgr
    by_cases hlt : k < L
    · have h5 := H5.out
      have h6 := HM.out
      obtain ⟨⟨i1, s1, t1⟩, ex⟩ : ∃ x, xs[k]? = some x := ⟨_, List.getElem?_eq_getElem (by omega)⟩
      obtain ⟨⟨i2, s2, t2⟩, ey⟩ : ∃ y, ys[k]? = some y := ⟨_, List.getElem?_eq_getElem (by omega)⟩
      obtain ⟨ba, offa, ta, tc, rfl, a0, a1, a2, rt, _⟩ := (HX.out.grown (HG.out.trans HGR.out)).cells ex
      obtain ⟨bb, offb, tb, td, rfl, b0, b1, b2, st, _⟩ := (HY.out.grown (HG.out.trans HGR.out)).cells ey
      have z1 := HZ.out _ (List.mem_of_getElem? ex)
      simp only at a0 a1 a2 b0 b1 b2 rt st z1
      have HC1 : Hid (∀ n, Calls Tryz.prog 19 #[.slice ta t1.length tc, .slice tb t2.length td] (wr.drewN n) fun e w' => e = .returned (.bool (decide (t1 = t2))) ∧ ∃ m, w' = (wr.drewN n).drewN m) := fun n => wsameQ ta tb t1 t2 _ _ tc td _ (rt.grown (gb_drewN wr n) (by simp)) (st.grown (gb_drewN wr n) (by simp)) rfl rfl z1
      have hi : (k : Int) < (L : Int) := by omega
      have HEQ : Hid ((i1 != i2) = false → (s1 != s2) = false → decide (t1 = t2) = true → xs[k]? = ys[k]?) := fun e1 e2 e3 => by
        have e1 : i1 = i2 := by simpa using e1
        have e2 : s1 = s2 := by simpa using e2
        rw [ex, ey, e1, e2, of_decide_eq_true e3]
      have HNE : Hid ((i1 != i2) = true ∨ (s1 != s2) = true ∨ decide (t1 = t2) = false → decide (xs = ys) = false) := fun e1 => by
        refine HE.out k (by omega) ?_
        rw [ex, ey]
        intro e
        simp only [Option.some.injEq, Prod.mk.injEq] at e
        rcases e1 with e1 | e1 | e1
        · simp [e.1] at e1
        · simp [e.2.1] at e1
        · exact of_decide_eq_false e1 e.2.2
      generalize decide (t1 = t2) = q3 at HC1 HEQ HNE
      generalize t1.length = n1 at HC1 a2
      generalize t2.length = n2 at HC1 b2
      clear ex ey h5 h6 rt st z1
      cases q1 : (i1 != i2) with
      | true =>
        have HNE' : Hid (decide (xs = ys) = false) := HNE.out (.inl q1)
        clear HNE HEQ HC1
        go_wp2_with fail
        go_quiet (fail)
        go_wp2
        go_ret
        exact ⟨ret_bool (by rw [HRes.out, HNE'.out]), (HG.out.trans HGR.out).trans (gb_drewN wr _)⟩
      | false =>
        cases q2 : (s1 != s2) with
        | true =>
          have HNE' : Hid (decide (xs = ys) = false) := HNE.out (.inr (.inl q2))
          clear HNE HEQ HC1
          go_wp2_with fail
          go_quiet (fail)
          go_wp2
          go_ret
          exact ⟨ret_bool (by rw [HRes.out, HNE'.out]), (HG.out.trans HGR.out).trans (gb_drewN wr _)⟩
        | false =>
          cases q3 with
          | false =>
            have HNE' : Hid (decide (xs = ys) = false) := HNE.out (.inr (.inr rfl))
            clear HNE HEQ
            go_wp2_with fail
            go_quiet (exact Calls.quiet_of (HC1.out _))
            go_wp2
            go_ret
            exact ⟨ret_bool (by rw [HRes.out, HNE'.out]), (HG.out.trans HGR.out).trans (gb_drewN wr _)⟩
          | true =>
            have HEQ' : Hid (xs[k]? = ys[k]?) := HEQ.out q1 q2 rfl
            clear HNE HEQ
            go_wp2_with fail
            go_quiet (exact Calls.quiet_of (HC1.out _))
            go_wp2
            go_roundw
            case rel =>
              refine ⟨k + 1, by omega, by go_num, HGR.out.trans (gb_drewN wr _), fun j hj => ?_⟩
              by_cases hjk : j < k
              · exact HA.out j hjk
              · have : j = k := by omega
                subst this
                exact HEQ'.out
            case measure => simp [intOf]; omega
    · go_wp2
      go_ret
      refine ⟨ret_bool ?_, HG.out.trans HGR.out⟩
      rw [HRes.out]
      exact (HF.out fun j hj => HA.out j (by have := H5.out; omega)).symm
theorem rsame (ea eb : Int) (a b : Option Addr) (ra rb : List MRow) (xs ys : List Mem) (L M c d : Nat) (w : World) (hx : MsRd w a xs ra) (hy : MsRd w b ys rb) (hL : xs.length = L) (hM : ys.length = M) (hz : L ≤ 9007199254740992) (hz2 : ∀ s ∈ xs, s.2.2.length ≤ 35184372088832) :
    Calls Tryz.prog 14 #[.agg #[.int .u64 ea, .slice a L c], .agg #[.int .u64 eb, .slice b M d]] w fun e w' => e = .returned (.bool (decide (ea = eb ∧ xs = ys))) ∧ w.grownBy w' none := by
  subst hL hM
  by_cases he : ea = eb
  · subst he
    by_cases hl : xs.length = ys.length
    · rw [← hl]
      simp only [true_and]
      exact rsame_loop ea a b ra rb xs ys c d w hx hy hl.symm hz hz2
    · have e : decide (ea = ea ∧ xs = ys) = false := by
        simp only [decide_eq_false_iff_not]
        rintro ⟨_, h⟩
        exact hl (by rw [h])
      rw [e]
      exact rsame_len ea a b _ _ c d w hl
  · rw [show decide (ea = eb ∧ xs = ys) = false by simp [he]]
    exact rsame_epoch ea eb a b _ _ c d w he
end Go.Proofs.YtboamjhlaehoaaaGreat

/- Rings: what may be. -/
namespace Go.Proofs.YtboamjhlaehoaaaGreat
open Go.RowKit
set_option linter.unusedVariables false
set_option maxRecDepth 20000

def riseT : Int → List Int → Bool
  | _, [] => true
  | t, q :: r => decide (t < q) && riseT q r
def riseW : List Int → Bool
  | [] => true
  | q :: r => riseT q r
theorem riseT_iff : ∀ (r : List Int) (t : Int), riseT t r = true ↔ (∀ q, r[0]? = some q → t < q) ∧ ∀ (j : Nat) (p q : Int), r[j]? = some p → r[j + 1]? = some q → p < q
  | [], t => by simp [riseT]
  | q :: r, t => by
    rw [riseT, Bool.and_eq_true, decide_eq_true_eq, riseT_iff r q]
    constructor
    · rintro ⟨h1, h2, h3⟩
      refine ⟨fun x hx => by simp at hx; subst hx; exact h1, fun j a b ha hb => ?_⟩
      cases j with
      | zero => simp at ha; subst ha; exact h2 b (by simpa using hb)
      | succ j => exact h3 j a b (by simpa using ha) (by simpa using hb)
    · rintro ⟨h1, h2⟩
      exact ⟨h1 q rfl, fun x hx => h2 0 q x rfl (by simpa using hx), fun j a b ha hb => h2 (j + 1) a b (by simpa using ha) (by simpa using hb)⟩
theorem riseW_iff (ps : List Int) : riseW ps = true ↔ ∀ (j : Nat) (p q : Int), ps[j]? = some p → ps[j + 1]? = some q → p < q := by
  cases ps with
  | nil => simp [riseW]
  | cons q r =>
    rw [riseW, riseT_iff]
    constructor
    · rintro ⟨h2, h3⟩ j a b ha hb
      cases j with
      | zero => simp at ha; subst ha; exact h2 b (by simpa using hb)
      | succ j => exact h3 j a b (by simpa using ha) (by simpa using hb)
    · intro h2
      exact ⟨fun x hx => h2 0 q x rfl (by simpa using hx), fun j a b ha hb => h2 (j + 1) a b (by simpa using ha) (by simpa using hb)⟩
theorem riseT_pw : ∀ (r : List Int) (t : Int), riseT t r = true ↔ (t :: r).Pairwise (· < ·)
  | [], t => by simp [riseT]
  | q :: r, t => by
    rw [riseT, Bool.and_eq_true, decide_eq_true_eq, riseT_pw r q]
    constructor
    · rintro ⟨h1, h2⟩
      refine List.pairwise_cons.2 ⟨fun x hx => ?_, h2⟩
      rcases List.mem_cons.1 hx with rfl | hx
      · exact h1
      · exact Int.lt_trans h1 ((List.pairwise_cons.1 h2).1 x hx)
    · intro h
      exact ⟨(List.pairwise_cons.1 h).1 q (by simp), (List.pairwise_cons.1 h).2⟩
theorem riseW_pw (l : List Int) : riseW l = true ↔ l.Pairwise (· < ·) := by
  cases l with
  | nil => simp [riseW]
  | cons q r => exact riseT_pw r q
/-- Which members may be. -/
def idOk (i : Int) : Bool := decide (0 ≤ i) && decide (i < 16)
def stOk (s : Int) : Bool := decide (s = 1) || decide (s = 2) || decide (s = 3)
def memOk (m : Mem) : Bool := idOk m.1 && stOk m.2.1 && decide (1 ≤ m.2.2.length) && decide (m.2.2.length ≤ 64) && riseW m.2.2
/-- Which rings may be. -/
def ringOk (ms : List Mem) : Bool := ms.all memOk && riseW (ms.map (·.1))
theorem ringOk_iff (ms : List Mem) : ringOk ms = true ↔ (∀ (i : Nat) (m : Mem), ms[i]? = some m → memOk m = true) ∧ ∀ (i : Nat) (p q : Mem), ms[i]? = some p → ms[i + 1]? = some q → p.1 < q.1 := by
  rw [ringOk, Bool.and_eq_true, riseW_iff, List.all_eq_true]
  constructor
  · rintro ⟨h1, h2⟩
    exact ⟨fun i m hm => h1 m (List.mem_of_getElem? hm), fun i p q hp hq => h2 i p.1 q.1 (by simp [hp]) (by simp [hq])⟩
  · rintro ⟨h1, h2⟩
    refine ⟨fun m hm => ?_, fun i p q hp hq => ?_⟩
    · obtain ⟨i, hi⟩ := List.getElem?_of_mem hm
      exact h1 i m hi
    · simp only [List.getElem?_map, Option.map_eq_some_iff] at hp hq
      obtain ⟨p', hp', rfl⟩ := hp
      obtain ⟨q', hq', rfl⟩ := hq
      exact h2 i p' q' hp' hq'
theorem ringOk_len {ms : List Mem} (h : ringOk ms = true) : ms.length ≤ 16 := by
  rw [ringOk, Bool.and_eq_true, riseW_pw, List.all_eq_true] at h
  obtain ⟨h1, h2⟩ := h
  have hb : ∀ x ∈ ms.map (·.1), 0 ≤ x ∧ x < 16 := by
    intro x hx
    obtain ⟨m, hm, rfl⟩ := List.mem_map.1 hx
    have := h1 m hm
    simp [memOk, idOk] at this
    exact this.1.1.1.1
  have key : ∀ (l : List Int) (lo : Int), l.Pairwise (· < ·) → (∀ x ∈ l, lo ≤ x ∧ x < 16) → (l.length : Int) ≤ 16 - lo ∨ l = [] := by
    intro l
    induction l with
    | nil => intro lo _ _; exact .inr rfl
    | cons a r ih =>
      intro lo hp hb
      left
      obtain ⟨hp1, hp2⟩ := List.pairwise_cons.1 hp
      have ha := hb a (by simp)
      rcases ih (a + 1) hp2 (fun x hx => ⟨by have := hp1 x hx; omega, (hb x (by simp [hx])).2⟩) with h | h
      · rw [List.length_cons]; omega
      · subst h; simp; omega
  have := key (ms.map (·.1)) 0 h2 hb
  rw [List.length_map] at this
  rcases this with h | h
  · omega
  · have := congrArg List.length h
    simp at this
    subst this; simp

theorem g_isID (i : Int) (w : World) : Calls Tryz.prog 62 #[.int .i64 i] w fun e w' => e = .returned (.bool (idOk i)) ∧ w' = w := by
  by_cases h1 : 0 ≤ i
  · by_cases h2 : i < 16
    · rw [show idOk i = true by simp [idOk, h1, h2]]
      go_enter Tryz.func62, Tryz.ntmps62
      go_wp2
      go_ret
      exact ⟨rfl, rfl⟩
    · rw [show idOk i = false by simp [idOk, h2]]
      go_enter Tryz.func62, Tryz.ntmps62
      go_wp2
      go_ret
      exact ⟨rfl, rfl⟩
  · rw [show idOk i = false by simp [idOk, h1]]
    go_enter Tryz.func62, Tryz.ntmps62
    go_wp2
    go_ret
    exact ⟨rfl, rfl⟩
theorem g_isState (s : Int) (w : World) : Calls Tryz.prog 92 #[.int .i64 s] w fun e w' => e = .returned (.bool (stOk s)) ∧ w' = w := by
  by_cases h1 : s = 1
  · subst h1
    rw [show stOk 1 = true by rfl]
    go_enter Tryz.func92, Tryz.ntmps92
    go_wp2
    go_ret
    exact ⟨rfl, rfl⟩
  · have h1' : (s == 1) = false := by simp [h1]
    by_cases h2 : s = 2
    · subst h2
      rw [show stOk 2 = true by rfl]
      go_enter Tryz.func92, Tryz.ntmps92
      go_wp2
      go_ret
      exact ⟨rfl, rfl⟩
    · have h2' : (s == 2) = false := by simp [h2]
      by_cases h3 : s = 3
      · subst h3
        rw [show stOk 3 = true by rfl]
        go_enter Tryz.func92, Tryz.ntmps92
        go_wp2
        go_ret
        exact ⟨rfl, rfl⟩
      · have h3' : (s == 3) = false := by simp [h3]
        rw [show stOk s = false by simp [stOk, h1, h2, h3]]
        clear h1 h2 h3
        go_enter Tryz.func92, Tryz.ntmps92
        go_wp2
        go_ret
        exact ⟨rfl, rfl⟩
set_option maxHeartbeats 2000000 in
theorem w_rising (a : Option Addr) (ps : List Int) (L c : Nat) (w : World) (hx : SRd wordE w a ps) (hL : ps.length = L) (hz : L ≤ 35184372088832) :
    Calls Tryz.prog 93 #[.slice a L c] w fun e w' => e = .returned (.bool (riseW ps)) ∧ w.grownBy w' none := by
  have HX : Hid (SRd wordE w a ps) := hx
  have HL : Hid (ps.length = L) := hL
  have HR : Hid (riseW ps = true ↔ ∀ (j : Nat) (p q : Int), ps[j]? = some p → ps[j + 1]? = some q → p < q) := riseW_iff ps
  generalize riseW ps = R at HR ⊢
  clear hx hL
  go_enter Tryz.func93, Tryz.ntmps93
  go_wp2
  go_loopw [6] (fun t6 wr => ∃ (k : Nat), k ≤ L ∧ t6 = .int .i64 k ∧ (∀ (j : Nat) (p q : Int), j + 1 < k → ps[j]? = some p → ps[j + 1]? = some q → p < q) ∧ ∃ n, wr = w.drewN n) (fun t6 _ => L - (intOf t6).toNat)
  case atStart => exact ⟨0, Nat.zero_le _, rfl, fun j p q h => by omega, 0, rfl⟩
  case round =>
    obtain ⟨k, hk, rfl, hall, hw⟩ := hrel
    have HA : Hid (∀ (j : Nat) (p q : Int), j + 1 < k → ps[j]? = some p → ps[j + 1]? = some q → p < q) := hall
    have HW : Hid (∃ n, wr = w.drewN n) := hw
    have HG : Hid (w.grownBy wr none) := by obtain ⟨n, e⟩ := hw; rw [e]; exact gb_drewN w n
    clear hall hw
    by_cases hlt : k < L
    · have hki : (k : Int) < (L : Int) := by omega
      have hl := HL.out
      obtain ⟨ba, off, rfl, hcc⟩ := (HX.out.grown HG.out (by simp)).at (by omega)
      obtain ⟨t, ex⟩ : ∃ x, ps[k]? = some x := ⟨_, List.getElem?_eq_getElem (by omega)⟩
      have a0 : wr.cell? ⟨ba, off + k, none⟩ = some (.int .u32 t) := by have := hcc k _ 0 _ ex rfl; simpa [wordE] using this
      have EX : Hid (ps[k]? = some t) := ex
      cases k with
      | zero =>
        have hz0 : decide ((0 : Int) < ((0 : Nat) : Int)) = false := by simp
        clear hcc ex hl
        go_wp2_with fail
        go_quiet (fail)
        go_wp2
        go_roundw
        case rel =>
          refine ⟨1, by omega, by go_num, fun j p q h => by omega, ?_⟩
          obtain ⟨n, e⟩ := HW.out
          exact ⟨_, by rw [e, drewN_drewN]⟩
        case measure => simp [intOf]; omega
      | succ i =>
        obtain ⟨s, ey⟩ : ∃ x, ps[i]? = some x := ⟨_, List.getElem?_eq_getElem (by omega)⟩
        have b0 : wr.cell? ⟨ba, off + i, none⟩ = some (.int .u32 s) := by have := hcc i _ 0 _ ey rfl; simpa [wordE] using this
        have EY : Hid (ps[i]? = some s) := ey
        have hj1 : decide ((0 : Int) < ((i + 1 : Nat) : Int)) = true := by simp
        clear hcc ex ey hl
        by_cases hst : s < t
        · have hd : decide (t ≤ s) = false := by simp; omega
          have HST : Hid (s < t) := hst
          clear hst
          go_wp2_with fail
          go_quiet (fail)
          go_wp2
          go_roundw
          case rel =>
            refine ⟨i + 2, by omega, by go_num, fun j p q h hp hq => ?_, ?_⟩
            · by_cases e : j + 1 < i + 1
              · exact HA.out j p q e hp hq
              · obtain rfl : j = i := by omega
                rw [EY.out] at hp
                rw [EX.out] at hq
                cases hp; cases hq
                exact HST.out
            · obtain ⟨n, e⟩ := HW.out
              exact ⟨_, by rw [e, drewN_drewN]⟩
          case measure => simp [intOf]; omega
        · have hd : decide (t ≤ s) = true := by simp; omega
          have HN : Hid (false = R) := by
            cases R with
            | false => rfl
            | true => exact absurd (HR.out.1 rfl i _ _ EY.out EX.out) hst
          clear hst
          go_wp2_with fail
          go_quiet (fail)
          go_wp2
          go_ret
          exact ⟨ret_bool HN.out, HG.out.trans (gb_drewN wr _)⟩
    · obtain rfl : k = L := by omega
      have HN : Hid (true = R) := (HR.out.2 (fun j p q hp hq => HA.out j p q (by have := (List.getElem?_eq_some_iff.1 hq).1; have := HL.out; omega) hp hq)).symm
      go_wp2
      go_ret
      exact ⟨ret_bool HN.out, HG.out⟩
set_option maxHeartbeats 2000000 in
theorem g_member (i s : Int) (ta : Option Addr) (ts : List Int) (L tc : Nat) (w : World) (hx : SRd wordE w ta ts) (hL : ts.length = L) (hz : L ≤ 35184372088832) :
    Calls Tryz.prog 68 #[.agg #[.int .i64 i, .int .i64 s, .slice ta L tc]] w fun e w' => e = .returned (.bool (memOk (i, s, ts))) ∧ w.grownBy w' none := by
  have e0 : memOk (i, s, ts) = (idOk i && stOk s && decide (1 ≤ L) && decide (L ≤ 64) && riseW ts) := by rw [memOk, hL]
  rw [e0]
  have g1 := World.grownBy_alloc w (.cells #[.int .i64 i, .int .i64 s, .slice ta L tc] 61) none
  have HG : Hid (w.grownBy (w.alloc (.cells #[.int .i64 i, .int .i64 s, .slice ta L tc] 61)) none) := g1
  have HC1 := fun w => g_isID i w
  have HC2 := fun w => g_isState s w
  have HC3 : Hid (∀ w1, w.grownBy w1 none → Calls Tryz.prog 93 #[.slice ta L tc] w1 fun e w' => e = .returned (.bool (riseW ts)) ∧ w1.grownBy w' none) := fun w1 hg => w_rising ta ts L tc w1 (hx.grown hg (by simp)) hL hz
  have k0 : (w.alloc (.cells #[.int .i64 i, .int .i64 s, .slice ta L tc] 61)).cell? ⟨w.heap.size, 0, none⟩ = some (.int .i64 i) := by
    rw [cell_of_row _ w.heap.size 0 _ 61 _ (heap_alloc_new w _)]; rfl
  have k1 : (w.alloc (.cells #[.int .i64 i, .int .i64 s, .slice ta L tc] 61)).cell? ⟨w.heap.size, 1, none⟩ = some (.int .i64 s) := by
    rw [cell_of_row _ w.heap.size 1 _ 61 _ (heap_alloc_new w _)]; rfl
  have k2 : (w.alloc (.cells #[.int .i64 i, .int .i64 s, .slice ta L tc] 61)).cell? ⟨w.heap.size, 2, none⟩ = some (.slice ta L tc) := by
    rw [cell_of_row _ w.heap.size 2 _ 61 _ (heap_alloc_new w _)]; rfl
  generalize idOk i = q1 at HC1 ⊢
  generalize stOk s = q2 at HC2 ⊢
  generalize riseW ts = q5 at HC3 ⊢
  clear e0 hx hL g1
  cases q1 with
  | false =>
    go_enter Tryz.func68, Tryz.ntmps68
    go_wp2_with (first | (go_at_call 62; refine (HC1 _).mono ?_; rintro e w' ⟨rfl, rfl⟩))
    go_ret
    exact ⟨by simp, HG.out⟩
  | true =>
    cases q2 with
    | false =>
      go_enter Tryz.func68, Tryz.ntmps68
      go_wp2_with (first | (go_at_call 62; refine (HC1 _).mono ?_; rintro e w' ⟨rfl, rfl⟩) | (go_at_call 92; refine (HC2 _).mono ?_; rintro e w' ⟨rfl, rfl⟩))
      go_ret
      exact ⟨by simp, HG.out⟩
    | true =>
      by_cases h3 : (1 : Int) ≤ (L : Int)
      · by_cases h4 : (L : Int) ≤ 64
        · have h3' : decide (1 ≤ L) = true := by simp; omega
          have h4' : decide (L ≤ 64) = true := by simp; omega
          rw [h3', h4']
          clear h3' h4'
          go_enter Tryz.func68, Tryz.ntmps68
          go_wp2_with (first | (go_at_call 62; refine (HC1 _).mono ?_; rintro e w' ⟨rfl, rfl⟩) | (go_at_call 92; refine (HC2 _).mono ?_; rintro e w' ⟨rfl, rfl⟩) | (go_at_call 93; refine (HC3.out _ HG.out).mono ?_; rintro e w9 ⟨rfl, hg9⟩))
          go_ret
          exact ⟨by simp, HG.out.trans hg9⟩
        · have h4' : decide (L ≤ 64) = false := by simp; omega
          rw [h4']
          clear h4'
          go_enter Tryz.func68, Tryz.ntmps68
          go_wp2_with (first | (go_at_call 62; refine (HC1 _).mono ?_; rintro e w' ⟨rfl, rfl⟩) | (go_at_call 92; refine (HC2 _).mono ?_; rintro e w' ⟨rfl, rfl⟩))
          go_ret
          exact ⟨by simp, HG.out⟩
      · have h3' : decide (1 ≤ L) = false := by simp; omega
        rw [h3']
        clear h3'
        go_enter Tryz.func68, Tryz.ntmps68
        go_wp2_with (first | (go_at_call 62; refine (HC1 _).mono ?_; rintro e w' ⟨rfl, rfl⟩) | (go_at_call 92; refine (HC2 _).mono ?_; rintro e w' ⟨rfl, rfl⟩))
        go_ret
        exact ⟨by simp, HG.out⟩
end Go.Proofs.YtboamjhlaehoaaaGreat

/- Rings: mayBe; regions whose callees only add to memory. -/
namespace Go.Proofs.YtboamjhlaehoaaaGreat
open Go.RowKit
set_option linter.unusedVariables false
set_option maxRecDepth 20000

/-- A world that has grown from w. -/
structure Gb (w : World) where
  w' : World
  h : w.grownBy w' none
instance (w : World) : Inhabited (Gb w) := ⟨⟨w, World.grownBy.refl _ _⟩⟩
theorem wp_region_gb {P : Program} {id : Nat} {Q : Exit → Act → World → Prop} {a : Act} {w : World} {l : List Oper} (hm : P.follows .mixedOrders = true) (hB : Region.lexB .any l.toArray = true)
    (h : wpQuiet P l.toArray (fun w' => ∃ p : Gb w, w' = p.w') (fun a' => ∀ w', (∃ p : Gb w, w' = p.w') → Q .normal a' w') l a) : (Code.region id l.toArray true).wp P Q a w :=
  wp_region_quiet (C := fun w' => ∃ p : Gb w, w' = p.w') hm hB ⟨⟨w.drew, gb_drew (World.grownBy.refl _ _)⟩, rfl⟩ (by simpa using h)
theorem Gb.cell {w : World} {a : Addr} {v : Value} (h : w.cell? a = some v) (p : Gb w) : p.w'.cell? a = some v := p.h.cell h (by simp)
theorem gb_call {P : Program} {f : FuncId} {args : Array Value} {w : World} {p : Gb w} {v : Value}
    (h : Calls P f args p.w' fun e w' => e = .returned v ∧ p.w'.grownBy w' none) : Calls P f args p.w' fun e w'' => e = .returned v ∧ ∃ p : Gb w, w'' = p.w' :=
  h.mono fun _ w' ⟨he, hg⟩ => ⟨he, ⟨w', p.h.trans hg⟩, rfl⟩
set_option maxHeartbeats 2000000 in
theorem g_mayBe (E : Int) (a : Option Addr) (raw : List MRow) (ms : List Mem) (L c : Nat) (w : World) (hx : MsRd w a ms raw) (hL : ms.length = L) (hz : L ≤ 9007199254740992) (hz2 : ∀ s ∈ ms, s.2.2.length ≤ 35184372088832) :
    Calls Tryz.prog 44 #[.agg #[.int .u64 E, .slice a L c]] w fun e w' => e = .returned (.bool (ringOk ms)) ∧ w.grownBy w' none := by
  have HX : Hid (MsRd w a ms raw) := hx
  have HL : Hid (ms.length = L) := hL
  have HZ : Hid (∀ s ∈ ms, s.2.2.length ≤ 35184372088832) := hz2
  have HR : Hid (ringOk ms = true ↔ (∀ (i : Nat) (m : Mem), ms[i]? = some m → memOk m = true) ∧ ∀ (i : Nat) (p q : Mem), ms[i]? = some p → ms[i + 1]? = some q → p.1 < q.1) := ringOk_iff ms
  generalize ringOk ms = R at HR ⊢
  have HG : Hid (w.grownBy (w.alloc (.cells #[.int .u64 E, .slice a L c] 25)) none) := World.grownBy_alloc w _ none
  have K1 : Hid ((w.alloc (.cells #[.int .u64 E, .slice a L c] 25)).cell? ⟨w.heap.size, 1, none⟩ = some (.slice a L c)) := (boxed_cells w E (.slice a L c)).2
  clear hx hL hz2
  go_enter Tryz.func44, Tryz.ntmps44
  go_wp2
  generalize w.alloc (.cells #[.int .u64 E, .slice a L c] 25) = W at HG K1 ⊢
  have HG0 : Hid (W.grownBy W none) := World.grownBy.refl _ _
  go_loopw [8] (fun t8 wr => ∃ (k : Nat), k ≤ L ∧ t8 = .int .i64 k ∧ (∀ (j : Nat) (m : Mem), j < k → ms[j]? = some m → memOk m = true) ∧ (∀ (j : Nat) (p q : Mem), j + 1 < k → ms[j]? = some p → ms[j + 1]? = some q → p.1 < q.1) ∧ W.grownBy wr none) (fun t8 _ => L - (intOf t8).toNat)
  case atStart => exact ⟨0, Nat.zero_le _, rfl, fun j m h => by omega, fun j p q h => by omega, HG0.out⟩
  case round =>
    obtain ⟨k, hk, rfl, hall, hrise, hw⟩ := hrel
    have HA : Hid (∀ (j : Nat) (m : Mem), j < k → ms[j]? = some m → memOk m = true) := hall
    have HB : Hid (∀ (j : Nat) (p q : Mem), j + 1 < k → ms[j]? = some p → ms[j + 1]? = some q → p.1 < q.1) := hrise
    have HW : Hid (W.grownBy wr none) := hw
    clear hall hw hrise
    by_cases hlt : k < L
    · have hki : (k : Int) < (L : Int) := by omega
      have hl := HL.out
      have hX := HX.out.grown (HG.out.trans HW.out)
      obtain ⟨⟨i1, s1, t1⟩, ex⟩ : ∃ x, ms[k]? = some x := ⟨_, List.getElem?_eq_getElem (by omega)⟩
      obtain ⟨ba, off, ta, tc, rfl, a0, a1, a2, rt, _⟩ := hX.cells ex
      have z1 := HZ.out _ (List.mem_of_getElem? ex)
      simp only at a0 a1 a2 rt z1
      have HC1 : Hid (∀ w1, wr.grownBy w1 none → Calls Tryz.prog 68 #[.agg #[.int .i64 i1, .int .i64 s1, .slice ta t1.length tc]] w1 fun e w' => e = .returned (.bool (memOk (i1, s1, t1))) ∧ w1.grownBy w' none) := fun w1 hg => g_member i1 s1 ta t1 _ tc w1 (rt.grown hg (by simp)) rfl z1
      have EX : Hid (ms[k]? = some (i1, s1, t1)) := ex
      have HN1 : Hid (memOk (i1, s1, t1) = false → false = R) := fun e => by
        cases R with
        | false => rfl
        | true => have := (HR.out.1 rfl).1 k _ ex; rw [e] at this; cases this
      have HS1 : Hid (memOk (i1, s1, t1) = true → ∀ (j : Nat) (m : Mem), j < k + 1 → ms[j]? = some m → memOk m = true) := fun e j m hj hm => by
        by_cases h : j < k
        · exact HA.out j m h hm
        · obtain rfl : j = k := by omega
          rw [ex] at hm; cases hm; exact e
      have c1 := HW.out.cell K1.out (by simp)
      have hg1 : wr.grownBy (wr.alloc (.cells #[.int .i64 i1, .int .i64 s1, .slice ta t1.length tc] 61)) none := World.grownBy_alloc wr _ none
      have d0 : (wr.alloc (.cells #[.int .i64 i1, .int .i64 s1, .slice ta t1.length tc] 61)).cell? ⟨wr.heap.size, 0, none⟩ = some (.int .i64 i1) := by
        rw [cell_of_row _ wr.heap.size 0 _ 61 _ (heap_alloc_new wr _)]; rfl
      have d1 : (wr.alloc (.cells #[.int .i64 i1, .int .i64 s1, .slice ta t1.length tc] 61)).cell? ⟨wr.heap.size, 1, none⟩ = some (.int .i64 s1) := by
        rw [cell_of_row _ wr.heap.size 1 _ 61 _ (heap_alloc_new wr _)]; rfl
      have d2 : (wr.alloc (.cells #[.int .i64 i1, .int .i64 s1, .slice ta t1.length tc] 61)).cell? ⟨wr.heap.size, 2, none⟩ = some (.slice ta t1.length tc) := by
        rw [cell_of_row _ wr.heap.size 2 _ 61 _ (heap_alloc_new wr _)]; rfl
      have HXX : Hid (MsRd wr (some ⟨ba, off, none⟩) ms raw) := hX
      clear ex hl hX rt z1
      generalize t1.length = n1 at *
      obtain ⟨W2, eW2⟩ : ∃ W2, wr.alloc (.cells #[.int .i64 i1, .int .i64 s1, .slice ta n1 tc] 61) = W2 := ⟨_, rfl⟩
      rw [eW2] at hg1 d0 d1 d2
      have EW2 : Hid (wr.alloc (.cells #[.int .i64 i1, .int .i64 s1, .slice ta n1 tc] 61) = W2) := eW2
      clear eW2
      have e0 : ∀ p : Gb W2, p.w'.cell? ⟨wr.heap.size, 0, none⟩ = some (.int .i64 i1) := Gb.cell d0
      have e1 : ∀ p : Gb W2, p.w'.cell? ⟨wr.heap.size, 1, none⟩ = some (.int .i64 s1) := Gb.cell d1
      have e2 : ∀ p : Gb W2, p.w'.cell? ⟨wr.heap.size, 2, none⟩ = some (.slice ta n1 tc) := Gb.cell d2
      have e3 : ∀ p : Gb W2, p.w'.cell? ⟨w.heap.size, 1, none⟩ = some (.slice (some ⟨ba, off, none⟩) L c) := Gb.cell (hg1.cell c1 (by simp))
      have HC2 : Hid (∀ p : Gb W2, Calls Tryz.prog 68 #[.agg #[.int .i64 i1, .int .i64 s1, .slice ta n1 tc]] p.w' fun e w' => e = .returned (.bool (memOk (i1, s1, t1))) ∧ p.w'.grownBy w' none) := fun p => HC1.out _ (hg1.trans p.h)
      have HGW : Hid (∀ wq, W2.grownBy wq none → W.grownBy wq none) := fun wq h => HW.out.trans (hg1.trans h)
      cases qm : memOk (i1, s1, t1) with
      | false =>
        have HN : Hid (false = R) := HN1.out qm
        rw [qm] at HC2
        go_wp2_with fail
        rw [EW2.out]
        refine wp_region_gb (by kernel_rfl) (by kernel_rfl) ?_
        repeat ((with_reducible refine wpQuiet_step (fun K hK => ?_)); go_simp; first | (refine hK _ ?_; clear hK K) | (apply Exists.intro; refine ⟨fun _ => ?_, hK _ ?_⟩; (go_at_call 68; exact gb_call (HC2.out _)); clear hK K))
        with_reducible refine wpQuiet_nil ?_
        rintro wq ⟨p9, hp9⟩
        have hq : W2.grownBy wq none := hp9 ▸ p9.h
        clear hp9
        clear p9
        have HQ : Hid (W.grownBy wq none) := HGW.out wq hq
        clear hq
        go_wp2
        go_ret
        exact ⟨ret_bool HN.out, HG.out.trans HQ.out⟩
      | true =>
        have HS : Hid (∀ (j : Nat) (m : Mem), j < k + 1 → ms[j]? = some m → memOk m = true) := HS1.out qm
        rw [qm] at HC2
        clear HS1 HN1
        cases k with
        | zero =>
          have hz0 : decide ((0 : Int) < ((0 : Nat) : Int)) = false := by simp
          rw [Nat.zero_mul, Nat.add_zero] at a0 a1 a2
          go_wp2_with fail
          rw [EW2.out]
          refine wp_region_gb (by kernel_rfl) (by kernel_rfl) ?_
          repeat ((with_reducible refine wpQuiet_step (fun K hK => ?_)); go_simp; first | (refine hK _ ?_; clear hK K) | (apply Exists.intro; refine ⟨fun _ => ?_, hK _ ?_⟩; (go_at_call 68; exact gb_call (HC2.out _)); clear hK K))
          with_reducible refine wpQuiet_nil ?_
          rintro wq ⟨p9, hp9⟩
          have hq : W2.grownBy wq none := hp9 ▸ p9.h
          clear hp9
          clear p9
          have HQ : Hid (W.grownBy wq none) := HGW.out wq hq
          clear hq
          go_wp2
          go_roundw
          case rel => exact ⟨1, by omega, by go_num, fun j m hj hm => HS.out j m hj hm, fun j p q h => by omega, HQ.out⟩
          case measure => simp [intOf]; omega
        | succ i =>
          obtain ⟨⟨i0, s0, t0⟩, ey⟩ : ∃ x, ms[i]? = some x := ⟨_, List.getElem?_eq_getElem (by have := HL.out; omega)⟩
          have b0 : wr.cell? ⟨ba, off + i * 3, none⟩ = some (.int .i64 i0) := by
            obtain ⟨b', off', ta', tc', e', b0, _⟩ := HXX.out.cells ey
            cases e'
            exact b0
          have e4 : ∀ p : Gb W2, p.w'.cell? ⟨ba, off + i * 3, none⟩ = some (.int .i64 i0) := Gb.cell (hg1.cell b0 (by simp))
          have EY : Hid (ms[i]? = some (i0, s0, t0)) := ey
          have hj1 : decide ((0 : Int) < ((i + 1 : Nat) : Int)) = true := by simp
          have hwr : IntKind.i64.wrap (i : Int) = (i : Int) := by rw [IntKind.wrap_i64]; omega
          have hil : (i : Int) < (L : Int) := by omega
          clear ey b0
          by_cases hst : i0 < i1
          · have hd : decide (i1 ≤ i0) = false := by simp; omega
            have HST : Hid (i0 < i1) := hst
            clear hst
            go_wp2_with fail
            rw [EW2.out]
            refine wp_region_gb (by kernel_rfl) (by kernel_rfl) ?_
            repeat ((with_reducible refine wpQuiet_step (fun K hK => ?_)); go_simp; first | (refine hK _ ?_; clear hK K) | (apply Exists.intro; refine ⟨fun _ => ?_, hK _ ?_⟩; (go_at_call 68; exact gb_call (HC2.out _)); clear hK K))
            with_reducible refine wpQuiet_nil ?_
            rintro wq ⟨p9, hp9⟩
            have hq : W2.grownBy wq none := hp9 ▸ p9.h
            clear hp9
            clear p9
            have HQ : Hid (W.grownBy wq none) := HGW.out wq hq
            clear hq
            go_wp2
            go_roundw
            case rel =>
              refine ⟨i + 2, by omega, by go_num, fun j m hj hm => HS.out j m hj hm, fun j p q h hp hq => ?_, HQ.out⟩
              by_cases e : j + 1 < i + 1
              · exact HB.out j p q e hp hq
              · obtain rfl : j = i := by omega
                rw [EY.out] at hp
                rw [EX.out] at hq
                cases hp; cases hq
                exact HST.out
            case measure => simp [intOf]; omega
          · have hd : decide (i1 ≤ i0) = true := by simp; omega
            have HN : Hid (false = R) := by
              cases R with
              | false => rfl
              | true => exact absurd ((HR.out.1 rfl).2 i _ _ EY.out EX.out) hst
            clear hst
            go_wp2_with fail
            rw [EW2.out]
            refine wp_region_gb (by kernel_rfl) (by kernel_rfl) ?_
            repeat ((with_reducible refine wpQuiet_step (fun K hK => ?_)); go_simp; first | (refine hK _ ?_; clear hK K) | (apply Exists.intro; refine ⟨fun _ => ?_, hK _ ?_⟩; (go_at_call 68; exact gb_call (HC2.out _)); clear hK K))
            with_reducible refine wpQuiet_nil ?_
            rintro wq ⟨p9, hp9⟩
            have hq : W2.grownBy wq none := hp9 ▸ p9.h
            clear hp9
            clear p9
            have HQ : Hid (W.grownBy wq none) := HGW.out wq hq
            clear hq
            go_wp2
            go_ret
            exact ⟨ret_bool HN.out, HG.out.trans HQ.out⟩
    · obtain rfl : k = L := by omega
      have HN : Hid (true = R) := (HR.out.2 ⟨fun j m hm => HA.out j m (by have := (List.getElem?_eq_some_iff.1 hm).1; have := HL.out; omega) hm, fun j p q hp hq => HB.out j p q (by have := (List.getElem?_eq_some_iff.1 hq).1; have := HL.out; omega) hp hq⟩).symm
      go_wp2
      go_ret
      exact ⟨ret_bool HN.out, HG.out.trans HW.out⟩
end Go.Proofs.YtboamjhlaehoaaaGreat

