/- Several texts in one: Re, Rf, Rg. -/
import Derived.Test.YtboamjhlaehoaaaGreatMb
import Derived.Lib.Bytes
/- Rings: where a member stands. -/
namespace Go.Proofs.YtboamjhlaehoaaaGreat
open Go.RowKit
set_option linter.unusedVariables false
set_option maxRecDepth 20000

theorem countP_place {α : Type} (f : α → Bool) (l : List α) (k : Nat) (hk : k ≤ l.length) (h : ∀ i a, l[i]? = some a → (f a = true ↔ i < k)) : l.countP f = k := by
  induction l generalizing k with
  | nil => simp at hk; simp [hk]
  | cons x r ih =>
    cases k with
    | zero =>
      rw [List.countP_eq_zero]
      intro a ha
      obtain ⟨i, hi⟩ := List.getElem?_of_mem ha
      have := h i a hi
      simp at this
      simp [this]
    | succ k =>
      have h0 := (h 0 x rfl).2 (by omega)
      rw [List.countP_cons_of_pos h0, ih k (by simpa using hk) (fun i a hi => ?_)]
      have := h (i + 1) a (by simpa using hi)
      rw [this]
      omega
/-- What cmp.Compare says. -/
def cmpI (a b : Int) : Int := if a < b then -1 else if b < a then 1 else 0
theorem cmpI_neg (a b : Int) : cmpI a b < 0 ↔ a < b := by
  unfold cmpI
  split
  · constructor
    · intro h; assumption
    · intro h; omega
  · split
    · constructor
      · intro h; omega
      · intro h; omega
    · constructor
      · intro h; omega
      · intro h; omega
theorem cmpI_zero (a b : Int) : cmpI a b = 0 ↔ a = b := by
  unfold cmpI
  split
  · constructor
    · intro h; simp at h
    · intro h; omega
  · split
    · constructor
      · intro h; simp at h
      · intro h; omega
    · constructor
      · intro h; omega
      · intro h; rfl
theorem g_compare (a b : Int) (w : World) : Calls Tryz.prog 71 #[.int .i64 a, .int .i64 b] w fun e w' => e = .returned (.int .i64 (cmpI a b)) ∧ w' = w := by
  have ha : (a != a) = false := by simp
  have hb : (b != b) = false := by simp
  by_cases h1 : a < b
  · rw [show cmpI a b = -1 by simp [cmpI, h1]]
    go_enter Tryz.func71, Tryz.ntmps71
    go_wp2
    go_ret
    exact ⟨rfl, rfl⟩
  · by_cases h2 : b < a
    · rw [show cmpI a b = 1 by simp [cmpI, h1, h2]]
      go_enter Tryz.func71, Tryz.ntmps71
      go_wp2
      go_ret
      exact ⟨rfl, rfl⟩
    · rw [show cmpI a b = 0 by simp [cmpI, h1, h2]]
      go_enter Tryz.func71, Tryz.ntmps71
      go_wp2
      go_ret
      exact ⟨rfl, rfl⟩
theorem g_byID (i s : Int) (V : Value) (id : Int) (w : World) : Calls Tryz.prog 70 #[.agg #[.int .i64 i, .int .i64 s, V], .int .i64 id] w fun e w' => e = .returned (.int .i64 (cmpI i id)) ∧ w.grownBy w' none := by
  have HC := fun w => g_compare i id w
  generalize cmpI i id = z at HC ⊢
  have HG : Hid (w.grownBy (w.alloc (.cells #[.int .i64 i, .int .i64 s, V] 61)) none) := World.grownBy_alloc w _ none
  go_enter Tryz.func70, Tryz.ntmps70
  go_wp2_with (go_at_call 71; refine (HC _).mono ?_; rintro e w' ⟨rfl, rfl⟩)
  go_ret
  exact ⟨rfl, HG.out⟩
/-- Where an ID stands, or would. -/
def posI (ms : List Mem) (id : Int) : Nat := ms.countP (fun m => decide (m.1 < id))
def hasI (ms : List Mem) (id : Int) : Bool := decide ((ms[posI ms id]?).map (·.1) = some id)
def RiseM (ms : List Mem) : Prop := (ms.map (·.1)).Pairwise (· < ·)
theorem RiseM.lt {ms : List Mem} (h : RiseM ms) {i j : Nat} {x y : Mem} (hij : i < j) (hx : ms[i]? = some x) (hy : ms[j]? = some y) : x.1 < y.1 := by
  unfold RiseM at h
  rw [List.pairwise_iff_getElem] at h
  obtain ⟨hi, ex⟩ := List.getElem?_eq_some_iff.1 hx
  obtain ⟨hj, ey⟩ := List.getElem?_eq_some_iff.1 hy
  have := h i j (by simpa using hi) (by simpa using hj) hij
  simpa [ex, ey] using this
theorem ringOk_rise {ms : List Mem} (h : ringOk ms = true) : RiseM ms := by
  rw [ringOk, Bool.and_eq_true, riseW_pw] at h
  exact h.2
theorem posI_le (ms : List Mem) (id : Int) : posI ms id ≤ ms.length := List.countP_le_length
set_option maxHeartbeats 2000000 in
theorem g_bsearch (ms : List Mem) (raw : List MRow) (id : Int) (a : Option Addr) (n c : Nat) (w : World) (hr : MsRd w a ms raw) (hn : ms.length = n) (hz : n ≤ 4194304) (hs : RiseM ms) :
    Calls Tryz.prog 69 #[.slice a n c, .int .i64 id, .func (.func 70) #[] #[]] w fun e w' => e = .returned (.tuple #[.int .i64 (posI ms id), .bool (hasI ms id)]) ∧ w.grownBy w' none := by
  have HR : Hid (MsRd w a ms raw) := hr
  have HN : Hid (ms.length = n) := hn
  have HE : Hid (∀ (i s : Int) (V : Value) (w1 : World), Calls Tryz.prog 70 #[.agg #[.int .i64 i, .int .i64 s, V], .int .i64 id] w1 fun r w' => r = .returned (.int .i64 (cmpI i id)) ∧ w1.grownBy w' none) := fun i s V w1 => g_byID i s V id w1
  have HMO : Hid (∀ i j : Nat, i ≤ j → ∀ x y : Mem, ms[i]? = some x → ms[j]? = some y → cmpI y.1 id < 0 → cmpI x.1 id < 0) := fun i j hij x y hx hy hc => by
    rw [cmpI_neg] at hc ⊢
    by_cases e : i = j
    · subst e; rw [hx] at hy; cases hy; exact hc
    · have := hs.lt (by omega) hx hy; omega
  have HI : Hid (∀ k, k ≤ n → (∀ i e, ms[i]? = some e → i < k → cmpI e.1 id < 0) → (∀ i e, ms[i]? = some e → k ≤ i → 0 ≤ cmpI e.1 id) → posI ms id = k) := fun k hk h1 h2 => by
    unfold posI
    refine countP_place _ _ k (by omega) (fun i x hx => ?_)
    simp only [decide_eq_true_eq]
    constructor
    · intro h
      by_cases hki : i < k
      · exact hki
      · have h3 := h2 i x hx (by omega)
        have h4 := (cmpI_neg x.1 id).2 h
        omega
    · intro h
      exact (cmpI_neg x.1 id).1 (h1 i x hx h)
  have HF1 : Hid (∀ m : Mem, ms[posI ms id]? = some m → (cmpI m.1 id == 0) = hasI ms id) := fun m hm => by
    unfold hasI
    rw [hm, Bool.eq_iff_iff]
    simp [cmpI_zero]
  have HF2 : Hid (ms.length ≤ posI ms id → false = hasI ms id) := fun h => by
    unfold hasI
    rw [List.getElem?_eq_none h]
    simp
  generalize hasI ms id = F at HF1 HF2 ⊢
  generalize posI ms id = I at HI HF1 HF2 ⊢
  clear hr hn hs
  go_enter Tryz.func69, Tryz.ntmps69
  go_wp2
  go_loopw [9, 10] (fun i j wr => ∃ x y : Nat, i = .int .i64 x ∧ j = .int .i64 y ∧ x ≤ y ∧ y ≤ n ∧ (∀ k e, ms[k]? = some e → k < x → cmpI e.1 id < 0) ∧ (∀ k e, ms[k]? = some e → y ≤ k → 0 ≤ cmpI e.1 id) ∧ w.grownBy wr none) (fun i j _ => (intOf j).toNat - (intOf i).toNat)
  case atStart => exact ⟨0, n, rfl, rfl, Nat.zero_le _, Nat.le_refl _, fun k e _ h => by omega, fun k e h1 h => by have := (List.getElem?_eq_some_iff.1 h1).1; have := HN.out; omega, World.grownBy.refl _ _⟩
  case round =>
    obtain ⟨x, y, rfl, rfl, hxy, hyn, hlo, hhi, hg⟩ := hrel
    have HLO : Hid (∀ k e, ms[k]? = some e → k < x → cmpI e.1 id < 0) := hlo
    have HHI : Hid (∀ k e, ms[k]? = some e → y ≤ k → 0 ≤ cmpI e.1 id) := hhi
    have HG : Hid (w.grownBy wr none) := hg
    clear hlo hhi hg
    by_cases hlt : x < y
    · obtain ⟨m, hmm⟩ : ∃ m, m = (x + y) / 2 := ⟨_, rfl⟩
      have hm1 : x ≤ m := by omega
      have hm2 : m < y := by omega
      have hi : (x : Int) < (y : Int) := by omega
      have hnl := HN.out
      obtain ⟨⟨i0, s0, t0⟩, hem⟩ : ∃ e, ms[m]? = some e := ⟨_, List.getElem?_eq_getElem (by omega)⟩
      obtain ⟨b, off, ta, tc, rfl, c0, c1, c2, _⟩ := (HR.out.grown HG.out).cells hem
      simp only at c0 c1 c2
      have hEM : ((x : Int) + (y : Int)) / 2 = (m : Int) := by omega
      have hmn : (m : Int) < (n : Int) := by omega
      have HEM : Hid (ms[m]? = some (i0, s0, t0)) := hem
      generalize t0.length = q at c2
      have HC := HE.out i0 s0 (.slice ta q tc) wr
      clear hmm hem hnl
      go_wp2_with fail
      refine HC.mono ?_
      rintro r w1 ⟨rfl, hg1⟩
      have HG1 : Hid (w.grownBy w1 none) := HG.out.trans hg1
      clear hg1
      by_cases hp : cmpI i0 id < 0
      · have hd : decide (cmpI i0 id < 0) = true := by simpa using hp
        have HP : Hid (cmpI i0 id < 0) := hp
        generalize cmpI i0 id = z at hd hp ⊢
        go_wp2
        go_roundw
        case rel => exact ⟨m + 1, y, by go_num, rfl, by omega, hyn, fun k e' h1 h2 => HMO.out k m (by omega) e' _ h1 HEM.out HP.out, HHI.out, HG1.out⟩
        case measure => simp [intOf]; omega
      · have hd : decide (cmpI i0 id < 0) = false := by simpa using hp
        have HP : Hid (0 ≤ cmpI i0 id) := by show _ ≤ _; omega
        generalize cmpI i0 id = z at hd hp ⊢
        go_wp2
        go_roundw
        case rel => exact ⟨x, m, rfl, rfl, hm1, by omega, HLO.out, fun k e' h1 h2 => by
          by_cases h3 : cmpI e'.1 id < 0
          · exact absurd (HMO.out m k h2 _ e' HEM.out h1 h3) (by have := HP.out; simp only; omega)
          · omega, HG1.out⟩
        case measure => simp [intOf]; omega
    · have hi : ¬ (x : Int) < (y : Int) := by omega
      obtain rfl : x = y := by omega
      obtain rfl : I = x := HI.out x hyn HLO.out HHI.out
      by_cases hxn : I < n
      · have hxi : (I : Int) < (n : Int) := by omega
        have hnl := HN.out
        obtain ⟨⟨i0, s0, t0⟩, hem⟩ : ∃ e, ms[I]? = some e := ⟨_, List.getElem?_eq_getElem (by omega)⟩
        obtain ⟨b, off, ta, tc, rfl, c0, c1, c2, _⟩ := (HR.out.grown HG.out).cells hem
        simp only at c0 c1 c2
        generalize t0.length = q at c2
        have HC := HE.out i0 s0 (.slice ta q tc) wr
        have HF : Hid ((cmpI i0 id == 0) = F) := HF1.out _ hem
        clear hem hnl
        go_wp2_with fail
        refine HC.mono ?_
        rintro r w1 ⟨rfl, hg1⟩
        have HG1 : Hid (w.grownBy w1 none) := HG.out.trans hg1
        clear hg1
        generalize cmpI i0 id = z at HF ⊢
        go_wp2
        go_ret2
        exact ⟨by rw [← HF.out]; rfl, HG1.out⟩
      · have hxi : ¬ (I : Int) < (n : Int) := by omega
        have HF : Hid (false = F) := HF2.out (by have := HN.out; omega)
        go_wp2
        go_ret2
        exact ⟨by rw [← HF.out]; rfl, HG.out⟩
theorem g_find (ms : List Mem) (raw : List MRow) (id : Int) (a : Option Addr) (n c : Nat) (w : World) (hr : MsRd w a ms raw) (hn : ms.length = n) (hz : n ≤ 4194304) (hs : RiseM ms) :
    Calls Tryz.prog 45 #[.slice a n c, .int .i64 id] w fun e w' => e = .returned (.tuple #[.int .i64 (posI ms id), .bool (hasI ms id)]) ∧ w.grownBy w' none := by
  have HC := g_bsearch ms raw id a n c w hr hn hz hs
  generalize posI ms id = I at HC ⊢
  generalize hasI ms id = F at HC ⊢
  clear hr hn hs
  go_enter Tryz.func45, Tryz.ntmps45
  go_wp2_with fail
  refine HC.mono ?_
  rintro r w1 ⟨rfl, hg1⟩
  go_wp2
  go_ret2
  exact ⟨rfl, hg1⟩
end Go.Proofs.YtboamjhlaehoaaaGreat

/- Rings: members that a call owns; CopyRing. -/
namespace Go.Proofs.YtboamjhlaehoaaaGreat
open Go.RowKit
set_option linter.unusedVariables false
set_option maxRecDepth 20000

theorem free_row {w : World} {g : Nat} {cs : Array Value} {t : TypeId} (h : w.heap[g]? = some (.cells cs t (0, 0))) (i : Nat) : w.frozen? ⟨g, i, none⟩ = false := by
  unfold World.frozen?
  simp only [h]
  simp
theorem pair_set {w : World} {g : Nat} {x y : Value} {t : TypeId} (h : w.heap[g]? = some (.cells #[x, y] t (0, 0))) (u v : Value) : ((w.setCell ⟨g, 0, none⟩ u).setCell ⟨g, 1, none⟩ v).heap[g]? = some (.cells #[u, v] t (0, 0)) := by
  have h1 : (w.setCell ⟨g, 0, none⟩ u).heap[g]? = some (.cells #[u, y] t (0, 0)) := by simp [World.setCell, Array.getElem?_modify, h]
  simp [World.setCell, Array.getElem?_modify] at h1 ⊢
  simp [h]
theorem flat_set {α : Type} (E : Elem α) : ∀ (l : List α) (i : Nat) (x x' : α) (j : Nat) (u : Value), l[i]? = some x → j < E.size → E.cells x' = (E.cells x).set j u → E.flat (l.set i x') = (E.flat l).set (i * E.size + j) u := by
  intro l
  induction l with
  | nil => intro i x x' j u h; simp at h
  | cons y r ih =>
    intro i x x' j u h hj hc
    have hl := E.len y
    unfold Elem.flat at ih ⊢
    cases i with
    | zero =>
      simp only [List.getElem?_cons_zero, Option.some.injEq] at h
      subst h
      rw [List.set_cons_zero, List.flatMap_cons, List.flatMap_cons, hc, Nat.zero_mul, Nat.zero_add, List.set_append_left _ _ (by omega)]
    | succ i =>
      simp only [List.getElem?_cons_succ] at h
      rw [List.set_cons_succ, List.flatMap_cons, List.flatMap_cons, ih i x x' j u h hj hc, List.set_append_right _ _ (by rw [hl, Nat.succ_mul]; omega), hl, show (i + 1) * E.size + j - E.size = i * E.size + j by rw [Nat.succ_mul]; omega]
theorem sown_set {α : Type} {E : Elem α} {e : TypeId} {w : World} {base g n c j : Nat} {l l' : List α} {u : Value} (h : SOwn E e w base (.slice (some ⟨g, 0, none⟩) n c) n l) (hl : E.flat l' = (E.flat l).set j u) : SOwn E e (w.setCell ⟨g, j, none⟩ u) base (.slice (some ⟨g, 0, none⟩) n c) n l' := by
  refine ⟨by rw [hl, List.length_set]; exact h.1, ?_⟩
  rcases h.2 with ⟨h', _⟩ | ⟨g', cap, cur, h', h3, h4, h5, h6, h7, h8⟩
  · simp at h'
  · simp only [Value.slice.injEq, Option.some.injEq, Addr.mk.injEq, and_true, true_and] at h'
    obtain ⟨rfl, rfl⟩ := h'
    refine .inr ⟨g, c, cur.setIfInBounds j u, rfl, h3, ?_, h5, h6, by simpa using h7, ?_⟩
    · rw [setCell_eq_setRow w g j cur e (0, 0) u h4, setRow_heap w g cur _ e _ h4]
    · rw [hl, ← h8, Array.toList_setIfInBounds, List.take_set]
theorem sown_free {α : Type} {E : Elem α} {e : TypeId} {w : World} {base g n c : Nat} {l : List α} (h : SOwn E e w base (.slice (some ⟨g, 0, none⟩) n c) n l) (j : Nat) : w.frozen? ⟨g, j, none⟩ = false := by
  obtain ⟨cs, h⟩ := sown_typed h
  exact free_row h j
/-- A member's row that a call owns. -/
structure MOwn (w : World) (base : Nat) (r : MRow) (m : Mem) : Prop where
  id : r.1 = m.1
  st : r.2.1 = m.2.1
  tn : r.2.2.2.1 = m.2.2.length
  own : SOwn wordE 43 w base (.slice r.2.2.1 m.2.2.length r.2.2.2.2) m.2.2.length m.2.2
theorem MOwn.stay {w w' : World} {base : Nat} {r : MRow} {m : Mem} (h : MOwn w base r m) (hs : ∀ k, Typed w k 43 → base ≤ k → w'.heap[k]? = w.heap[k]?) : MOwn w' base r m :=
  ⟨h.id, h.st, h.tn, sown_stay h.own (fun x hx => by
    have h2 := h.own
    rw [hx] at h2
    exact hs _ (sown_typed h2) (SOwn.block h2 x.block rfl).1)⟩
theorem MOwn.rd {w : World} {base : Nat} {r : MRow} {m : Mem} (h : MOwn w base r m) : MRd w r m := ⟨h.id, h.st, h.tn, SOwn.rd h.own, (sown_cap h.own).2⟩
theorem MOwn.base {w : World} {base base' : Nat} {r : MRow} {m : Mem} (h : MOwn w base r m) (hb : base' ≤ base) : MOwn w base' r m := ⟨h.id, h.st, h.tn, SOwn.base h.own hb⟩
/-- Members that a call owns. -/
structure MsOwn (w : World) (base : Nat) (v : Value) (ms : List Mem) (raw : List MRow) : Prop where
  row : SOwn memE 61 w base v ms.length raw
  mem : ∀ (i : Nat) (r : MRow) (m : Mem), raw[i]? = some r → ms[i]? = some m → MOwn w base r m
theorem MsOwn.nil (w : World) (base : Nat) : MsOwn w base (.slice none 0 0) [] [] := ⟨SOwn.nil 61 w base, fun i r m hr => by simp at hr⟩
theorem MsOwn.stay {w w' : World} {base : Nat} {v : Value} {ms : List Mem} {raw : List MRow} (h : MsOwn w base v ms raw) (hs : ∀ k, base ≤ k → k < w.heap.size → w'.heap[k]? = w.heap[k]?) : MsOwn w' base v ms raw := by
  obtain ⟨a, c, rfl⟩ := sown_slice h.row
  exact ⟨sown_stay h.row (fun x hx => hs _ (SOwn.block h.row x.block (by rw [hx]; rfl)).1 (SOwn.block h.row x.block (by rw [hx]; rfl)).2), fun i r m hr hm => (h.mem i r m hr hm).stay (fun k hk hb => hs k hb (typed_lt hk))⟩
theorem MsOwn.kept {w w' : World} {row : Option Nat} {base : Nat} {v : Value} {ms : List Mem} {raw : List MRow} (h : MsOwn w base v ms raw) (hg : w.grownBy w' row) (hb : ∀ k, row = some k → k < base ∨ w.heap.size ≤ k) : MsOwn w' base v ms raw :=
  h.stay (fun k h1 h2 => hg.block k h2 (fun e => by have := hb k e.symm; omega))
theorem MsOwn.base {w : World} {base base' : Nat} {v : Value} {ms : List Mem} {raw : List MRow} (h : MsOwn w base v ms raw) (hb : base' ≤ base) : MsOwn w base' v ms raw := ⟨SOwn.base h.row hb, fun i r m hr hm => (h.mem i r m hr hm).base hb⟩
theorem MsOwn.read {w : World} {base : Nat} {v : Value} {ms : List Mem} {raw : List MRow} (h : MsOwn w base v ms raw) : ∃ a c, v = .slice a ms.length c ∧ MsRd w a ms raw ∧ (a = none → c = 0) := by
  obtain ⟨a, c, rfl⟩ := sown_slice h.row
  exact ⟨a, c, rfl, ⟨SOwn.rd h.row, SOwn.len h.row, fun i r m hr hm => (h.mem i r m hr hm).rd⟩, (sown_cap h.row).2⟩
theorem MsOwn.rd {w : World} {base c : Nat} {a : Option Addr} {n : Nat} {ms : List Mem} {raw : List MRow} (h : MsOwn w base (.slice a n c) ms raw) : MsRd w a ms raw ∧ (a = none → c = 0) := by
  obtain ⟨a', c', e, h1, h2⟩ := h.read
  simp only [Value.slice.injEq] at e
  obtain ⟨rfl, rfl, rfl⟩ := e
  exact ⟨h1, h2⟩
/-- A member is appended to those that a call owns. -/
theorem own_append {w w' : World} {base : Nat} {v v' : Value} {ms : List Mem} {raw : List MRow} {m : Mem} {r : MRow} (h : MsOwn w base v ms raw)
    (ho : SOwn memE 61 w' base v' (ms.length + 1) (raw ++ [r])) (hg : w.grownBy w' v.ownBlock) (hr : MOwn w base r m) : MsOwn w' base v' (ms ++ [m]) (raw ++ [r]) := by
  have hT : ∀ k, v.ownBlock = some k → Typed w k 61 := fun k hk => by
    obtain ⟨a, c, rfl⟩ := sown_slice h.row
    cases a with
    | none => simp [Value.ownBlock] at hk
    | some x =>
      have : x.block = k := by simpa [Value.ownBlock] using hk
      rw [← this]; exact sown_typed h.row
  have st : ∀ k, Typed w k 43 → base ≤ k → w'.heap[k]? = w.heap[k]? := fun b hb _ => hg.block b (typed_lt hb) (fun e1 => Typed.ne hb (hT b e1.symm) (by decide) rfl)
  have hrl : raw.length = ms.length := SOwn.len h.row
  refine ⟨by rw [List.length_append]; exact ho, fun i r' t hr' ht => ?_⟩
  by_cases hi : i < raw.length
  · rw [List.getElem?_append_left hi] at hr'
    rw [List.getElem?_append_left (by omega)] at ht
    exact (h.mem i r' t hr' ht).stay st
  · rw [List.getElem?_append_right (by omega)] at hr' ht
    rw [hrl] at hr'
    obtain ⟨h7, _⟩ := List.getElem?_eq_some_iff.1 hr'
    simp at h7
    rw [show i - ms.length = 0 by omega] at hr' ht
    simp at hr' ht
    subst hr' ht
    exact hr.stay st
theorem isz25 : (Tryz.prog.info? 25).map (·.size) = some 2 := by kernel_rfl
theorem cell2 {w : World} {g : Nat} {x y : Value} {t : TypeId} (h : w.heap[g]? = some (.cells #[x, y] t (0, 0))) : w.cell? ⟨g, 0, none⟩ = some x ∧ w.cell? ⟨g, 1, none⟩ = some y := by
  constructor
  · rw [cell_of_row w g 0 _ _ _ h]; rfl
  · rw [cell_of_row w g 1 _ _ _ h]; rfl
theorem cell3 {w : World} {g : Nat} {x y z : Value} {t : TypeId} (h : w.heap[g]? = some (.cells #[x, y, z] t (0, 0))) : w.cell? ⟨g, 0, none⟩ = some x ∧ w.cell? ⟨g, 1, none⟩ = some y ∧ w.cell? ⟨g, 2, none⟩ = some z := by
  refine ⟨?_, ?_, ?_⟩
  · rw [cell_of_row w g 0 _ _ _ h]; rfl
  · rw [cell_of_row w g 1 _ _ _ h]; rfl
  · rw [cell_of_row w g 2 _ _ _ h]; rfl
theorem set2 {w : World} {g : Nat} {x y : Value} {t : TypeId} (h : w.heap[g]? = some (.cells #[x, y] t (0, 0))) (v : Value) : (w.setCell ⟨g, 1, none⟩ v).heap[g]? = some (.cells #[x, v] t (0, 0)) := by
  simp [World.setCell, Array.getElem?_modify, h]
theorem set3 {w : World} {g : Nat} {x y z : Value} {t : TypeId} (h : w.heap[g]? = some (.cells #[x, y, z] t (0, 0))) (v : Value) : (w.setCell ⟨g, 2, none⟩ v).heap[g]? = some (.cells #[x, y, v] t (0, 0)) := by
  simp [World.setCell, Array.getElem?_modify, h]
theorem set_other {w : World} {g k j : Nat} (v : Value) (h : k ≠ g) : (w.setCell ⟨g, j, none⟩ v).heap[k]? = w.heap[k]? := Below.heap_setCell w ⟨g, j, none⟩ v k (fun e => h (by simpa using e))
/-- The boxes that CopyRing lays. -/
structure CB (w : World) (N : Nat) (E : Int) (V0 V : Value) : Prop where
  arg : w.heap[N]? = some (.cells #[.int .u64 E, V0] 25 (0, 0))
  res : w.heap[N + 1]? = some (.cells #[.int .u64 0, .slice none 0 0] 25 (0, 0))
  out : w.heap[N + 2]? = some (.cells #[.int .u64 E, V] 25 (0, 0))
theorem CB.made (w : World) (E : Int) (V0 : Value) : CB (((w.alloc (.cells #[.int .u64 E, V0] 25)).alloc (.cells #[.int .u64 0, .slice none 0 0] 25)).alloc (.cells #[.int .u64 E, .slice none 0 0] 25)) w.heap.size E V0 (.slice none 0 0) := by
  have s1 := size_alloc w (.cells #[.int .u64 E, V0] 25)
  have s2 := size_alloc (w.alloc (.cells #[.int .u64 E, V0] 25)) (.cells #[.int .u64 0, .slice none 0 0] 25)
  have g2 := World.grownBy_alloc (w.alloc (.cells #[.int .u64 E, V0] 25)) (.cells #[.int .u64 0, .slice none 0 0] 25) none
  have g3 := World.grownBy_alloc ((w.alloc (.cells #[.int .u64 E, V0] 25)).alloc (.cells #[.int .u64 0, .slice none 0 0] 25)) (.cells #[.int .u64 E, .slice none 0 0] 25) none
  refine ⟨?_, ?_, ?_⟩
  · rw [(g2.trans g3).block _ (by omega) (by simp)]; exact heap_alloc_new w _
  · rw [g3.block _ (by omega) (by simp), ← s1]; exact heap_alloc_new _ _
  · have e : w.heap.size + 2 = ((w.alloc (.cells #[.int .u64 E, V0] 25)).alloc (.cells #[.int .u64 0, .slice none 0 0] 25)).heap.size := by omega
    rw [e]; exact heap_alloc_new _ _
theorem CB.grown {w w' : World} {row : Option Nat} {N : Nat} {E : Int} {V0 V : Value} (h : CB w N E V0 V) (hg : w.grownBy w' row) (hr : ∀ k, row = some k → N + 2 < k) : CB w' N E V0 V :=
  have f : ∀ k, k ≤ N + 2 → w.heap[k]?.isSome = true → w'.heap[k]? = w.heap[k]? := fun k hk hs => hg.block k (by
    by_cases hl : k < w.heap.size
    · exact hl
    · rw [Array.getElem?_eq_none (by omega)] at hs; simp at hs) (fun e => by have := hr k e.symm; omega)
  ⟨by rw [f N (by omega) (by rw [h.arg]; rfl)]; exact h.arg, by rw [f (N + 1) (by omega) (by rw [h.res]; rfl)]; exact h.res, by rw [f (N + 2) (by omega) (by rw [h.out]; rfl)]; exact h.out⟩
theorem CB.set {w : World} {N : Nat} {E : Int} {V0 V : Value} (h : CB w N E V0 V) (V' : Value) : CB (w.setCell ⟨N + 2, 1, none⟩ V') N E V0 V' :=
  ⟨by rw [set_other _ (by omega)]; exact h.arg, by rw [set_other _ (by omega)]; exact h.res, set2 h.out V'⟩
theorem CB.lt {w : World} {N : Nat} {E : Int} {V0 V : Value} (h : CB w N E V0 V) : N + 2 < w.heap.size := (Array.getElem?_eq_some_iff.1 h.out).1
set_option maxHeartbeats 4000000 in
theorem rcopy (E : Int) (a : Option Addr) (raw : List MRow) (ms : List Mem) (L c : Nat) (w : World) (hx : MsRd w a ms raw) (hL : ms.length = L) (hz : L ≤ 3518437208880) (hz2 : ∀ s ∈ ms, s.2.2.length ≤ 35184372088832) :
    Calls Tryz.prog 9 #[.agg #[.int .u64 E, .slice a L c]] w fun e w' => ∃ a' c' raw', e = .returned (.agg #[.int .u64 E, .slice a' L c']) ∧ MsOwn w' w.heap.size (.slice a' L c') ms raw' ∧ w.grownBy w' none := by
  have HX : Hid (MsRd w a ms raw) := hx
  have HL : Hid (ms.length = L) := hL
  have HZ : Hid (∀ s ∈ ms, s.2.2.length ≤ 35184372088832) := hz2
  have HCB : Hid (CB (((w.alloc (.cells #[.int .u64 E, .slice a L c] 25)).alloc (.cells #[.int .u64 0, .slice none 0 0] 25)).alloc (.cells #[.int .u64 E, .slice none 0 0] 25)) w.heap.size E (.slice a L c) (.slice none 0 0)) := CB.made w E _
  have HG : Hid (w.grownBy (((w.alloc (.cells #[.int .u64 E, .slice a L c] 25)).alloc (.cells #[.int .u64 0, .slice none 0 0] 25)).alloc (.cells #[.int .u64 E, .slice none 0 0] 25)) none) := ((World.grownBy_alloc _ _ none).trans (World.grownBy_alloc _ _ none)).trans (World.grownBy_alloc _ _ none)
  clear hx hL hz2
  go_enter Tryz.func9, Tryz.ntmps9
  go_wp2
  generalize (((w.alloc (.cells #[.int .u64 E, .slice a L c] 25)).alloc (.cells #[.int .u64 0, .slice none 0 0] 25)).alloc (.cells #[.int .u64 E, .slice none 0 0] 25)) = W at HCB HG ⊢
  obtain ⟨N, eN⟩ : ∃ N, w.heap.size = N := ⟨_, rfl⟩
  rw [eN] at HCB ⊢
  have EN : Hid (w.heap.size = N) := eN
  clear eN
  go_loopw [4] (fun i wr => ∃ (k : Nat) (V : Value) (raw' : List MRow), k ≤ L ∧ i = .int .i64 k ∧ CB wr N E (.slice a L c) V ∧ MsOwn wr (N + 3) V (ms.take k) raw' ∧ w.grownBy wr none) (fun i _ => L - (intOf i).toNat)
  case atStart => exact ⟨0, _, [], Nat.zero_le _, rfl, HCB.out, by rw [List.take_zero]; exact MsOwn.nil _ _, HG.out⟩
  case round =>
    obtain ⟨k, V, raw', hk, rfl, hcb, hown, hg⟩ := hrel
    obtain ⟨Va, Vc, eV⟩ : ∃ Va Vc, V = .slice Va k Vc := by
      obtain ⟨Va, Vc, e⟩ := sown_slice hown.row
      refine ⟨Va, Vc, ?_⟩
      rw [e, List.length_take, HL.out, Nat.min_eq_left hk]
    subst eV
    have HB : Hid (CB wr N E (.slice a L c) (.slice Va k Vc)) := hcb
    have HO : Hid (MsOwn wr (N + 3) (.slice Va k Vc) (ms.take k) raw') := hown
    have HG2 : Hid (w.grownBy wr none) := hg
    have c1 := (cell2 hcb.arg).2
    clear hcb hown hg
    by_cases hlt : k < L
    · have hki : (k : Int) < (L : Int) := by omega
      have hl := HL.out
      obtain ⟨⟨i1, s1, t1⟩, ex⟩ : ∃ x, ms[k]? = some x := ⟨_, List.getElem?_eq_getElem (by omega)⟩
      obtain ⟨ba, off, ta, tc, rfl, a0, a1, a2, rt, hnil⟩ := (HX.out.grown HG2.out).cells ex
      have z1 := HZ.out _ (List.mem_of_getElem? ex)
      simp only at a0 a1 a2 rt z1
      obtain ⟨n1, en1⟩ : ∃ n1, t1.length = n1 := ⟨_, rfl⟩
      rw [en1] at a2 z1
      have EN1 : Hid (t1.length = n1) := en1
      have EX : Hid (ms[k]? = some (i1, s1, t1)) := ex
      have g5 := World.grownBy_alloc wr (.cells #[.int .i64 i1, .int .i64 s1, .slice ta n1 tc] 61) none
      have HC : Hid (Calls Tryz.prog 38 #[.slice ta n1 tc] (wr.alloc (.cells #[.int .i64 i1, .int .i64 s1, .slice ta n1 tc] 61)) fun e w' => ∃ g c, e = .returned (.slice (some ⟨g, 0, none⟩) n1 c) ∧ SOwn wordE 43 w' (wr.alloc (.cells #[.int .i64 i1, .int .i64 s1, .slice ta n1 tc] 61)).heap.size (.slice (some ⟨g, 0, none⟩) n1 c) n1 t1 ∧ (wr.alloc (.cells #[.int .i64 i1, .int .i64 s1, .slice ta n1 tc] 61)).grownBy w' none) := wcopy ta t1 n1 tc _ (rt.grown g5 (by simp)) en1 hnil z1
      have H5 : Hid ((wr.alloc (.cells #[.int .i64 i1, .int .i64 s1, .slice ta n1 tc] 61)).heap[wr.heap.size]? = some (.cells #[.int .i64 i1, .int .i64 s1, .slice ta n1 tc] 61 (0, 0))) := heap_alloc_new wr _
      have S5 : Hid ((wr.alloc (.cells #[.int .i64 i1, .int .i64 s1, .slice ta n1 tc] 61)).heap.size = wr.heap.size + 1) := size_alloc wr _
      have G5 : Hid (wr.grownBy (wr.alloc (.cells #[.int .i64 i1, .int .i64 s1, .slice ta n1 tc] 61)) none) := g5
      clear ex rt en1 hnil g5 hl
      go_wp2_with fail
      generalize wr.alloc (.cells #[.int .i64 i1, .int .i64 s1, .slice ta n1 tc] 61) = W5 at HC H5 S5 G5 ⊢
      refine HC.out.mono ?_
      rintro e w6 ⟨g, cg, rfl, ho6, hg6⟩
      obtain ⟨B, eB⟩ : ∃ B, wr.heap.size = B := ⟨_, rfl⟩
      have hB6 : w6.heap[B]? = some (.cells #[.int .i64 i1, .int .i64 s1, .slice ta n1 tc] 61 (0, 0)) := by
        rw [← eB, hg6.block _ (by rw [S5.out]; omega) (by simp)]; exact H5.out
      have hNB : N + 2 < B := by rw [← eB]; exact HB.out.lt
      have HW6 : Hid (wr.grownBy w6 none) := G5.out.trans hg6
      have HB6 : Hid (CB w6 N E (.slice (some ⟨ba, off, none⟩) L c) (.slice Va k Vc)) := HB.out.grown HW6.out (by simp)
      have HO6 : Hid (MsOwn w6 (N + 3) (.slice Va k Vc) (ms.take k) raw') := HO.out.kept HW6.out (by simp)
      have HVB : Hid ((Value.slice Va k Vc).ownBlock ≠ some B) := fun e => by
        have := (SOwn.block HO.out.row B e).2
        omega
      have HSZ6 : Hid (B + 1 ≤ w6.heap.size) := by have := hg6.size; rw [S5.out, eB] at this; exact this
      have HO7 : Hid (SOwn wordE 43 w6 (B + 1) (.slice (some ⟨g, 0, none⟩) n1 cg) n1 t1) := by rw [S5.out, eB] at ho6; exact ho6
      rw [eB]
      obtain ⟨q0, q1, q2⟩ := cell3 hB6
      have f2 := free_row hB6 2
      have HBB : Hid (w6.heap[B]? = some (.cells #[.int .i64 i1, .int .i64 s1, .slice ta n1 tc] 61 (0, 0))) := hB6
      have k1 := (cell2 HB6.out.out).2
      have f1 := free_row HB6.out.out 1
      have hne : N + 2 ≠ B := by omega
      have gs : w6.grownBy (w6.setCell ⟨B, 2, none⟩ (.slice (some ⟨g, 0, none⟩) n1 cg)) (some B) := gb_set rfl
      have k1' : (w6.setCell ⟨B, 2, none⟩ (.slice (some ⟨g, 0, none⟩) n1 cg)).cell? ⟨N + 2, 1, none⟩ = some (.slice Va k Vc) := gs.cell k1 (by simp; omega)
      obtain ⟨q0', q1', q2'⟩ := cell3 (set3 hB6 (.slice (some ⟨g, 0, none⟩) n1 cg))
      have HGS : Hid (w6.grownBy (w6.setCell ⟨B, 2, none⟩ (.slice (some ⟨g, 0, none⟩) n1 cg)) (some B)) := gs
      have HBs : Hid (CB (w6.setCell ⟨B, 2, none⟩ (.slice (some ⟨g, 0, none⟩) n1 cg)) N E (.slice (some ⟨ba, off, none⟩) L c) (.slice Va k Vc)) := HB6.out.grown gs (fun k hk => by cases hk; omega)
      have HOs : Hid (MsOwn (w6.setCell ⟨B, 2, none⟩ (.slice (some ⟨g, 0, none⟩) n1 cg)) (N + 3) (.slice Va k Vc) (ms.take k) raw') := by
        refine ⟨?_, fun i r m hr hm => (HO6.out.mem i r m hr hm).stay (fun k' hk' hb' => ?_)⟩
        · exact SOwn.kept HO6.out.row gs (.inr HVB.out)
        · exact set_other _ (Typed.ne hk' ⟨_, HBB.out⟩ (by decide))
      have HO7s : Hid (SOwn wordE 43 (w6.setCell ⟨B, 2, none⟩ (.slice (some ⟨g, 0, none⟩) n1 cg)) (B + 1) (.slice (some ⟨g, 0, none⟩) n1 cg) n1 t1) := sown_stay HO7.out (fun x hx => by
        cases hx
        exact set_other _ (Typed.ne (sown_typed HO7.out) ⟨_, HBB.out⟩ (by decide)))
      clear ho6 hg6 hB6 eB
      have ga := World.grownBy_alloc (w6.setCell ⟨B, 2, none⟩ (.slice (some ⟨g, 0, none⟩) n1 cg)) (.cells #[.int .i64 i1, .int .i64 s1, .slice (some ⟨g, 0, none⟩) n1 cg] 61) none
      have HOA : Hid (SOwn memE 61 ((w6.setCell ⟨B, 2, none⟩ (.slice (some ⟨g, 0, none⟩) n1 cg)).alloc (.cells #[.int .i64 i1, .int .i64 s1, .slice (some ⟨g, 0, none⟩) n1 cg] 61)) (N + 3) (.slice Va k Vc) k raw') := by
        have := (HOs.out.kept ga (by simp)).row
        rw [List.length_take, HL.out, Nat.min_eq_left hk] at this
        exact this
      have hss : (w6.setCell ⟨B, 2, none⟩ (.slice (some ⟨g, 0, none⟩) n1 cg)).heap.size = w6.heap.size := by simp [World.setCell]
      have HRA : Hid (SRd memE ((w6.setCell ⟨B, 2, none⟩ (.slice (some ⟨g, 0, none⟩) n1 cg)).alloc (.cells #[.int .i64 i1, .int .i64 s1, .slice (some ⟨g, 0, none⟩) n1 cg] 61)) (some ⟨w6.heap.size, 0, none⟩) [(i1, s1, some ⟨g, 0, none⟩, n1, cg)]) := by
        rw [← hss]
        exact srd_lit memE 61 _ [(i1, s1, some ⟨g, 0, none⟩, n1, cg)]
      have HSA : Hid (N + 3 ≤ ((w6.setCell ⟨B, 2, none⟩ (.slice (some ⟨g, 0, none⟩) n1 cg)).alloc (.cells #[.int .i64 i1, .int .i64 s1, .slice (some ⟨g, 0, none⟩) n1 cg] 61)).heap.size) := by
        have := HSZ6.out
        show _ ≤ _
        rw [size_alloc, hss]; omega
      have HNEXT : Hid (∀ v7 w7, SOwn memE 61 w7 (N + 3) v7 (k + 1) (raw' ++ [(i1, s1, some ⟨g, 0, none⟩, n1, cg)]) → ((w6.setCell ⟨B, 2, none⟩ (.slice (some ⟨g, 0, none⟩) n1 cg)).alloc (.cells #[.int .i64 i1, .int .i64 s1, .slice (some ⟨g, 0, none⟩) n1 cg] 61)).grownBy w7 (Value.slice Va k Vc).ownBlock → (∃ a7 c7, v7 = .slice a7 (k + 1) c7) ∧ w7.cell? ⟨N + 2, 1, none⟩ = some (.slice Va k Vc) ∧ w7.frozen? ⟨N + 2, 1, none⟩ = false ∧ Hid (CB w7 N E (.slice (some ⟨ba, off, none⟩) L c) (.slice Va k Vc) ∧ MsOwn w7 (N + 3) v7 (ms.take (k + 1)) (raw' ++ [(i1, s1, some ⟨g, 0, none⟩, n1, cg)]) ∧ w.grownBy w7 none)) := by
        intro v7 w7 ho7 hg7
        have hVb : ∀ j, (Value.slice Va k Vc).ownBlock = some j → N + 2 < j := fun j hj => by have := (SOwn.block HO.out.row j hj).1; omega
        have hcb7 := (HBs.out.grown ga (by simp)).grown hg7 hVb
        refine ⟨sown_slice ho7, (cell2 hcb7.out).2, free_row hcb7.out 1, hcb7, ?_, ?_⟩
        · have e1 : ms.take (k + 1) = ms.take k ++ [(i1, s1, t1)] := by rw [List.take_add_one, EX.out]; rfl
          rw [e1]
          refine own_append (HOs.out.kept ga (by simp)) ?_ hg7 ⟨rfl, rfl, EN1.out.symm, ?_⟩
          · rw [List.length_take, HL.out, Nat.min_eq_left hk]; exact ho7
          · simp only
            rw [EN1.out]
            exact SOwn.base (SOwn.kept HO7s.out ga (.inr (by simp [Value.ownBlock]))) (by omega)
        · refine gb_trans (gb_trans (gb_trans HG2.out HW6.out (by simp)) (HGS.out.trans (gb_any ga _)) (fun j hj => .inl ?_)) hg7 (fun j hj => .inl ?_)
          · cases hj; rw [EN.out]; omega
          · have := hVb j hj; rw [EN.out]; omega
      clear ga hss gs
      go_wp2_with (at_builtin; refine wpList_append_at memT23 rfl (.tmp 26) (.tmp 28) rfl (N + 3) (.slice Va k Vc) k raw' rfl HOA.out ⟨w6.heap.size, 0, none⟩ [(i1, s1, some ⟨g, 0, none⟩, n1, cg)] 1 1 rfl rfl HRA.out (by omega) (by unfold maxLen; omega) HSA.out ?_; intro v7 w7 ho7 hg7 hn7 hl7; obtain ⟨⟨a7, c7, e7⟩, k7, f7, HR7⟩ := HNEXT.out v7 w7 ho7 hg7; clear ho7 hg7 hn7 hl7; subst e7)
      go_roundw
      case rel =>
        refine ⟨k + 1, .slice a7 (k + 1) c7, raw' ++ [(i1, s1, some ⟨g, 0, none⟩, n1, cg)], by omega, by go_num, HR7.out.1.set _, ?_, gb_trans HR7.out.2.2 (gb_set (g := N + 2) rfl) (fun j hj => .inl (by have := EN.out; cases hj; omega))⟩
        exact HR7.out.2.1.kept (gb_set (g := N + 2) rfl) (fun j hj => by cases hj; exact .inl (by omega))
      case measure => simp [intOf]; omega
    · obtain rfl : k = L := by omega
      have HLT : Hid (ms.take k = ms) := List.take_of_length_le (by have := HL.out; omega)
      have HB1 := HB.out
      obtain ⟨q0, q1⟩ := cell2 HB1.out
      obtain ⟨r0, r1⟩ := cell2 HB1.res
      have f0 := free_row HB1.res 0
      have f1 := free_row HB1.res 1
      have HBr : Hid (wr.heap[N + 1]? = some (.cells #[.int .u64 0, .slice none 0 0] 25 (0, 0))) := HB1.res
      clear HB1
      go_wp2
      have gs : wr.grownBy ((wr.setCell ⟨N + 1, 0, none⟩ (.int .u64 E)).setCell ⟨N + 1, 1, none⟩ (.slice Va k Vc)) (some (N + 1)) := gb_trans (gb_set rfl) (gb_set rfl) (fun k hk => .inr hk)
      have ho := HO.out
      rw [HLT.out] at ho
      refine bodyPost_ret (v := .agg #[.int .u64 E, .slice Va k Vc]) (results_cell_row Tryz.results9 _ _ (N + 1) 25 _ (0, 0) _ rfl (pair_set HBr.out _ _) Tryz.underlying25 rfl isz25) rfl ⟨Va, Vc, raw', rfl, ?_, ?_⟩
      · exact (ho.kept gs (fun k hk => by cases hk; exact .inl (by omega))).base (by have := EN.out; omega)
      · exact gb_trans HG2.out gs (fun k hk => .inl (by have := EN.out; cases hk; omega))
end Go.Proofs.YtboamjhlaehoaaaGreat

/- Rings: slices.Clone, copied. -/
namespace Go.Proofs.YtboamjhlaehoaaaGreat
open Go.RowKit
set_option linter.unusedVariables false
set_option maxRecDepth 20000

theorem g_cloneW (a : Option Addr) (L c : Nat) (l : List Int) (w : World) (hr : SRd wordE w a l) (hL : l.length = L) (hnil : a = none → c = 0) (hz : L ≤ 35184372088832) :
    Calls Tryz.prog 89 #[.slice a L c] w fun e w' => ∃ a' c', e = .returned (.slice a' L c') ∧ SOwn wordE 43 w' w.heap.size (.slice a' L c') L l ∧ w.grownBy w' none := by
  cases a with
  | none =>
    obtain rfl := hnil rfl
    obtain rfl := hr.none
    obtain rfl : L = 0 := by simpa using hL.symm
    have heq : ∀ w, (binOp .eql 36 (.slice none 0 0) (.slice none 0 0)).run Tryz.prog w = .ok (.bool true) w := fun w => Lib.run_eql_slice_nil w 36 43 none 0 0 0 0 Tryz.underlying36
    clear hr hL hnil hz
    go_enter Tryz.func89, Tryz.ntmps89
    go_wp2
    go_ret
    exact ⟨none, 0, rfl, SOwn.nil 43 _ _, World.grownBy.refl _ _⟩
  | some ad =>
    have heq : ∀ w, (binOp .eql 36 (.slice (some ad) L c) (.slice none 0 0)).run Tryz.prog w = .ok (.bool false) w := fun w => Lib.run_eql_slice_nil w 36 43 (some ad) L c 0 0 Tryz.underlying36
    have HR : Hid (SRd wordE w (some ad) l) := hr
    have HL : Hid (l.length = L) := hL
    clear hr hL hnil
    go_enter Tryz.func89, Tryz.ntmps89
    go_wp2_with (at_builtin; refine wpList_append_s wordT rfl (.tmp 5) (.tmp 6) rfl w.heap.size (.slice (some ⟨w.heap.size, 0, none⟩) 0 0) 0 [] rfl (SOwn.empty wordE 43 w) (some ad) l L c rfl HL.out (HR.out.grown (World.grownBy_alloc w _ none) (by simp)) (fun e => by cases e) (by omega) (by unfold maxLen; omega) (Nat.le_of_lt (by rw [show ((w.alloc (.cells #[] 43)).heap.size) = w.heap.size + 1 from Array.size_push _]; omega)) ?_; intro v1 w1 ho1 hg1 hn1)
    go_ret
    rw [List.nil_append, Nat.zero_add] at ho1
    obtain ⟨g, c, rfl, ho⟩ := sown_some ho1 (fun e => by simpa using (hn1 e).1)
    exact ⟨_, c, rfl, ho, gb_trans (World.grownBy_alloc w _ none) hg1 (fun i hi => .inl (by simp [Value.ownBlock] at hi; omega))⟩
theorem g_cloneM (a : Option Addr) (L c : Nat) (l : List MRow) (w : World) (hr : SRd memE w a l) (hL : l.length = L) (hnil : a = none → c = 0) (hz : L ≤ 3518437208880) :
    Calls Tryz.prog 88 #[.slice a L c] w fun e w' => ∃ a' c', e = .returned (.slice a' L c') ∧ SOwn memE 61 w' w.heap.size (.slice a' L c') L l ∧ w.grownBy w' none := by
  cases a with
  | none =>
    obtain rfl := hnil rfl
    obtain rfl := hr.none
    obtain rfl : L = 0 := by simpa using hL.symm
    have heq : ∀ w, (binOp .eql 66 (.slice none 0 0) (.slice none 0 0)).run Tryz.prog w = .ok (.bool true) w := fun w => Lib.run_eql_slice_nil w 66 61 none 0 0 0 0 Tryz.underlying66
    clear hr hL hnil hz
    go_enter Tryz.func88, Tryz.ntmps88
    go_wp2
    go_ret
    exact ⟨none, 0, rfl, SOwn.nil 61 _ _, World.grownBy.refl _ _⟩
  | some ad =>
    have heq : ∀ w, (binOp .eql 66 (.slice (some ad) L c) (.slice none 0 0)).run Tryz.prog w = .ok (.bool false) w := fun w => Lib.run_eql_slice_nil w 66 61 (some ad) L c 0 0 Tryz.underlying66
    have HR : Hid (SRd memE w (some ad) l) := hr
    have HL : Hid (l.length = L) := hL
    clear hr hL hnil
    go_enter Tryz.func88, Tryz.ntmps88
    go_wp2_with (at_builtin; refine wpList_append_s memT rfl (.tmp 5) (.tmp 6) rfl w.heap.size (.slice (some ⟨w.heap.size, 0, none⟩) 0 0) 0 [] rfl (SOwn.empty memE 61 w) (some ad) l L c rfl HL.out (HR.out.grown (World.grownBy_alloc w _ none) (by simp)) (fun e => by cases e) (by omega) (by unfold maxLen; omega) (Nat.le_of_lt (by rw [show ((w.alloc (.cells #[] 61)).heap.size) = w.heap.size + 1 from Array.size_push _]; omega)) ?_; intro v1 w1 ho1 hg1 hn1)
    go_ret
    rw [List.nil_append, Nat.zero_add] at ho1
    obtain ⟨g, c, rfl, ho⟩ := sown_some ho1 (fun e => by simpa using (hn1 e).1)
    exact ⟨_, c, rfl, ho, gb_trans (World.grownBy_alloc w _ none) hg1 (fun i hi => .inl (by simp [Value.ownBlock] at hi; omega))⟩
/-- Where copied stands: the rows up to k have tokens of their own, the others those that came in. -/
structure CpAt (w0 w : World) (base : Nat) (v : Value) (n k : Nat) (ms : List Mem) (raw0 raw : List MRow) : Prop where
  row : SOwn memE 61 w base v n raw
  done : ∀ (i : Nat) (r : MRow) (m : Mem), i < k → raw[i]? = some r → ms[i]? = some m → MOwn w base r m
  rest : ∀ i, k ≤ i → raw[i]? = raw0[i]?
  gb : w0.grownBy w none
set_option maxHeartbeats 4000000 in
theorem g_copied (a : Option Addr) (raw : List MRow) (ms : List Mem) (L c : Nat) (w : World) (hx : MsRd w a ms raw) (hL : ms.length = L) (hnil : a = none → c = 0) (hz : L ≤ 3518437208880) (hz2 : ∀ s ∈ ms, s.2.2.length ≤ 35184372088832) :
    Calls Tryz.prog 63 #[.slice a L c] w fun e w' => ∃ a' c' raw', e = .returned (.slice a' L c') ∧ MsOwn w' w.heap.size (.slice a' L c') ms raw' ∧ w.grownBy w' none := by
  have HC := g_cloneM a L c raw w hx.rd (by rw [hx.len, hL]) hnil hz
  have HX : Hid (MsRd w a ms raw) := hx
  have HL : Hid (ms.length = L) := hL
  have HZ : Hid (∀ s ∈ ms, s.2.2.length ≤ 35184372088832) := hz2
  clear hx hL hz2
  obtain ⟨N, eN⟩ : ∃ N, w.heap.size = N := ⟨_, rfl⟩
  rw [eN] at HC ⊢
  have EN : Hid (w.heap.size = N) := eN
  clear eN
  go_enter Tryz.func63, Tryz.ntmps63
  go_wp2_with fail
  refine HC.mono ?_
  rintro e w1 ⟨a1, cc, rfl, ho1, hg1⟩
  have H1 : Hid (CpAt w w1 N (.slice a1 L cc) L 0 ms raw raw) := ⟨ho1, fun i r m h => by omega, fun i _ => rfl, hg1⟩
  clear ho1 hg1
  go_wp2
  go_loopw [10] (fun i wr => ∃ (k : Nat) (raw' : List MRow), k ≤ L ∧ i = .int .i64 k ∧ CpAt w wr N (.slice a1 L cc) L k ms raw raw') (fun i _ => L - (intOf i).toNat)
  case atStart => exact ⟨0, raw, Nat.zero_le _, rfl, H1.out⟩
  case round =>
    obtain ⟨k, raw', hk, rfl, hcp⟩ := hrel
    have HCP : Hid (CpAt w wr N (.slice a1 L cc) L k ms raw raw') := hcp
    clear hcp
    by_cases hlt : k < L
    · have hki : (k : Int) < (L : Int) := by omega
      have hl := HL.out
      have hrl : raw'.length = L := SOwn.len HCP.out.row
      obtain ⟨⟨i1, s1, t1⟩, ex⟩ : ∃ x, ms[k]? = some x := ⟨_, List.getElem?_eq_getElem (by omega)⟩
      obtain ⟨⟨i2, s2, ta, n1, tc⟩, er⟩ : ∃ x, raw'[k]? = some x := ⟨_, List.getElem?_eq_getElem (by omega)⟩
      have er0 : raw[k]? = some (i2, s2, ta, n1, tc) := by rw [← HCP.out.rest k (Nat.le_refl _)]; exact er
      obtain ⟨h1, h2, h3, h4, h5⟩ := HX.out.mem k _ _ er0 ex
      simp only at h1 h2 h3 h4 h5
      subst h1 h2
      have z1 := HZ.out _ (List.mem_of_getElem? ex)
      simp only at z1
      have hrow := HCP.out.row
      obtain ⟨g, c9, e9, _, hgl, _⟩ := SOwn.some hrow (fun e => by simp only [Value.slice.injEq] at e; omega)
      simp only [Value.slice.injEq] at e9
      obtain ⟨rfl, _, rfl⟩ := e9
      obtain ⟨b', o', e', hcc⟩ := (SOwn.rd hrow).at (by omega)
      simp only [Option.some.injEq, Addr.mk.injEq, and_true] at e'
      obtain ⟨rfl, rfl⟩ := e'
      have a0 : wr.cell? ⟨g, k * 3, none⟩ = some (.int .i64 i2) := by have := hcc k _ 0 _ er rfl; simpa [memE] using this
      have a1' : wr.cell? ⟨g, k * 3 + 1, none⟩ = some (.int .i64 s2) := by have := hcc k _ 1 _ er rfl; simpa [memE] using this
      have a2 : wr.cell? ⟨g, k * 3 + 2, none⟩ = some (.slice ta n1 tc) := by have := hcc k _ 2 _ er rfl; simpa [memE] using this
      have g5 := World.grownBy_alloc wr (.cells #[.int .i64 i2, .int .i64 s2, .slice ta n1 tc] 61) none
      have HC2 : Hid (Calls Tryz.prog 89 #[.slice ta n1 tc] (wr.alloc (.cells #[.int .i64 i2, .int .i64 s2, .slice ta n1 tc] 61)) fun e w' => ∃ a' c', e = .returned (.slice a' n1 c') ∧ SOwn wordE 43 w' (wr.alloc (.cells #[.int .i64 i2, .int .i64 s2, .slice ta n1 tc] 61)).heap.size (.slice a' n1 c') n1 t1 ∧ (wr.alloc (.cells #[.int .i64 i2, .int .i64 s2, .slice ta n1 tc] 61)).grownBy w' none) := g_cloneW ta n1 tc t1 _ (h4.grown (HCP.out.gb.trans g5) (by simp)) h3.symm h5 (by omega)
      have S5 : Hid ((wr.alloc (.cells #[.int .i64 i2, .int .i64 s2, .slice ta n1 tc] 61)).heap.size = wr.heap.size + 1) := size_alloc wr _
      have G5 : Hid (wr.grownBy (wr.alloc (.cells #[.int .i64 i2, .int .i64 s2, .slice ta n1 tc] 61)) none) := g5
      have HNX : Hid (∀ a6 c6 w6, SOwn wordE 43 w6 (wr.heap.size + 1) (.slice a6 n1 c6) n1 t1 → wr.grownBy w6 none → (∃ u, w6.cell? ⟨g, k * 3 + 2, none⟩ = some u) ∧ w6.frozen? ⟨g, k * 3 + 2, none⟩ = false ∧ Hid (CpAt w (w6.setCell ⟨g, k * 3 + 2, none⟩ (.slice a6 n1 c6)) N (.slice (some ⟨g, 0, none⟩) L cc) L (k + 1) ms raw (raw'.set k (i2, s2, a6, n1, c6)))) := by
        intro a6 c6 w6 ho6 hg6
        have hrow6 : SOwn memE 61 w6 N (.slice (some ⟨g, 0, none⟩) L cc) L raw' := SOwn.kept hrow hg6 (.inr (by simp [Value.ownBlock]))
        have hty : Typed w6 g 61 := sown_typed hrow6
        have hoth : ∀ b, Typed w6 b 43 → (w6.setCell ⟨g, k * 3 + 2, none⟩ (.slice a6 n1 c6)).heap[b]? = w6.heap[b]? := fun b hb => set_other _ (Typed.ne hb hty (by decide))
        have hNw : N ≤ wr.heap.size := by have := HCP.out.gb.size; have := EN.out; omega
        refine ⟨⟨_, hg6.cell a2 (by simp)⟩, sown_free hrow6 _, ?_, ?_, ?_, ?_⟩
        · exact sown_set hrow6 (flat_set memE raw' k _ (i2, s2, a6, n1, c6) 2 _ er (by decide) rfl)
        · intro i r m hi hr hm
          by_cases hik : i = k
          · subst hik
            rw [List.getElem?_set_self (by omega)] at hr
            cases hr
            rw [ex] at hm
            cases hm
            refine ⟨rfl, rfl, h3, ?_⟩
            simp only
            rw [← h3]
            exact SOwn.base (sown_stay ho6 (fun x hx => hoth _ (by rw [hx] at ho6; exact sown_typed ho6))) (by omega)
          · rw [List.getElem?_set_ne (by omega)] at hr
            refine ((HCP.out.done i r m (by omega) hr hm).stay (fun b hb hbb => hg6.block b (typed_lt hb) (by simp))).stay (fun b hb hbb => hoth b hb)
        · intro i hi
          rw [List.getElem?_set_ne (by omega)]
          exact HCP.out.rest i (by omega)
        · exact gb_trans (HCP.out.gb.trans hg6) (gb_set (g := g) rfl) (fun j hj => .inl (by have := (SOwn.block hrow g rfl).1; have := EN.out; cases hj; omega))
      clear ex er er0 h3 h4 h5 hl g5 hrow hcc z1
      go_wp2_with fail
      generalize wr.alloc (.cells #[.int .i64 i2, .int .i64 s2, .slice ta n1 tc] 61) = W5 at HC2 S5 G5 ⊢
      refine HC2.out.mono ?_
      rintro e w6 ⟨a6, c6, rfl, ho6, hg6⟩
      rw [S5.out] at ho6
      obtain ⟨⟨u6, k6⟩, f6, HR6⟩ := HNX.out a6 c6 w6 ho6 (G5.out.trans hg6)
      clear ho6 hg6
      go_wp2
      go_roundw
      case rel => exact ⟨k + 1, _, by omega, by go_num, HR6.out⟩
      case measure => simp [intOf]; omega
    · obtain rfl : k = L := by omega
      go_wp2
      go_ret
      refine ⟨a1, cc, raw', rfl, ⟨?_, fun i r m hr hm => HCP.out.done i r m ?_ hr hm⟩, HCP.out.gb⟩
      · rw [HL.out]; exact HCP.out.row
      · have := (List.getElem?_eq_some_iff.1 hm).1
        have := HL.out
        omega
end Go.Proofs.YtboamjhlaehoaaaGreat

