/- Several texts in one: Ri, Rj, Rk. -/
import Derived.Test.YtboamjhlaehoaaaGreatMw
import Derived.Test.YtboamjhlaehoaaaGreatMx
import Derived.Sort.Row
/- Rings: slices.Sort of a few words. -/
namespace Go.Proofs.YtboamjhlaehoaaaGreat
open Go.RowKit
set_option linter.unusedVariables false
set_option maxRecDepth 20000

set_option maxHeartbeats 4000000 in
theorem g_isort (base g n c : Nat) (l : List Int) (w : World) (hr : SOwn wordE 43 w base (.slice (some ⟨g, 0, none⟩) n c) n l) (hn : n ≤ 12) :
    Calls Tryz.prog 97 #[.slice (some ⟨g, 0, none⟩) n c, .int .i64 0, .int .i64 n] w fun e w' => e = .returned (.tuple #[]) ∧ ∃ l', SoAt w w' base g n c l l' ∧ OrdW (n - 1) n l' := by
  have HS : Hid (SoAt w w base g n c l l ∧ OrdW 1 1 l) := ⟨⟨hr, List.Perm.refl _, World.grownBy.refl _ _⟩, fun p q h1 h2 h3 => by omega⟩
  have HLS := fun x y w => g_less x y w
  clear hr
  go_enter Tryz.func97, Tryz.ntmps97
  go_wp2
  go_loopw [6] (fun t6 wr => ∃ (i : Nat) (l' : List Int), 1 ≤ i ∧ (i ≤ n ∨ i = 1) ∧ t6 = .int .i64 i ∧ SoAt w wr base g n c l l' ∧ OrdW i i l') (fun t6 _ => n + 1 - (intOf t6).toNat)
  case atStart => exact ⟨1, l, Nat.le_refl _, .inr rfl, rfl, HS.out.1, HS.out.2⟩
  case round =>
    obtain ⟨i, l1, hi1, hin, rfl, hso, hord⟩ := hrel
    have HSO : Hid (SoAt w wr base g n c l l1) := hso
    have HORD : Hid (OrdW i i l1) := hord
    clear hso hord
    by_cases hlt : i < n
    · have hii : (i : Int) < (n : Int) := by omega
      go_wp2
      go_loopw [7] (fun t7 wx => ∃ (j : Nat) (l2 : List Int), j ≤ i ∧ t7 = .int .i64 j ∧ SoAt w wx base g n c l l2 ∧ OrdW i j l2) (fun t7 _ => (intOf t7).toNat)
      case atStart => exact ⟨i, l1, Nat.le_refl _, rfl, HSO.out, HORD.out⟩
      case round =>
        obtain ⟨j, l2, hji, rfl, hso2, hord2⟩ := hrel
        have HSO2 : Hid (SoAt w wr base g n c l l2) := hso2
        have HORD2 : Hid (OrdW i j l2) := hord2
        cases j with
        | zero =>
          have hz0 : decide ((0 : Int) < ((0 : Nat) : Int)) = false := by simp
          clear hso2 hord2
          go_wp2_with fail
          go_quiet (fail)
          go_wp2
          go_roundw
          case rel => exact ⟨i + 1, l2, by omega, .inl (by omega), by go_num, HSO2.out.drew _, HORD2.out.next (.inl rfl)⟩
          case measure => simp [intOf]; omega
        | succ j =>
          have hj1 : decide ((0 : Int) < ((j + 1 : Nat) : Int)) = true := by simp
          have a0 := sown_cellW hso2.row (k := j + 1) (by omega)
          have a1 := sown_cellW hso2.row (k := j) (by omega)
          have f0 := sown_free hso2.row (j + 1)
          have f1 := sown_free hso2.row j
          have HSW : Hid (∀ m, SoAt w (((wr.drewN m).setCell ⟨g, j + 1, none⟩ (.int .u32 (l2.getD j 0))).setCell ⟨g, j, none⟩ (.int .u32 (l2.getD (j + 1) 0))) base g n c l (swapW l2 j)) := fun m => (hso2.drew m).swap j (by omega)
          have HOS : Hid (l2.getD (j + 1) 0 < l2.getD j 0 → OrdW i j (swapW l2 j)) := fun h => HORD2.out.swap (by have := SOwn.len hso2.row; omega) h
          have HON : Hid (¬ l2.getD (j + 1) 0 < l2.getD j 0 → OrdW (i + 1) (i + 1) l2) := fun h => HORD2.out.next (.inr (by rw [show j + 1 - 1 = j by omega]; omega))
          have hwj : IntKind.i64.wrap (j : Int) = (j : Int) := by rw [IntKind.wrap_i64]; omega
          have hjn : (j : Int) < (n : Int) := by omega
          have hjn1 : (j : Int) + 1 < (n : Int) := by omega
          generalize l2.getD j 0 = x at a1 HSW HOS HON
          generalize l2.getD (j + 1) 0 = y at a0 HSW HOS HON
          clear hso2 hord2
          by_cases hxy : y < x
          · have hd : decide (y < x) = true := by simpa using hxy
            have HO2 : Hid (OrdW i j (swapW l2 j)) := HOS.out hxy
            clear HOS HON hxy
            go_wp2_with fail
            go_quiet (first | (go_at_call 103; exact Calls.quiet_of_same (HLS y x _)))
            go_wp2_with fail
            go_region
            go_wp2
            exact ⟨⟨j, swapW l2 j, by omega, rfl, HSW.out _, HO2.out⟩, by simp [intOf]⟩
          · have hd : decide (y < x) = false := by simpa using hxy
            have HO2 : Hid (OrdW (i + 1) (i + 1) l2) := HON.out hxy
            clear HOS HON hxy
            go_wp2_with fail
            go_quiet (first | (go_at_call 103; exact Calls.quiet_of_same (HLS y x _)))
            go_wp2
            go_roundw
            case rel => exact ⟨i + 1, l2, by omega, .inl (by omega), by go_num, HSO2.out.drew _, HO2.out⟩
            case measure => simp [intOf]; omega
    · have hii : ¬ (i : Int) < (n : Int) := by omega
      go_wp2
      go_end0
      refine ⟨rfl, l1, HSO.out, fun p q h1 h2 h3 => HORD.out p q h1 (by omega) (by omega)⟩
set_option maxHeartbeats 2000000 in
theorem g_pdq (base g n c : Nat) (l : List Int) (lim : Int) (w : World) (hr : SOwn wordE 43 w base (.slice (some ⟨g, 0, none⟩) n c) n l) (hn : n ≤ 12) :
    Calls Tryz.prog 73 #[.slice (some ⟨g, 0, none⟩) n c, .int .i64 0, .int .i64 n, .int .i64 lim] w fun e w' => e = .returned (.tuple #[]) ∧ ∃ l', SoAt w w' base g n c l l' ∧ OrdW (n - 1) n l' := by
  have HC := g_isort base g n c l w hr hn
  have h12 : (n : Int) ≤ 12 := by omega
  clear hr
  go_enter Tryz.func73, Tryz.ntmps73
  go_wp2
  refine wp_loop_rounds 1 ?_
  rw [rounds_succ]
  go_wp2_with (go_at_call 97; refine HC.mono ?_; rintro e w' ⟨rfl, l', h1, h2⟩; have H1 : Hid (SoAt w w' base g n c l l' ∧ OrdW (n - 1) n l') := ⟨h1, h2⟩; clear h1 h2)
  (try simp only [Exit.inBlock, Exit.then]); refine bodyPost_ret (results_none rfl _ _ _) rfl ?_
  exact ⟨rfl, l', H1.out⟩
theorem g_sortW (base g n c : Nat) (l : List Int) (w : World) (hr : SOwn wordE 43 w base (.slice (some ⟨g, 0, none⟩) n c) n l) (hn : n ≤ 12) :
    Calls Tryz.prog 49 #[.slice (some ⟨g, 0, none⟩) n c] w fun e w' => e = .returned (.tuple #[]) ∧ ∃ l', SoAt w w' base g n c l l' ∧ OrdW (n - 1) n l' := by
  have HC := fun lim => g_pdq base g n c l lim w hr hn
  have HB := fun w => Tryz.bits_Len n w (by omega) (by omega)
  have hw : IntKind.u64.wrap (n : Int) = (n : Int) := by
    have : IntKind.u64.wrap (n : Int) = (n : Int) % 18446744073709551616 := by simp [IntKind.wrap, IntKind.bits, IntKind.signed]
    omega
  clear hr
  go_enter Tryz.func49, Tryz.ntmps49
  go_wp2_with (first | (go_at_call 74; refine (HB _).mono ?_; rintro e w9 ⟨rfl, e9⟩; rw [e9]; clear e9) | (go_at_call 73; refine (HC _).mono ?_; rintro e w' ⟨rfl, l', h1, h2⟩; have H1 : Hid (SoAt w w' base g n c l l' ∧ OrdW (n - 1) n l') := ⟨h1, h2⟩; clear h1 h2))
  go_end0
  exact ⟨rfl, l', H1.out⟩
end Go.Proofs.YtboamjhlaehoaaaGreat

/- Rings: Tokens. -/
namespace Go.Proofs.YtboamjhlaehoaaaGreat
open Go.RowKit Go.Sort
set_option linter.unusedVariables false
set_option maxRecDepth 20000

def insW (x : Int) : List Int → List Int
  | [] => [x]
  | y :: r => if x < y then x :: y :: r else if x = y then y :: r else y :: insW x r
theorem mem_insW (x z : Int) : ∀ l : List Int, z ∈ insW x l ↔ z = x ∨ z ∈ l
  | [] => by simp [insW]
  | y :: r => by
    unfold insW
    split
    · simp
    · split
      · rename_i h; subst h; simp
      · rw [List.mem_cons, mem_insW x z r, List.mem_cons]
        constructor
        · rintro (h | h | h)
          · exact .inr (.inl h)
          · exact .inl h
          · exact .inr (.inr h)
        · rintro (h | h | h)
          · exact .inr (.inl h)
          · exact .inl h
          · exact .inr (.inr h)
theorem insW_pw (x : Int) : ∀ l : List Int, l.Pairwise (· < ·) → (insW x l).Pairwise (· < ·)
  | [], _ => by simp [insW]
  | y :: r, h => by
    obtain ⟨h1, h2⟩ := List.pairwise_cons.1 h
    unfold insW
    split
    · rename_i hxy
      refine List.pairwise_cons.2 ⟨fun z hz => ?_, h⟩
      rcases List.mem_cons.1 hz with rfl | hz
      · exact hxy
      · have := h1 z hz; omega
    · split
      · exact h
      · refine List.pairwise_cons.2 ⟨fun z hz => ?_, insW_pw x r h2⟩
        rcases (mem_insW x z r).1 hz with rfl | hz
        · omega
        · exact h1 z hz
theorem insW_len (x : Int) : ∀ l : List Int, (insW x l).length ≤ l.length + 1
  | [] => by simp [insW]
  | y :: r => by
    unfold insW
    split
    · simp
    · split
      · simp
      · have := insW_len x r
        simp; omega
theorem pw_ext : ∀ l r : List Int, l.Pairwise (· < ·) → r.Pairwise (· < ·) → (∀ x, x ∈ l ↔ x ∈ r) → l = r
  | [], [], _, _, _ => rfl
  | [], y :: r, _, _, h => by have := (h y).2 (by simp); simp at this
  | x :: l, [], _, _, h => by have := (h x).1 (by simp); simp at this
  | x :: l, y :: r, hl, hr, h => by
    obtain ⟨hl1, hl2⟩ := List.pairwise_cons.1 hl
    obtain ⟨hr1, hr2⟩ := List.pairwise_cons.1 hr
    have hxy : x = y := by
      have h1 := (h x).1 (by simp)
      have h2 := (h y).2 (by simp)
      rcases List.mem_cons.1 h1 with h1 | h1
      · exact h1
      · rcases List.mem_cons.1 h2 with h2 | h2
        · exact h2.symm
        · have := hr1 x h1; have := hl1 y h2; omega
    subst hxy
    rw [pw_ext l r hl2 hr2 (fun z => by
      constructor
      · intro hz
        have := (h z).1 (by simp [hz])
        rcases List.mem_cons.1 this with e | e
        · have := hl1 z hz; omega
        · exact e
      · intro hz
        have := (h z).2 (by simp [hz])
        rcases List.mem_cons.1 this with e | e
        · have := hr1 z hz; omega
        · exact e)]
/-- The hashes of an ingester, and its tokens. -/
def tokH (id : Int) (k : Nat) : Int := fnvB (encAll [IntKind.u64.wrap id, (k : Int)])
def tokHs (id : Int) : List Int := [tokH id 0, tokH id 1, tokH id 2, tokH id 3]
def tokL (id : Int) : List Int := insW (tokH id 3) (insW (tokH id 2) (insW (tokH id 1) (insW (tokH id 0) [])))
theorem tokL_pw (id : Int) : (tokL id).Pairwise (· < ·) := insW_pw _ _ (insW_pw _ _ (insW_pw _ _ (insW_pw _ _ List.Pairwise.nil)))
theorem tokL_mem (id x : Int) : x ∈ tokL id ↔ x ∈ tokHs id := by
  unfold tokL tokHs
  simp only [mem_insW, List.mem_cons, List.mem_nil_iff, or_false]
  constructor
  · rintro (h | h | h | h) <;> simp [h]
  · rintro (h | h | h | h) <;> simp [h]
theorem tokL_len (id : Int) : 1 ≤ (tokL id).length ∧ (tokL id).length ≤ 4 := by
  constructor
  · have : tokH id 0 ∈ tokL id := (tokL_mem id _).2 (by simp [tokHs])
    exact List.length_pos_of_mem this
  · have h1 := insW_len (tokH id 0) []
    have h2 := insW_len (tokH id 1) (insW (tokH id 0) [])
    have h3 := insW_len (tokH id 2) (insW (tokH id 1) (insW (tokH id 0) []))
    have h4 := insW_len (tokH id 3) (insW (tokH id 2) (insW (tokH id 1) (insW (tokH id 0) [])))
    unfold tokL
    simp at h1
    omega
theorem tokL_range (id x : Int) (h : x ∈ tokL id) : 0 ≤ x ∧ x ≤ 4294967295 := by
  have := (tokL_mem id x).1 h
  simp only [tokHs, List.mem_cons, List.mem_nil_iff, or_false] at this
  rcases this with rfl | rfl | rfl | rfl <;> exact fnvB_range _
/-- What Compact leaves of words in order. -/
theorem compact_sorted (l : List Int) (n : Nat) (hn : l.length = n) (hs : ∀ p q, p < q → q < n → l.getD p 0 ≤ l.getD q 0) : ∀ m, m ≤ n → (Lib.compactUpTo l.toArray m).Pairwise (· < ·) ∧ (∀ x, x ∈ Lib.compactUpTo l.toArray m ↔ ∃ j, j < m ∧ l.getD j 0 = x) := by
  have hg : ∀ j, j < n → l.toArray[j]! = l.getD j 0 := fun j hj => by
    rw [getElem!_pos _ j (by simpa using (by omega : j < l.length))]
    rw [List.getD_eq_getElem?_getD, List.getElem?_eq_getElem (by omega)]
    simp
  intro m
  induction m with
  | zero => intro _; simp [Lib.compactUpTo]
  | succ m ih =>
    intro hm
    obtain ⟨h1, h2⟩ := ih (by omega)
    rw [Lib.compactUpTo_succ]
    by_cases hk : Lib.keeps l.toArray m = true
    · rw [if_pos hk]
      have hlt : ∀ x ∈ Lib.compactUpTo l.toArray m, x < l.getD m 0 := fun x hx => by
        obtain ⟨j, hj, rfl⟩ := (h2 x).1 hx
        simp only [Lib.keeps, decide_eq_true_eq] at hk
        rcases hk with hk | hk
        · omega
        · rw [hg m (by omega), hg (m - 1) (by omega)] at hk
          have h3 := hs (m - 1) m (by omega) (by omega)
          have h4 : l.getD j 0 ≤ l.getD (m - 1) 0 := by
            by_cases e : j = m - 1
            · rw [e]; omega
            · exact hs j (m - 1) (by omega) (by omega)
          omega
      refine ⟨List.pairwise_append.2 ⟨h1, by simp, fun x hx y hy => ?_⟩, fun x => ?_⟩
      · rw [List.mem_singleton] at hy; subst hy; rw [hg m (by omega)]; exact hlt x hx
      · rw [List.mem_append, h2]
        constructor
        · rintro (⟨j, hj, h⟩ | h)
          · exact ⟨j, by omega, h⟩
          · rw [List.mem_singleton] at h; subst h; exact ⟨m, by omega, by rw [hg m (by omega)]⟩
        · rintro ⟨j, hj, h⟩
          by_cases e : j = m
          · subst e; right; rw [List.mem_singleton, ← h, hg j (by omega)]
          · exact .inl ⟨j, by omega, h⟩
    · rw [if_neg hk]
      have hk2 : m ≠ 0 ∧ l.getD m 0 = l.getD (m - 1) 0 := by
        simp only [Lib.keeps, decide_eq_true_eq, not_or] at hk
        refine ⟨hk.1, ?_⟩
        have := hk.2
        rw [hg m (by omega), hg (m - 1) (by omega)] at this
        exact Classical.byContradiction this
      rw [List.append_nil]
      refine ⟨h1, fun x => ?_⟩
      rw [h2]
      constructor
      · rintro ⟨j, hj, h⟩; exact ⟨j, by omega, h⟩
      · rintro ⟨j, hj, h⟩
        by_cases e : j = m
        · subst e; exact ⟨j - 1, by omega, by rw [← hk2.2]; exact h⟩
        · exact ⟨j, by omega, h⟩
theorem sown_putW {w : World} {base g n c : Nat} {l : List Int} (h : SOwn wordE 43 w base (.slice (some ⟨g, 0, none⟩) n c) n l) (d : Array Int) (hd : d.size = n) (q m : Nat) (hm : m ≤ n) : SOwn wordE 43 (putRow (Value.int .u32) (Sort.ahead w q) g 0 d) base (.slice (some ⟨g, 0, none⟩) m c) m (d.toList.take m) := by
  refine ⟨by rw [wordE.flat_len, List.length_take]; simp [wordE]; omega, ?_⟩
  rcases h.2 with ⟨h', _⟩ | ⟨g', cap, cur, h', h3, h4, h5, h6, h7, h8⟩
  · simp at h'
  · simp only [Value.slice.injEq, Option.some.injEq, Addr.mk.injEq, and_true, true_and] at h'
    obtain ⟨rfl, rfl⟩ := h'
    refine .inr ⟨g, c, putCells (Value.int .u32) 0 d cur, rfl, h3, ?_, by omega, h6, by simpa [putCells] using h7, ?_⟩
    · have hh : (Sort.ahead w q).heap[g]? = some (.cells cur 43 (0, 0)) := h4
      simp [putRow, mapBlock, Array.getElem?_modify, onCells]
      exact ⟨_, hh, rfl⟩
    · apply List.ext_getElem?
      intro j
      have hcs : cur.size = c := by simpa [wordE] using h7
      rw [List.getElem?_take]
      have hfl : wordE.flat (d.toList.take m) = (d.toList.take m).map (Value.int .u32) := by
        unfold Elem.flat wordE
        induction (d.toList.take m) with
        | nil => rfl
        | cons x r ih => rw [List.flatMap_cons, List.map_cons, ih]; rfl
      rw [hfl]
      by_cases hj : j < m
      · rw [if_pos (by simp [wordE]; omega)]
        simp only [putCells, Array.getElem?_toList, Array.getElem?_mapIdx, List.getElem?_map, List.getElem?_take, if_pos hj]
        rw [Array.getElem?_eq_getElem (by omega)]
        simp only [Option.map_some]
        rw [if_pos (by omega), Nat.sub_zero, Array.getElem?_eq_getElem (by omega), getElem!_pos d j (by omega)]
        rfl
      · rw [if_neg (by simp [wordE]; omega), List.getElem?_eq_none]
        simp; omega
theorem gb_putW (w : World) (g q : Nat) (d : Array Int) : w.grownBy (putRow (Value.int .u32) (Sort.ahead w q) g 0 d) (some g) :=
  ⟨rfl, rfl, rfl, by simp [Sort.ahead], fun k hk hne => by
    have hkg : g ≠ k := fun e => hne (by rw [e])
    simp [putRow, mapBlock, Array.getElem?_modify, hkg, Sort.ahead]⟩
theorem g_compactW (base g n c : Nat) (l : List Int) (w : World) (h : SOwn wordE 43 w base (.slice (some ⟨g, 0, none⟩) n c) n l) (hn : n ≤ 12) (hs : ∀ p q, p < q → q < n → l.getD p 0 ≤ l.getD q 0) :
    Calls Tryz.prog 50 #[.slice (some ⟨g, 0, none⟩) n c] w fun e w' => ∃ l', e = .returned (.slice (some ⟨g, 0, none⟩) l'.length c) ∧ SOwn wordE 43 w' base (.slice (some ⟨g, 0, none⟩) l'.length c) l'.length l' ∧ l'.Pairwise (· < ·) ∧ (∀ x, x ∈ l' ↔ x ∈ l) ∧ w.grownBy w' (some g) := by
  have hl := SOwn.len h
  have hcap := (sown_cap h).1
  have hH : Holds (Value.int .u32) w g 0 l.toArray := fun j hj => by
    have hj' : j < n := by simpa [hl] using hj
    rw [Nat.zero_add]
    refine ⟨?_, sown_free h j⟩
    rw [sown_cellW h hj', getElem!_pos _ j hj, List.getD_eq_getElem?_getD, List.getElem?_eq_getElem (by omega)]
    simp
  have hz : ∀ w, (zeroValue 43).run Tryz.prog w = .ok (Value.int .u32 0) w := Tryz.zeroValue43
  have hC := Tryz.slices_Compact (Value.int .u32) (fun x => rfl) ⟨fun x y w => by simp [binOp, Op.intCmp]; rw [Bool.eq_iff_iff]; simp, .int Tryz.prog 43 .u32⟩ ⟨fun x y w => by simp [binOp, Op.intCmp, bne]; rw [Bool.eq_iff_iff]; simp, .int Tryz.prog 43 .u32⟩ 0 hz g 0 c l.toArray w hH (by simp [hl]; omega) (by simp [hl]; omega)
  rw [List.size_toArray, hl] at hC
  obtain ⟨c1, c2⟩ := compact_sorted l n hl hs n (Nat.le_refl _)
  refine hC.mono ?_
  rintro e w' ⟨rfl, q, rfl⟩
  have hle : (Lib.compactUpTo l.toArray n).length ≤ n := by
    unfold Lib.compactUpTo
    rw [List.length_map]
    exact Nat.le_trans (List.length_filter_le _ _) (by simp)
  refine ⟨Lib.compactUpTo l.toArray n, rfl, ?_, c1, fun x => ?_, gb_putW w g q _⟩
  · have := sown_putW h (Lib.compactUpTo l.toArray n ++ List.replicate (n - (Lib.compactUpTo l.toArray n).length) 0).toArray (by simp; omega) q (Lib.compactUpTo l.toArray n).length hle
    simpa using this
  · rw [c2]
    constructor
    · rintro ⟨j, hj, rfl⟩
      rw [List.getD_eq_getElem?_getD, List.getElem?_eq_getElem (by omega)]
      simp
    · intro hx
      obtain ⟨j, hj⟩ := List.getElem?_of_mem hx
      have := (List.getElem?_eq_some_iff.1 hj).1
      exact ⟨j, by omega, by rw [List.getD_eq_getElem?_getD, hj]; rfl⟩
theorem ordW_getD {n : Nat} {l : List Int} (h : OrdW (n - 1) n l) : ∀ p q, p < q → q < n → l.getD p 0 ≤ l.getD q 0 := fun p q h1 h2 => h p q h1 (by omega) (by omega)
theorem tokHs_take (id : Int) (k : Nat) (hk : k < 4) : (tokHs id).take (k + 1) = (tokHs id).take k ++ [tokH id k] := by
  rcases (by omega : k = 0 ∨ k = 1 ∨ k = 2 ∨ k = 3) with rfl | rfl | rfl | rfl <;> rfl
end Go.Proofs.YtboamjhlaehoaaaGreat

/- Rings: Tokens, the walk. -/
namespace Go.Proofs.YtboamjhlaehoaaaGreat
open Go.RowKit
set_option linter.unusedVariables false
set_option maxRecDepth 20000

theorem wrap64_range (id : Int) : 0 ≤ IntKind.u64.wrap id ∧ IntKind.u64.wrap id ≤ 18446744073709551615 := by
  have : IntKind.u64.wrap id = id % 18446744073709551616 := by simp [IntKind.wrap, IntKind.bits, IntKind.signed]
  omega
/-- laid, then fnv.Sum: in the world in which the two numbers were laid out. -/
theorem g_hash1 (id : Int) (k : Nat) (hk : k < 4) (w : World) :
    Calls Tryz.prog 48 #[.slice (some ⟨w.heap.size, 0, none⟩) 2 2] (w.alloc (.cells #[.int .u64 (IntKind.u64.wrap id), .int .u64 k] 22)) fun e w' => ∃ a n c, e = .returned (.slice a n c) ∧ Rd w' a (encAll [IntKind.u64.wrap id, (k : Int)]) ∧ (encAll [IntKind.u64.wrap id, (k : Int)]).length = n ∧ n ≤ 20 ∧ w.grownBy w' none := by
  have hr : SRd numE (w.alloc (.cells #[.int .u64 (IntKind.u64.wrap id), .int .u64 k] 22)) (some ⟨w.heap.size, 0, none⟩) [IntKind.u64.wrap id, (k : Int)] := srd_lit numE 22 w [IntKind.u64.wrap id, (k : Int)]
  have hv : ∀ v ∈ [IntKind.u64.wrap id, (k : Int)], 0 ≤ v ∧ v ≤ 18446744073709551615 := fun v hv => by
    simp only [List.mem_cons, List.mem_nil_iff, or_false] at hv
    rcases hv with rfl | rfl
    · exact wrap64_range id
    · omega
  refine (g_laid _ [IntKind.u64.wrap id, (k : Int)] 2 2 _ hr rfl (by omega) hv).mono ?_
  rintro e w' ⟨v, n, rfl, ho, hg⟩
  have hl := encAll_len _ hv
  have hpos : 0 < (encAll [IntKind.u64.wrap id, (k : Int)]).length := by
    simp only [encAll, List.flatMap_cons, List.length_append]
    have := enc_len_pos (IntKind.u64.wrap id).toNat
    omega
  have hn := ho.len
  have hne : v ≠ .slice none 0 0 := fun e => by
    rcases ho.1.2 with ⟨_, h0⟩ | ⟨g, cap, cur, h', _⟩
    · omega
    · rw [e] at h'; simp at h'
  obtain ⟨g, cap, rfl, ho'⟩ := Own.of ho.1 hne ho.2
  exact ⟨_, n, cap, rfl, ho'.rd, hn, by simp at hl; omega, (World.grownBy_alloc w _ none).trans hg⟩
set_option maxHeartbeats 4000000 in
theorem g_tokens (id : Int) (w : World) :
    Calls Tryz.prog 20 #[.int .i64 id] w fun e w' => ∃ a c, e = .returned (.slice a (tokL id).length c) ∧ SOwn wordE 43 w' w.heap.size (.slice a (tokL id).length c) (tokL id).length (tokL id) ∧ w.grownBy w' none := by
  have HO0 : Hid (SOwn wordE 43 w w.heap.size (.slice none 0 0) 0 ((tokHs id).take 0)) := SOwn.nil 43 w _
  obtain ⟨N, eN⟩ : ∃ N, w.heap.size = N := ⟨_, rfl⟩
  rw [eN] at HO0 ⊢
  have EN : Hid (w.heap.size = N) := eN
  have HFIN : Hid (∀ g c wr, SOwn wordE 43 wr N (.slice (some ⟨g, 0, none⟩) 4 c) 4 (tokHs id) → w.grownBy wr none → Calls Tryz.prog 49 #[.slice (some ⟨g, 0, none⟩) 4 c] wr fun e w' => e = .returned (.tuple #[]) ∧ w.grownBy w' none ∧ Hid (Calls Tryz.prog 50 #[.slice (some ⟨g, 0, none⟩) 4 c] w' fun e w2 => ∃ a c', e = .returned (.slice a (tokL id).length c') ∧ SOwn wordE 43 w2 N (.slice a (tokL id).length c') (tokL id).length (tokL id) ∧ w.grownBy w2 none)) := by
    intro g c wr ho hg
    have hNg : N ≤ g := (SOwn.block ho g rfl).1
    refine (g_sortW N g 4 c (tokHs id) wr ho (by omega)).mono ?_
    rintro e w1 ⟨rfl, l1, hso, hord⟩
    have hg1 : w.grownBy w1 none := gb_trans hg hso.gb (fun k hk => .inl (by cases hk; omega))
    refine ⟨rfl, hg1, (g_compactW N g 4 c l1 w1 hso.row (by omega) (ordW_getD hord)).mono ?_⟩
    rintro e w2 ⟨l', rfl, ho2, hp, hm, hg2⟩
    have e2 : l' = tokL id := pw_ext l' (tokL id) hp (tokL_pw id) (fun x => by rw [hm, tokL_mem]; exact hso.perm.mem_iff)
    subst e2
    exact ⟨_, c, rfl, ho2, gb_trans hg1 hg2 (fun k hk => .inl (by cases hk; omega))⟩
  clear eN
  go_enter Tryz.func20, Tryz.ntmps20
  go_wp2
  go_loopw [3, 5] (fun t3 t5 wr => ∃ (k : Nat) (a : Option Addr) (c : Nat), k ≤ 4 ∧ t5 = .int .u64 k ∧ t3 = .slice a k c ∧ SOwn wordE 43 wr N (.slice a k c) k ((tokHs id).take k) ∧ w.grownBy wr none) (fun _ t5 _ => 4 - (intOf t5).toNat)
  case atStart => exact ⟨0, none, 0, Nat.zero_le _, rfl, rfl, HO0.out, World.grownBy.refl _ _⟩
  case round =>
    obtain ⟨k, a, c, hk, rfl, rfl, ho, hg⟩ := hrel
    have HO : Hid (SOwn wordE 43 wr N (.slice a k c) k ((tokHs id).take k)) := ho
    have HG : Hid (w.grownBy wr none) := hg
    clear ho hg
    by_cases hlt : k < 4
    · have hki : (k : Int) < 4 := by omega
      have HC := g_hash1 id k hlt wr
      have HTK : Hid (∀ a n c w1, Rd w1 a (encAll [IntKind.u64.wrap id, (k : Int)]) → (encAll [IntKind.u64.wrap id, (k : Int)]).length = n → n ≤ 20 → Calls Tryz.prog 47 #[.slice a n c] w1 fun e w' => e = .returned (.int .u32 (tokH id k)) ∧ w1 = w') := fun a n c w1 h1 h2 h3 => g_fnv a _ n c w1 h1 h2 (by omega)
      have HTT : Hid ((tokHs id).take (k + 1) = (tokHs id).take k ++ [tokH id k]) := tokHs_take id k hlt
      generalize encAll [IntKind.u64.wrap id, (k : Int)] = ZS at HC HTK
      generalize tokH id k = h at HTK HTT
      go_wp2_with fail
      refine HC.mono ?_
      rintro e w1 ⟨a1, n1, c1, rfl, hr1, hl1, hn1, hg1⟩
      have HC2 := HTK.out a1 n1 c1 w1 hr1 hl1 hn1
      have HO1 : Hid (SOwn wordE 43 w1 N (.slice a k c) k ((tokHs id).take k)) := SOwn.kept HO.out hg1 (Classical.em _)
      have HG1 : Hid (w.grownBy w1 none) := HG.out.trans hg1
      clear hr1 hl1 hn1 hg1
      go_wp2_with fail
      refine HC2.mono ?_
      rintro e w2 ⟨rfl, e2⟩
      rw [← e2]
      clear e2
      have HOA : Hid (SOwn wordE 43 (w1.alloc (.cells #[.int .u32 h] 43)) N (.slice a k c) k ((tokHs id).take k)) := SOwn.kept HO1.out (World.grownBy_alloc w1 _ none) (Classical.em _)
      have HRA : Hid (SRd wordE (w1.alloc (.cells #[.int .u32 h] 43)) (some ⟨w1.heap.size, 0, none⟩) [h]) := srd_lit wordE 43 w1 [h]
      have HSA : Hid (N ≤ (w1.alloc (.cells #[.int .u32 h] 43)).heap.size) := by
        show _ ≤ _
        rw [size_alloc]
        have := HG1.out.size
        have := EN.out
        omega
      have HNX : Hid (∀ v7 w7, SOwn wordE 43 w7 N v7 (k + 1) ((tokHs id).take k ++ [h]) → (w1.alloc (.cells #[.int .u32 h] 43)).grownBy w7 (Value.slice a k c).ownBlock → Hid (∃ a7 c7, v7 = .slice a7 (k + 1) c7 ∧ SOwn wordE 43 w7 N (.slice a7 (k + 1) c7) (k + 1) ((tokHs id).take (k + 1)) ∧ w.grownBy w7 none)) := by
        intro v7 w7 ho7 hg7
        obtain ⟨a7, c7, rfl⟩ := sown_slice ho7
        refine ⟨a7, c7, rfl, by rw [HTT.out]; exact ho7, ?_⟩
        refine gb_trans (HG1.out.trans (World.grownBy_alloc w1 _ none)) hg7 (fun j hj => .inl ?_)
        have := (SOwn.block HO.out j hj).1
        have := EN.out
        omega
      go_wp2_with (at_builtin; refine wpList_append_at wordT rfl (.tmp 8) (.tmp 15) rfl N (.slice a k c) k _ rfl HOA.out ⟨w1.heap.size, 0, none⟩ [h] 1 1 rfl rfl HRA.out (by omega) (by unfold maxLen; omega) HSA.out ?_; intro v7 w7 ho7 hg7 hn7 hl7; have HR7 := HNX.out v7 w7 ho7 hg7; clear ho7 hg7 hn7 hl7)
      go_roundw
      case rel =>
        obtain ⟨a7, c7, e7, h1, h2⟩ := HR7.out
        exact ⟨k + 1, a7, c7, by omega, by go_num, e7, h1, h2⟩
      case measure => simp [intOf]; omega
    · obtain rfl : k = 4 := by omega
      obtain ⟨g, c9, e9, h9⟩ := sown_some HO.out (fun e => by simp at e)
      simp only [Value.slice.injEq] at e9
      obtain ⟨rfl, _, rfl⟩ := e9
      have HC := HFIN.out g c wr (by have := HO.out; rw [show (tokHs id).take 4 = tokHs id from rfl] at this; exact this) HG.out
      clear h9
      go_wp2_with fail
      refine HC.mono ?_
      rintro e w1 ⟨rfl, hg1, HC2⟩
      clear hg1
      go_wp2_with fail
      refine HC2.out.mono ?_
      rintro e w2 ⟨a2, c2, rfl, ho2, hg2⟩
      have H2 : Hid (SOwn wordE 43 w2 N (.slice a2 (tokL id).length c2) (tokL id).length (tokL id) ∧ w.grownBy w2 none) := ⟨ho2, hg2⟩
      clear ho2 hg2
      go_wp2
      go_ret
      exact ⟨a2, c2, rfl, H2.out.1, H2.out.2⟩
end Go.Proofs.YtboamjhlaehoaaaGreat

