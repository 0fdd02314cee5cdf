/- Several texts in one: Rx, Ry, Sl, Sp. -/
import Derived.Test.YtboamjhlaehoaaaGreatMm
import Derived.Test.YtboamjhlaehoaaaGreatMj
/- Rings: Replicas, the walk. -/
namespace Go.Proofs.YtboamjhlaehoaaaGreat
open Go.RowKit Go.Shelf
set_option linter.unusedVariables false
set_option maxRecDepth 20000
attribute [local go_sem] Oper.semAt_some

def repM (ms : List Mem) (h : Int) : List Int := metL (idsP (rotP ms h))
def repC (ms : List Mem) (h rf : Int) : Int := if ringOk ms = true ∧ 1 ≤ rf ∧ rf ≤ 5 then (if rf ≤ (repM ms h).length then 0 else 133) else 130
def repL (ms : List Mem) (h rf : Int) : List Int := if repC ms h rf = 0 then (repM ms h).take rf.toNat else []
/-- What Replicas answers. -/
def RpOut (ms : List Mem) (h rf : Int) (w : World) (e : Ending) (w' : World) : Prop :=
  ∃ a' c', e = .returned (.tuple #[.slice a' (repL ms h rf).length c', .int .i64 (repC ms h rf)]) ∧ SOwn intE 3 w' w.heap.size (.slice a' (repL ms h rf).length c') (repL ms h rf).length (repL ms h rf) ∧ w.grownBy w' none
/-- The boxes at the start. -/
structure B4 (w W : World) (N : Nat) (E : Int) (V : Value) (rf : Int) : Prop where
  h3 : W.heap[N]? = some (.cells #[.int .u64 E, V] 25 (0, 0))
  h5 : W.heap[N + 1]? = some (.cells #[.int .i64 rf] 3 (0, 0))
  h6 : W.heap[N + 2]? = some (.cells #[.slice none 0 0] 38 (0, 0))
  h7 : W.heap[N + 3]? = some (.cells #[.int .i64 0] 28 (0, 0))
  gb : w.grownBy W none
theorem B4.lt {w W : World} {N : Nat} {E : Int} {V : Value} {rf : Int} (h : B4 w W N E V rf) : N + 3 < W.heap.size := (Array.getElem?_eq_some_iff.1 h.h7).1
theorem B4.grown {w W W' : World} {N : Nat} {E : Int} {V : Value} {rf : Int} (h : B4 w W N E V rf) (hg : W.grownBy W' none) : B4 w W' N E V rf := by
  have hl := h.lt
  exact ⟨by rw [hg.block _ (by omega) (by simp)]; exact h.h3, by rw [hg.block _ (by omega) (by simp)]; exact h.h5, by rw [hg.block _ (by omega) (by simp)]; exact h.h6, by rw [hg.block _ (by omega) (by simp)]; exact h.h7, h.gb.trans hg⟩
theorem B4.made (w : World) (E : Int) (V : Value) (rf : Int) : B4 w ((((w.alloc (.cells #[.int .u64 E, V] 25)).alloc (.cells #[.int .i64 rf] 3)).alloc (.cells #[.slice none 0 0] 38)).alloc (.cells #[.int .i64 0] 28)) w.heap.size E V rf := by
  have s1 := size_alloc w (.cells #[.int .u64 E, V] 25)
  generalize e1 : w.alloc (.cells #[.int .u64 E, V] 25) = W1 at s1
  have s2 := size_alloc W1 (.cells #[.int .i64 rf] 3)
  generalize e2 : W1.alloc (.cells #[.int .i64 rf] 3) = W2 at s2
  have s3 := size_alloc W2 (.cells #[.slice none 0 0] 38)
  generalize e3 : W2.alloc (.cells #[.slice none 0 0] 38) = W3 at s3
  have g1 : w.grownBy W1 none := by rw [← e1]; exact World.grownBy_alloc _ _ none
  have g2 : W1.grownBy W2 none := by rw [← e2]; exact World.grownBy_alloc _ _ none
  have g3 : W2.grownBy W3 none := by rw [← e3]; exact World.grownBy_alloc _ _ none
  have g4 := World.grownBy_alloc W3 (.cells #[.int .i64 0] 28) none
  have n1 : W1.heap[w.heap.size]? = some (.cells #[.int .u64 E, V] 25 (0, 0)) := by rw [← e1]; exact heap_alloc_new w _
  have n2 : W2.heap[w.heap.size + 1]? = some (.cells #[.int .i64 rf] 3 (0, 0)) := by rw [← e2, ← s1]; exact heap_alloc_new W1 _
  have n3 : W3.heap[w.heap.size + 2]? = some (.cells #[.slice none 0 0] 38 (0, 0)) := by rw [← e3, show w.heap.size + 2 = W2.heap.size by omega]; exact heap_alloc_new W2 _
  have n4 : (W3.alloc (.cells #[.int .i64 0] 28)).heap[w.heap.size + 3]? = some (.cells #[.int .i64 0] 28 (0, 0)) := by rw [show w.heap.size + 3 = W3.heap.size by omega]; exact heap_alloc_new W3 _
  exact ⟨by rw [(g2.trans (g3.trans g4)).block _ (by omega) (by simp)]; exact n1, by rw [(g3.trans g4).block _ (by omega) (by simp)]; exact n2, by rw [g4.block _ (by omega) (by simp)]; exact n3, n4, g1.trans (g2.trans (g3.trans g4))⟩
theorem B4.set {w W : World} {N : Nat} {E : Int} {V : Value} {rf : Int} (h : B4 w W N E V rf) (hN : w.heap.size = N) (q : Int) : ((W.setCell ⟨N + 2, 0, none⟩ (.slice none 0 0)).setCell ⟨N + 3, 0, none⟩ (.int .i64 q)).cell? ⟨N + 2, 0, none⟩ = some (.slice none 0 0) ∧ ((W.setCell ⟨N + 2, 0, none⟩ (.slice none 0 0)).setCell ⟨N + 3, 0, none⟩ (.int .i64 q)).cell? ⟨N + 3, 0, none⟩ = some (.int .i64 q) ∧ w.grownBy ((W.setCell ⟨N + 2, 0, none⟩ (.slice none 0 0)).setCell ⟨N + 3, 0, none⟩ (.int .i64 q)) none := by
  have a1 : (W.setCell ⟨N + 2, 0, none⟩ (.slice none 0 0)).heap[N + 3]? = some (.cells #[.int .i64 0] 28 (0, 0)) := by rw [set_other _ (by omega)]; exact h.h7
  refine ⟨?_, cell1 (set1 a1 _), ?_⟩
  · have : ((W.setCell ⟨N + 2, 0, none⟩ (.slice none 0 0)).setCell ⟨N + 3, 0, none⟩ (.int .i64 q)).heap[N + 2]? = some (.cells #[.slice none 0 0] 38 (0, 0)) := by rw [set_other _ (by omega)]; exact set1 h.h6 _
    exact cell1 this
  · exact gb_trans (gb_trans h.gb (gb_set (g := N + 2) rfl) (fun k hk => .inl (by cases hk; omega))) (gb_set (g := N + 3) rfl) (fun k hk => .inl (by cases hk; omega))
theorem typed_ne {w : World} {k : Nat} {t u : TypeId} (h : Typed w k t) (hne : t ≠ u) : ¬ Typed w k u := fun h' => by
  obtain ⟨c, hc⟩ := h
  obtain ⟨d, hd⟩ := h'
  rw [hc] at hd
  cases hd
  exact hne rfl
theorem keepsFrom_cells {W W' : World} {row : Option Nat} (hg : W.grownBy W' row) (hr : ∀ k, row = some k → ∃ t, Typed W k t) (B : Nat) : KeepsFrom B W W' := ⟨hg.size, fun k o _ hk ho => by
  rw [hg.block k (Array.getElem?_eq_some_iff.1 hk).1 (fun e => ?_), hk]
  obtain ⟨t, c, hc⟩ := hr k e.symm
  rw [hc] at hk
  cases hk
  simp [Obj.isCells] at ho⟩
theorem own_blk {a : Option Addr} {n c k : Nat} (h : (Value.slice a n c).ownBlock = some k) : ∃ x, a = some x ∧ x.block = k := by
  cases a with
  | none => simp [Value.ownBlock] at h
  | some x => exact ⟨x, rfl, by simpa [Value.ownBlock] using h⟩
/-- One more is met. -/
theorem me_app {w W : World} {N M : Nat} {rf x : Int} {met : List Int} {a : Option Addr} {c : Nat} (h : MeAt w W N M rf met a c) (hN : w.heap.size = N) (hM : N + 3 < M) {v' : Value} {w1 : World} (ho : w1.ownsRow (M + 1) 3 1 v' (met.length + 1) (intE.flat met ++ [.int .i64 x])) (hg : (W.alloc (.cells #[.int .i64 x] 3)).grownBy w1 (Value.slice a met.length c).ownBlock) (B : Nat) :
    ∃ g c', v' = .slice (some ⟨g, 0, none⟩) (met.length + 1) c' ∧ MeAt w (w1.setCell ⟨M, 0, none⟩ v') N M rf (met ++ [x]) (some ⟨g, 0, none⟩) c' ∧ KeepsFrom B W (w1.setCell ⟨M, 0, none⟩ v') ∧ KpP W (w1.setCell ⟨M, 0, none⟩ v') ∧ w1.heap[M]? = some (.cells #[.slice a met.length c] 38 (0, 0)) := by
  have hMl : M < W.heap.size := (Array.getElem?_eq_some_iff.1 h.h8).1
  have ga := World.grownBy_alloc W (.cells #[.int .i64 x] 3) none
  have hs1 := size_alloc W (.cells #[.int .i64 x] 3)
  obtain ⟨g, c', rfl⟩ := ownsRow_succ ho
  have hob : ∀ k, (Value.slice a met.length c).ownBlock = some k → M + 1 ≤ k ∧ Typed W k 3 := fun k hk => by
    obtain ⟨y, rfl, rfl⟩ := own_blk hk
    exact ⟨(SOwn.block h.own _ hk).1, sown_typed h.own⟩
  have hk : ∀ k, k ≤ M → w1.heap[k]? = W.heap[k]? := fun k hk => by
    rw [hg.block k (by omega) (fun e => by have := (hob k e.symm).1; omega), ga.block k (by omega) (by simp)]
  have h8 := (hk M (Nat.le_refl _)).trans h.h8
  have so : SOwn intE 3 w1 (M + 1) (.slice (some ⟨g, 0, none⟩) (met.length + 1) c') (met.length + 1) (met ++ [x]) := by
    show w1.ownsRow _ _ _ _ _ _
    rw [intE.flat_app]
    exact ho
  have hgM : M + 1 ≤ g := (SOwn.block so g rfl).1
  have gs : w1.grownBy (w1.setCell ⟨M, 0, none⟩ (.slice (some ⟨g, 0, none⟩) (met.length + 1) c')) (some M) := gb_set rfl
  have hT : ∀ k t, Typed W k t → Typed (W.alloc (.cells #[.int .i64 x] 3)) k t := fun k t hk => by
    have hl := typed_lt hk
    obtain ⟨cs, hcs⟩ := hk
    exact ⟨cs, by rw [ga.block k hl (by simp)]; exact hcs⟩
  have k1 : KeepsFrom B W (W.alloc (.cells #[.int .i64 x] 3)) := (KeepsOthers.alloc _ _).from _
  have k2 : KeepsFrom B (W.alloc (.cells #[.int .i64 x] 3)) w1 := keepsFrom_cells hg (fun k hk => ⟨3, hT k 3 (hob k hk).2⟩) B
  have k3 : KeepsFrom B w1 (w1.setCell ⟨M, 0, none⟩ (.slice (some ⟨g, 0, none⟩) (met.length + 1) c')) := (KeepsOthers.setCell _ _ _).from _
  refine ⟨g, c', rfl, ⟨?_, ?_, ?_, ?_, ?_, ?_⟩, (k1.trans k2).trans k3, ?_, h8⟩
  · rw [set_other _ (by omega), hk _ (by omega)]; exact h.h5
  · rw [set_other _ (by omega), hk _ (by omega)]; exact h.h6
  · rw [set_other _ (by omega), hk _ (by omega)]; exact h.h7
  · rw [List.length_append]; exact set1 h8 _
  · rw [List.length_append]
    refine sown_stay so (fun y hy => ?_)
    cases hy
    exact set_other _ (by show g ≠ M; omega)
  · exact gb_trans (gb_trans (gb_trans h.gb ga (by simp)) hg (fun k hk => .inl (by have := (hob k hk).1; omega))) gs (fun k hk => .inl (by cases hk; omega))
  · refine ((KpP.gb ga (by simp)).trans (KpP.gb hg (fun k hk => typed_ne (hT k 3 (hob k hk).2) (by decide)))).trans (KpP.gb gs (fun k hk => ?_))
    cases hk
    exact typed_ne ⟨_, h8⟩ (by decide)
/-- All are met. -/
theorem me_done {w W : World} {N M : Nat} {rf : Int} {met : List Int} {a : Option Addr} {c : Nat} (h : MeAt w W N M rf met a c) (hN : w.heap.size = N) (hM : N + 3 < M) (B : Nat) :
    DnAt w ((W.setCell ⟨N + 2, 0, none⟩ (.slice a met.length c)).setCell ⟨N + 3, 0, none⟩ (.int .i64 0)) N M met a c ∧ KeepsFrom B W ((W.setCell ⟨N + 2, 0, none⟩ (.slice a met.length c)).setCell ⟨N + 3, 0, none⟩ (.int .i64 0)) := by
  refine ⟨⟨?_, ?_, ?_, ?_⟩, ((KeepsOthers.setCell _ _ _).trans (KeepsOthers.setCell _ _ _)).from _⟩
  · rw [set_other _ (by omega)]; exact set1 h.h6 _
  · exact set1 (by rw [set_other _ (by omega)]; exact h.h7) _
  · refine sown_stay h.own (fun y hy => ?_)
    have hb := SOwn.block h.own y.block (by rw [hy]; rfl)
    rw [Below.heap_setCell _ ⟨N + 3, 0, none⟩ _ _ (by show y.block ≠ N + 3; omega), Below.heap_setCell _ ⟨N + 2, 0, none⟩ _ _ (by show y.block ≠ N + 2; omega)]
  · exact gb_trans (gb_trans h.gb (gb_set (g := N + 2) rfl) (fun k hk => .inl (by cases hk; omega))) (gb_set (g := N + 3) rfl) (fun k hk => .inl (by cases hk; omega))
end Go.Proofs.YtboamjhlaehoaaaGreat

/- Rings: Replicas, walked. -/
namespace Go.Proofs.YtboamjhlaehoaaaGreat
open Go.RowKit Go.Shelf
set_option linter.unusedVariables false
set_option maxRecDepth 20000
attribute [local go_sem] Oper.semAt_some

set_option maxRecDepth 100000 in
set_option maxHeartbeats 8000000 in
theorem f_replicas (E : Int) (ms : List Mem) (raw : List MRow) (h rf : Int) (a : Option Addr) (n c : Nat) (w : World) (hr : MsRd w a ms raw) (hn : ms.length = n) (hz : n ≤ 3518437208800) (hz2 : ∀ s ∈ ms, s.2.2.length ≤ 35184372088832) :
    Calls Tryz.prog 26 #[.agg #[.int .u64 E, .slice a n c], .int .u32 h, .int .i64 rf] w fun e w' => RpOut ms h rf w e w' := by
  have HM : Hid (∀ w1, w.grownBy w1 none → Calls Tryz.prog 44 #[.agg #[.int .u64 E, .slice a n c]] w1 fun e w' => e = .returned (.bool (ringOk ms)) ∧ w1.grownBy w' none) := fun w1 hg => g_mayBe E a raw ms n c w1 (hr.grown hg) hn (by omega) hz2
  have HB0 : Hid (B4 w ((((w.alloc (.cells #[.int .u64 E, .slice a n c] 25)).alloc (.cells #[.int .i64 rf] 3)).alloc (.cells #[.slice none 0 0] 38)).alloc (.cells #[.int .i64 0] 28)) w.heap.size E (.slice a n c) rf) := B4.made w E _ rf
  obtain ⟨N, eN⟩ : ∃ N, w.heap.size = N := ⟨_, rfl⟩
  have EN : Hid (w.heap.size = N) := eN
  have HBAD : Hid (∀ q W1, repC ms h rf = q → q ≠ 0 → B4 w W1 N E (.slice a n c) rf → RpOut ms h rf w (.returned (.tuple #[.slice none 0 0, .int .i64 q])) ((W1.setCell ⟨N + 2, 0, none⟩ (.slice none 0 0)).setCell ⟨N + 3, 0, none⟩ (.int .i64 q))) := fun q W1 h1 h2 hb => by
    have e : repL ms h rf = [] := by unfold repL; rw [if_neg (by rw [h1]; exact h2)]
    unfold RpOut
    rw [e, h1]
    exact ⟨none, 0, rfl, SOwn.nil 3 _ _, (hb.set eN q).2.2⟩
  refine (callsIn_wide (n := 9)).1 (callsIn_of_wp_marks Tryz.func26 rfl trivial ?_ rfl)
  simp only [Tryz.ntmps26, List.size_toArray, List.length_cons, List.length_nil, Nat.reduceAdd, Nat.reduceSub, Array.replicate_succ, Array.replicate_zero, List.push_toArray, List.append_toArray, List.nil_append, List.cons_append]
  refine wpIn_wide.2 ?_
  cases ho : ringOk ms with
  | false =>
    have HC : Hid (repC ms h rf = 130) := by show _ = _; simp [repC, ho]
    rw [ho] at HM
    clear hr hn hz hz2 ho
    go_wp2_with fail
    rw [eN] at HB0
    generalize ((((w.alloc (.cells #[.int .u64 E, .slice a n c] 25)).alloc (.cells #[.int .i64 rf] 3)).alloc (.cells #[.slice none 0 0] 38)).alloc (.cells #[.int .i64 0] 28)) = W0 at HB0 ⊢
    clear eN
    refine (HM.out W0 HB0.out.gb).mono ?_
    rintro e w1 ⟨rfl, hg1⟩
    have HB1 : Hid (B4 w w1 N E (.slice a n c) rf) := HB0.out.grown hg1
    have r6 := cell1 HB1.out.h6
    have r7 := cell1 HB1.out.h7
    have f6 := free_row HB1.out.h6 0
    have f7 := free_row HB1.out.h7 0
    clear hg1
    go_wp2
    exact ⟨_, results_2c Tryz.results26 _ _ (N + 2) (N + 3) (.slice none 0 0) (.int .i64 130) rfl rfl (HB1.out.set EN.out 130).1 (HB1.out.set EN.out 130).2.1, HBAD.out 130 w1 HC.out (by decide) HB1.out⟩
  | true =>
    by_cases h1 : rf < 1
    · have HC : Hid (repC ms h rf = 130) := by show _ = _; simp [repC]; omega
      rw [ho] at HM
      clear hr hn hz hz2 ho
      go_wp2_with fail
      rw [eN] at HB0
      generalize ((((w.alloc (.cells #[.int .u64 E, .slice a n c] 25)).alloc (.cells #[.int .i64 rf] 3)).alloc (.cells #[.slice none 0 0] 38)).alloc (.cells #[.int .i64 0] 28)) = W0 at HB0 ⊢
      clear eN
      refine (HM.out W0 HB0.out.gb).mono ?_
      rintro e w1 ⟨rfl, hg1⟩
      have HB1 : Hid (B4 w w1 N E (.slice a n c) rf) := HB0.out.grown hg1
      have r5 := cell1 HB1.out.h5
      have r6 := cell1 HB1.out.h6
      have r7 := cell1 HB1.out.h7
      have f6 := free_row HB1.out.h6 0
      have f7 := free_row HB1.out.h7 0
      clear hg1
      go_wp2
      exact ⟨_, results_2c Tryz.results26 _ _ (N + 2) (N + 3) (.slice none 0 0) (.int .i64 130) rfl rfl (HB1.out.set EN.out 130).1 (HB1.out.set EN.out 130).2.1, HBAD.out 130 w1 HC.out (by decide) HB1.out⟩
    · by_cases h2 : 5 < rf
      · have HC : Hid (repC ms h rf = 130) := by show _ = _; simp [repC]; omega
        rw [ho] at HM
        clear hr hn hz hz2 ho
        go_wp2_with fail
        rw [eN] at HB0
        generalize ((((w.alloc (.cells #[.int .u64 E, .slice a n c] 25)).alloc (.cells #[.int .i64 rf] 3)).alloc (.cells #[.slice none 0 0] 38)).alloc (.cells #[.int .i64 0] 28)) = W0 at HB0 ⊢
        clear eN
        refine (HM.out W0 HB0.out.gb).mono ?_
        rintro e w1 ⟨rfl, hg1⟩
        have HB1 : Hid (B4 w w1 N E (.slice a n c) rf) := HB0.out.grown hg1
        have r5 := cell1 HB1.out.h5
        have r6 := cell1 HB1.out.h6
        have r7 := cell1 HB1.out.h7
        have f6 := free_row HB1.out.h6 0
        have f7 := free_row HB1.out.h7 0
        clear hg1
        go_wp2
        exact ⟨_, results_2c Tryz.results26 _ _ (N + 2) (N + 3) (.slice none 0 0) (.int .i64 130) rfl rfl (HB1.out.set EN.out 130).1 (HB1.out.set EN.out 130).2.1, HBAD.out 130 w1 HC.out (by decide) HB1.out⟩
      · have hlen := ringOk_len ho
        have h64 : ∀ s ∈ ms, s.2.2.length ≤ 64 := fun s hs => by
          obtain ⟨i, hi⟩ := List.getElem?_of_mem hs
          have := ((ringOk_iff ms).1 ho).1 i s hi
          simp [memOk] at this
          exact this.1.2
        have HCI : Hid (∀ w1, w.grownBy w1 none → Calls Tryz.prog 56 #[.slice a n c, .int .u32 h] w1 fun e w' => ∃ bp bf a' n' c', e = .returned (.func (.func 79) #[] #[.pointer (some ⟨bp, 0, none⟩), .pointer (some ⟨bf, 0, none⟩)]) ∧ CiAt w' bp bf a' n' c' (posP (sortP (plc ms)) (h, 0)) (sortP (plc ms)) ∧ w1.grownBy w' none) := fun w1 hg => g_circle ms raw h a n c w1 (hr.grown hg) hn (by omega) h64
        have HRC : Hid (repC ms h rf = if rf ≤ (repM ms h).length then 0 else 133) := by show _ = _; unfold repC; rw [if_pos ⟨ho, by omega, by omega⟩]
        rw [ho] at HM
        clear hr hn hz hz2 ho hlen h64
        go_wp2_with fail
        rw [eN] at HB0
        generalize ((((w.alloc (.cells #[.int .u64 E, .slice a n c] 25)).alloc (.cells #[.int .i64 rf] 3)).alloc (.cells #[.slice none 0 0] 38)).alloc (.cells #[.int .i64 0] 28)) = W0 at HB0 ⊢
        clear eN
        refine (HM.out W0 HB0.out.gb).mono ?_
        rintro e w1 ⟨rfl, hg1⟩
        have HB1 : Hid (B4 w w1 N E (.slice a n c) rf) := HB0.out.grown hg1
        obtain ⟨p0, p1⟩ := cell2 HB1.out.h3
        have r5 := cell1 HB1.out.h5
        have ga := World.grownBy_alloc w1 (.cells #[.slice none 0 0] 38) none
        have p2 := ga.cell p1 (by simp)
        have hd1 : decide (rf < 1) = false := by simpa using h1
        have hd2 : decide (5 < rf) = false := by simpa using h2
        have HC2 := HCI.out (w1.alloc (.cells #[.slice none 0 0] 38)) (HB1.out.gb.trans ga)
        have HGA : Hid (w1.grownBy (w1.alloc (.cells #[.slice none 0 0] 38)) none) := ga
        have H8 : Hid ((w1.alloc (.cells #[.slice none 0 0] 38)).heap[w1.heap.size]? = some (.cells #[.slice none 0 0] 38 (0, 0))) := heap_alloc_new w1 _
        clear hg1 ga
        go_wp2_with fail
        refine HC2.mono ?_
        rintro e w2 ⟨bp, bf, a2, n2, c2, rfl, hci, hg2⟩
        obtain ⟨M, eM⟩ : ∃ M, w1.heap.size = M := ⟨_, rfl⟩
        rw [eM] at H8 ⊢
        have hMlt : N + 3 < M := by rw [← eM]; exact HB1.out.lt
        have HB2 : B4 w w2 N E (.slice a n c) rf := HB1.out.grown (HGA.out.trans hg2)
        have h82 : w2.heap[M]? = some (.cells #[.slice none 0 0] 38 (0, 0)) := by
          rw [hg2.block M (Array.getElem?_eq_some_iff.1 H8.out).1 (by simp)]; exact H8.out
        have hM2 : M < w2.heap.size := (Array.getElem?_eq_some_iff.1 h82).1
        have HI0 : Hid (∃ a c, MeAt w w2 N M rf (metL []) a c ∧ ((metL []).length : Int) < rf) := ⟨none, 0, ⟨HB2.h5, HB2.h6, HB2.h7, h82, SOwn.nil 3 _ _, HB2.gb⟩, by simp [metL]; omega⟩
        have hlt : ∀ {ad : Addr} {v : Value}, w2.cell? ad = some v → ad.block < w2.heap.size := fun {ad v} hc => by
          rcases Nat.lt_or_ge ad.block w2.heap.size with h' | h'
          · exact h'
          · simp [World.cell?, Array.getElem?_eq_none h'] at hc
        have hst := iter_stops 8 bp bf a2 n2 c2 _ _ w2 hci (hlt hci.box) (hlt hci.first) (fun x hx hl => by
          rcases hci.rd with e | ⟨b, o, e, hc⟩
          · exact absurd e hl
          · rw [hx] at e
            cases e
            obtain ⟨y, r, e2⟩ := List.exists_cons_of_ne_nil hl
            exact hlt (hc 0 (.int .u32 y.1) (by rw [e2]; rfl)))
        have hNs : w.heap.size ≤ w2.heap.size := HB2.gb.size
        have HST : Hid _ := hst
        have HM2 : Hid (M < w2.heap.size ∧ N + 3 < M) := ⟨hM2, hMlt⟩
        have HNS : Hid (w.heap.size ≤ w2.heap.size) := hNs
        clear hst hci hg2 HB2 h82 hlt hM2 hMlt hNs eM H8 HGA p0 p1 p2 r5 hd1 hd2
        go_wp2_with fail
        refine (wpIn_wide (n := 9)).1 ?_
        refine wpIn_rangeFunc_ownG (F := Fence.wide) (n := 9) rfl (by omega) (gf := 79) (lb := #[.pointer (some ⟨bp, 0, none⟩), .pointer (some ⟨bf, 0, none⟩)]) rfl trivial (enters_of Tryz.func79 (by kernel_rfl) rfl) HST.out (fun h k => KpP.trans h k)
          (fun W l o o' hl ho hc hw k hk => World.putObj_heap_other (fun e => by
            subst e
            obtain ⟨cs, hcs⟩ := hk
            rw [hcs] at ho
            cases ho
            simp [Obj.isCells] at hc)) (Below.refl _ _) (fun _ => rfl)
          (fun pre W => ∃ a c, MeAt w W N M rf (metL pre) a c ∧ ((metL pre).length : Int) < rf)
          (fun cd pre W => cd = .ret ∧ ∃ a c, DnAt w W N M (metL pre) a c ∧ ((metL pre).length : Int) = rf)
          (fun s W W' row hs hg hr => by
            obtain ⟨a, c, h1, h2⟩ := hs
            exact ⟨a, c, h1.keep hg (fun r e => ⟨Nat.le_trans HNS.out (hr r e).1, (hr r e).2⟩), h2⟩)
          (fun cd s W W' row hs hg hr => by
            obtain ⟨h0, a, c, h1, h2⟩ := hs
            exact ⟨h0, a, c, h1.keep hg (fun r e => ⟨Nat.le_trans HNS.out (hr r e).1, (hr r e).2⟩), h2⟩)
          HI0.out
          (fun x => { tmps := #[.agg #[.int .u64 E, .slice a n c], .int .u32 h, .int .i64 rf, .pointer (some ⟨N, 0, none⟩), undef, .pointer (some ⟨N + 1, 0, none⟩), .pointer (some ⟨N + 1 + 1, 0, none⟩), .pointer (some ⟨N + 1 + 1 + 1, 0, none⟩), .pointer (some ⟨M, 0, none⟩), .int .i64 x, .agg #[.int .u64 E, .slice a n c], .bool true, .bool false, .bool false, .int .i64 rf, .bool false, .bool false, .bool false, .int .i64 rf, .bool false, .bool false, .pointer (some ⟨N, 1, none⟩), .slice a n c, .int .u32 h, .func (.func 79) #[] #[.pointer (some ⟨bp, 0, none⟩), .pointer (some ⟨bf, 0, none⟩)], .int .i64 x, undef, undef, undef, undef, undef, undef, undef, undef, undef, undef, undef, undef], defers := [] }) ?assign ?body ?done ?stop
        case assign =>
          intro l x W K hK
          gi_wp2
          exact hK
        case body =>
          rintro l pre x W ⟨a3, c3, hme, hlt⟩ hpl
          obtain ⟨hM2, hM3⟩ := HM2.out
          have HCO : Hid (CallsIn Fence.wide 6 Tryz.prog 57 #[.slice a3 (metL pre).length c3, .int .i64 x] W fun e w' => e = .returned (.bool ((metL pre).contains x)) ∧ w' = W) := callsIn_wide.2 (g_contains a3 (metL pre) _ c3 x W hme.own.rd rfl (by omega))
          have r8 := cell1 hme.h8
          have r5 := cell1 hme.h5
          have HME : Hid (MeAt w W N M rf (metL pre) a3 c3) := hme
          have HSN : Hid (metL (pre ++ [x]) = metS (metL pre) x) := metL_snoc pre x
          clear hme
          cases hco : (metL pre).contains x with
          | true =>
            rw [hco] at HCO
            have HSX : Hid (metL (pre ++ [x]) = metL pre) := by show _ = _; rw [HSN.out]; unfold metS; rw [if_pos hco]
            clear HSN hco
            gi_wp2_with (first | (gi_at_call 57; refine (CallsIn.inRound l HCO.out).mono ?_; rintro e w5 ⟨rfl, hw5⟩; rw [hw5]; clear hw5) | (refine ⟨trivial, ?_⟩; gi_at_call 57; refine (CallsIn.inRound l HCO.out).mono ?_; rintro e w5 ⟨rfl, hw5⟩; rw [hw5]; clear hw5))
            exact ⟨KeepsFrom.refl _ _, KpP.refl _, a3, c3, by rw [HSX.out]; exact HME.out, by rw [HSX.out]; exact hlt⟩
          | false =>
            rw [hco] at HCO
            have HSX : Hid (metL (pre ++ [x]) = metL pre ++ [x]) := by show _ = _; rw [HSN.out]; unfold metS; rw [if_neg (by rw [hco]; decide)]
            clear HSN hco
            obtain ⟨i0, hi, hz0, hz1, hz2⟩ := info_part info3
            gi_wp2_with (first | (gi_at_call 57; refine (CallsIn.inRound l HCO.out).mono ?_; rintro e w5 ⟨rfl, hw5⟩; rw [hw5]; clear hw5) | (refine ⟨trivial, ?_⟩; gi_at_call 57; refine (CallsIn.inRound l HCO.out).mono ?_; rintro e w5 ⟨rfl, hw5⟩; rw [hw5]; clear hw5) | (gi_at_builtin; refine wpListIn_append_own _ rfl (.tmp 29) (.tmp 31) 38 rfl (M + 1) 3 i0 (.int .i64 0) 1 8 Tryz.underlying38 hi hz0 hz1 hz2 rfl (by decide) _ _ _ rfl (World.ownsRow.alloc HME.out.own _) ⟨W.heap.size, 0, none⟩ 1 1 [.int .i64 x] rfl rfl (cell_one_new _ _ _) (by simp [Value.oneCell']) (by unfold maxLen; omega) (by omega) (by have := (Array.getElem?_eq_some_iff.1 HME.out.h8).1; simp; omega) ?_; intro v' w6 hown' hgrow _; obtain ⟨g, c7, rfl, hme7, hkf, hkp, h87⟩ := me_app HME.out EN.out hM3 hown' hgrow w2.heap.size; have HE7 : Hid (MeAt w (w6.setCell ⟨M, 0, none⟩ (.slice (some ⟨g, 0, none⟩) ((metL pre).length + 1) c7)) N M rf (metL pre ++ [x]) (some ⟨g, 0, none⟩) c7 ∧ KeepsFrom w2.heap.size W (w6.setCell ⟨M, 0, none⟩ (.slice (some ⟨g, 0, none⟩) ((metL pre).length + 1) c7)) ∧ KpP W (w6.setCell ⟨M, 0, none⟩ (.slice (some ⟨g, 0, none⟩) ((metL pre).length + 1) c7))) := ⟨hme7, hkf, hkp⟩; have r87 := cell1 h87; have f87 := free_row h87 0; have r88 := cell1 hme7.h8; rw [List.length_append] at r88; have r57 := cell1 hme7.h5; have r67 := cell1 hme7.h6; have f67 := free_row hme7.h6 0; have r77 := cell1 hme7.h7; have f77 := free_row hme7.h7 0; clear hme7 hkf hkp h87 hown' hgrow))
            · rename_i hfull
              have hf : ((metL pre).length : Int) + 1 = rf := eq_of_beq hfull
              have hd := me_done HE7.out.1 EN.out hM3 w2.heap.size
              rw [List.length_append, List.length_singleton] at hd
              refine ⟨HE7.out.2.1.trans hd.2, rfl, some ⟨g, 0, none⟩, c7, ?_, ?_⟩
              · rw [HSX.out]; exact hd.1
              · rw [HSX.out, List.length_append, List.length_singleton]; omega
            · rename_i hfull
              have hf : ((metL pre).length : Int) + 1 ≠ rf := fun e => by rw [e] at hfull; simp at hfull
              refine ⟨HE7.out.2.1, HE7.out.2.2, some ⟨g, 0, none⟩, c7, ?_, ?_⟩
              · rw [HSX.out]; exact HE7.out.1
              · rw [HSX.out, List.length_append, List.length_singleton]; omega
        case done =>
          rintro D xs W hD rfl ⟨a3, c3, hme, hlt⟩ hK
          obtain ⟨hM2, hM3⟩ := HM2.out
          have HRM : Hid (repM ms h = metL (idsP (List.drop (posP (sortP (plc ms)) (h, 0)) (sortP (plc ms)) ++ List.take (posP (sortP (plc ms)) (h, 0)) (sortP (plc ms))))) := rfl
          have HC : Hid (repC ms h rf = 133) := by show _ = _; rw [HRC.out, if_neg (by rw [HRM.out]; omega)]
          have r6 := cell1 hme.h6
          have r7 := cell1 hme.h7
          have f6 := free_row hme.h6 0
          have f7 := free_row hme.h7 0
          have a1 : (W.setCell ⟨N + 2, 0, none⟩ (.slice none 0 0)).heap[N + 3]? = some (.cells #[.int .i64 0] 28 (0, 0)) := by rw [set_other _ (by omega)]; exact hme.h7
          have b1 : ((W.setCell ⟨N + 2, 0, none⟩ (.slice none 0 0)).setCell ⟨N + 3, 0, none⟩ (.int .i64 133)).heap[N + 2]? = some (.cells #[.slice none 0 0] 38 (0, 0)) := by rw [set_other _ (by omega)]; exact set1 hme.h6 _
          have HX6 : Hid (((W.setCell ⟨N + 2, 0, none⟩ (.slice none 0 0)).setCell ⟨N + 3, 0, none⟩ (.int .i64 133)).cell? ⟨N + 2, 0, none⟩ = some (.slice none 0 0)) := cell1 b1
          have HX7 : Hid (((W.setCell ⟨N + 2, 0, none⟩ (.slice none 0 0)).setCell ⟨N + 3, 0, none⟩ (.int .i64 133)).cell? ⟨N + 3, 0, none⟩ = some (.int .i64 133)) := cell1 (set1 a1 _)
          have HXG : Hid (w.grownBy ((W.setCell ⟨N + 2, 0, none⟩ (.slice none 0 0)).setCell ⟨N + 3, 0, none⟩ (.int .i64 133)) none) := gb_trans (gb_trans hme.gb (gb_set (g := N + 2) rfl) (fun k hk => .inl (by cases hk; have := EN.out; omega))) (gb_set (g := N + 3) rfl) (fun k hk => .inl (by cases hk; have := EN.out; omega))
          have HXK : Hid (((W.setCell ⟨N + 2, 0, none⟩ (.slice none 0 0)).setCell ⟨N + 3, 0, none⟩ (.int .i64 133)).heap[D]? = some (.deferred (some []))) := ((KeepsOthers.setCell _ _ _).trans (KeepsOthers.setCell _ _ _)).same D _ hK rfl
          clear a1 b1 hme HST
          go_wp2
          refine ⟨by simp, .inl ⟨_, _, rfl, run_takeDeferred HXK.out, ?_⟩⟩
          have hp := grownBy_putObj' ((W.setCell ⟨N + 2, 0, none⟩ (.slice none 0 0)).setCell ⟨N + 3, 0, none⟩ (.int .i64 133)) D (.deferred none)
          have q6 := cell_kept HX6.out hp (fun r e => by cases e; exact ⟨_, HXK.out, rfl⟩)
          have q7 := cell_kept HX7.out hp (fun r e => by cases e; exact ⟨_, HXK.out, rfl⟩)
          refine ⟨_, results_2c Tryz.results26 _ _ (N + 2) (N + 3) (.slice none 0 0) (.int .i64 133) rfl rfl q6 q7, ?_⟩
          have e : repL ms h rf = [] := by unfold repL; rw [if_neg (by rw [HC.out]; decide)]
          unfold RpOut
          rw [e, HC.out]
          exact ⟨none, 0, rfl, SOwn.nil 3 _ _, gb_trans HXG.out hp (fun k hk => .inl (by cases hk; have := HNS.out; omega))⟩
        case stop =>
          rintro D cd pre W hD hpre ⟨rfl, a3, c3, hdn, hlt⟩ hK
          obtain ⟨hM2, hM3⟩ := HM2.out
          have HRM : Hid (repM ms h = metL (idsP (List.drop (posP (sortP (plc ms)) (h, 0)) (sortP (plc ms)) ++ List.take (posP (sortP (plc ms)) (h, 0)) (sortP (plc ms))))) := rfl
          have HPR : Hid (metL pre <+: repM ms h) := by show _ <+: _; rw [HRM.out]; exact metL_pre hpre
          have HC : Hid (repC ms h rf = 0) := by show _ = _; rw [HRC.out, if_pos (by have := HPR.out.length_le; omega)]
          have HL : Hid (repL ms h rf = metL pre) := by
            show _ = _
            unfold repL
            rw [if_pos HC.out]
            obtain ⟨r, hr⟩ := HPR.out
            rw [← hr, show rf.toNat = (metL pre).length by omega, List.take_left]
          have HDN : Hid (DnAt w W N M (metL pre) a3 c3) := hdn
          clear hdn HST hpre
          gi_wp2
          refine ⟨by simp, .inl ⟨_, _, rfl, run_takeDeferred hK, ?_⟩⟩
          have hp := grownBy_putObj' W D (.deferred none)
          have hr' : ∀ r, some D = some r → w.heap.size ≤ r ∧ ∃ o : Obj, W.heap[r]? = some o ∧ o.isCells = false := fun r e => by cases e; exact ⟨by have := HNS.out; omega, _, hK, rfl⟩
          have hk := HDN.out.keep hp hr'
          refine ⟨_, results_2c Tryz.results26 _ _ (N + 2) (N + 3) (.slice a3 (metL pre).length c3) (.int .i64 0) rfl rfl (cell1 hk.h6) (cell1 hk.h7), ?_⟩
          unfold RpOut
          rw [HL.out, HC.out]
          exact ⟨a3, c3, rfl, hk.own.base (by have := EN.out; omega), hk.gb⟩
end Go.Proofs.YtboamjhlaehoaaaGreat

/- Rings: the life of a member, as maths. -/
namespace Go.Proofs.YtboamjhlaehoaaaGreat
open Go.RowKit
set_option linter.unusedVariables false
set_option maxRecDepth 20000

theorem pos_part (id : Int) : ∀ ms : List Mem, RiseM ms → (∀ m ∈ ms.take (posI ms id), m.1 < id) ∧ (∀ m ∈ ms.drop (posI ms id), ¬ m.1 < id)
  | [], _ => ⟨fun m h => by simp at h, fun m h => by simp at h⟩
  | x :: ms, h => by
    have hp : (∀ a ∈ ms.map (·.1), x.1 < a) ∧ (ms.map (·.1)).Pairwise (· < ·) := by
      have := h; unfold RiseM at this; rw [List.map_cons, List.pairwise_cons] at this; exact this
    by_cases hx : x.1 < id
    · have e : posI (x :: ms) id = posI ms id + 1 := by unfold posI; rw [List.countP_cons_of_pos (by simpa using hx)]
      obtain ⟨h1, h2⟩ := pos_part id ms hp.2
      rw [e, List.take_succ_cons, List.drop_succ_cons]
      refine ⟨fun m hm => ?_, h2⟩
      rcases List.mem_cons.1 hm with rfl | hm
      · exact hx
      · exact h1 m hm
    · have h0 : ∀ m ∈ x :: ms, ¬ m.1 < id := by
        intro m hm
        rcases List.mem_cons.1 hm with rfl | hm
        · exact hx
        · have := hp.1 m.1 (List.mem_map.2 ⟨m, hm, rfl⟩); omega
      have e : posI (x :: ms) id = 0 := by unfold posI; rw [List.countP_eq_zero]; intro m hm; simpa using h0 m hm
      rw [e]
      exact ⟨fun m h => by simp at h, by simpa using h0⟩
/-- A ring with one member more. -/
def withM (ms : List Mem) (id s : Int) : List Mem := ms.take (posI ms id) ++ [(id, s, tokL id)] ++ ms.drop (posI ms id)
structure Life (ms : List Mem) (id s : Int) : Prop where
  ok : ringOk (withM ms id s) = true
  pos : posI (withM ms id s) id = posI ms id
  get : (withM ms id s)[posI ms id]? = some (id, s, tokL id)
  has : hasI (withM ms id s) id = true
  st : stAt (withM ms id s) id = s
  turn : ∀ s', setSt (withM ms id s) (posI ms id) s' = withM ms id s'
  out : (withM ms id s).take (posI ms id) ++ (withM ms id s).drop (posI ms id + 1) = ms
  len : (withM ms id s).length = ms.length + 1
theorem life (ms : List Mem) (id s : Int) (ho : ringOk ms = true) (hi : idOk id = true) (hh : hasI ms id = false) (hs : stOk s = true) : Life ms id s := by
  have hr := ringOk_rise ho
  obtain ⟨h1, h2⟩ := pos_part id ms hr
  have hle := posI_le ms id
  have hta : (ms.take (posI ms id)).length = posI ms id := by rw [List.length_take]; omega
  have hne : ∀ m ∈ ms.drop (posI ms id), id < m.1 := by
    intro m hm
    have a1 := h2 m hm
    suffices h : m.1 ≠ id by omega
    intro e
    obtain ⟨i, hm1⟩ := List.getElem?_of_mem hm
    rw [List.getElem?_drop] at hm1
    unfold hasI at hh
    simp only [decide_eq_false_iff_not] at hh
    cases e0 : ms[posI ms id]? with
    | none => have := List.getElem?_eq_none_iff.1 e0; have := (List.getElem?_eq_some_iff.1 hm1).1; omega
    | some x =>
      rw [e0] at hh
      simp at hh
      have hx : ¬ x.1 < id := h2 x (by
        refine List.mem_of_getElem? (i := 0) ?_
        rw [List.getElem?_drop, Nat.add_zero]; exact e0)
      rcases Nat.eq_zero_or_pos i with rfl | hp
      · rw [Nat.add_zero, e0] at hm1; cases hm1; exact hh e
      · have := hr.lt (by omega : posI ms id < posI ms id + i) e0 hm1; omega
  have hpos : posI (withM ms id s) id = posI ms id := by
    conv => lhs; unfold posI withM
    rw [List.countP_append, List.countP_append]
    have e1 : (ms.take (posI ms id)).countP (fun m => decide (m.1 < id)) = posI ms id := by
      rw [List.countP_eq_length.2 (fun m hm => by simpa using h1 m hm), hta]
    have e2 : (ms.drop (posI ms id)).countP (fun m => decide (m.1 < id)) = 0 := by
      rw [List.countP_eq_zero]; intro m hm; simpa using h2 m hm
    rw [e1, e2]; simp
  have hget : (withM ms id s)[posI ms id]? = some (id, s, tokL id) := by
    unfold withM
    rw [List.append_assoc, List.getElem?_append_right (by omega), hta]; simp
  have hok : ringOk (withM ms id s) = true := by
    have ha : ms.all memOk = true ∧ riseW (ms.map (·.1)) = true := by
      have := ho; unfold ringOk at this; simpa only [Bool.and_eq_true] using this
    unfold ringOk
    rw [Bool.and_eq_true]
    constructor
    · have := ha.1
      rw [List.all_eq_true] at this ⊢
      intro m hm
      unfold withM at hm
      simp only [List.mem_append, List.mem_cons, List.mem_nil_iff, or_false] at hm
      rcases hm with (hm | rfl) | hm
      · exact this m (List.mem_of_mem_take hm)
      · have hl := tokL_len id
        have hw := (riseW_pw (tokL id)).2 (tokL_pw id)
        unfold memOk
        simp only [hi, hs, hw, Bool.and_true, Bool.true_and, Bool.and_eq_true, decide_eq_true_eq]
        omega
      · exact this m (List.mem_of_mem_drop hm)
    · rw [riseW_pw]
      have hp := (riseW_pw _).1 ha.2
      unfold withM
      have hp : ((ms.take (posI ms id)).map (·.1) ++ (ms.drop (posI ms id)).map (·.1)).Pairwise (· < ·) := by rw [← List.map_append, List.take_append_drop]; exact hp
      rw [List.pairwise_append] at hp
      rw [List.map_append, List.map_append, List.pairwise_append, List.pairwise_append]
      refine ⟨⟨hp.1, by simp, ?_⟩, hp.2.1, ?_⟩
      · intro x hx y hy
        obtain ⟨m, hm, rfl⟩ := List.mem_map.1 hx
        simp at hy; subst hy
        exact h1 m hm
      · intro x hx y hy
        obtain ⟨m', hm', rfl⟩ := List.mem_map.1 hy
        rcases List.mem_append.1 hx with hx | hx
        · exact hp.2.2 x hx _ hy
        · simp at hx; subst hx; exact hne m' hm'
  have htk : (withM ms id s).take (posI ms id) = ms.take (posI ms id) := by
    unfold withM
    rw [List.append_assoc, List.take_append_of_le_length (by omega), List.take_of_length_le (by omega)]
  have hdr : (withM ms id s).drop (posI ms id + 1) = ms.drop (posI ms id) := by
    unfold withM
    rw [List.drop_append_of_le_length (by simp [hta]), List.drop_of_length_le (by simp [hta]), List.nil_append]
  refine ⟨hok, hpos, hget, ?_, ?_, ?_, ?_, ?_⟩
  · unfold hasI; rw [hpos, hget]; simp
  · unfold stAt; rw [hpos, hget]; simp
  · intro s'
    unfold setSt
    have e : withM ms id s = ms.take (posI ms id) ++ ((id, s, tokL id) :: ms.drop (posI ms id)) := by unfold withM; rw [List.append_assoc]; rfl
    have e' : withM ms id s' = ms.take (posI ms id) ++ ((id, s', tokL id) :: ms.drop (posI ms id)) := by unfold withM; rw [List.append_assoc]; rfl
    rw [e, e']
    apply List.ext_getElem?
    intro i
    rw [List.getElem?_modify]
    rcases Nat.lt_trichotomy i (posI ms id) with h | h | h
    · have hn : ¬ posI ms id = i := by omega
      rw [List.getElem?_append_left (by omega), List.getElem?_append_left (by omega)]
      simp only [hn, if_false]
      cases (ms.take (posI ms id))[i]? <;> rfl
    · rw [List.getElem?_append_right (by omega), List.getElem?_append_right (by omega), hta, h]; simp
    · have hn : ¬ posI ms id = i := by omega
      rw [List.getElem?_append_right (by omega), List.getElem?_append_right (by omega), hta]
      simp only [hn, if_false]
      obtain ⟨j, hj⟩ : ∃ j, i - posI ms id = j + 1 := ⟨i - posI ms id - 1, by omega⟩
      rw [hj]; simp
  · rw [htk, hdr, List.take_append_drop]
  · unfold withM; simp; omega
theorem life_end {ms : List Mem} {id : Int} (ho : ringOk ms = true) (hh : hasI ms id = false) (E : Int) (hE : E ≠ 18446744073709551615) (hi : idOk id = true) : chgE 3 E ms id = 131 := by
  simp [chgE, ho, hE, hi, chgC, inCode, hh]
theorem life_chg {ms : List Mem} {id s : Int} (h : Life ms id s) (E : Int) (hE : E ≠ 18446744073709551615) (hi : idOk id = true) :
    chgE 0 E (withM ms id s) id = 131 ∧ chgE 1 E (withM ms id s) id = (if s = 1 then 0 else 132) ∧ chgE 2 E (withM ms id s) id = (if s = 2 then 0 else 132) ∧ chgE 3 E (withM ms id s) id = (if s = 3 then 0 else 132) ∧
    chgM 1 (withM ms id s) id = withM ms id 2 ∧ chgM 2 (withM ms id s) id = withM ms id 3 ∧ chgM 3 (withM ms id s) id = ms := by
  refine ⟨?_, ?_, ?_, ?_, ?_, ?_, ?_⟩
  · simp [chgE, h.ok, hE, hi, chgC, h.has]
  · simp [chgE, h.ok, hE, hi, chgC, inCode, h.has, h.st]
  · simp [chgE, h.ok, hE, hi, chgC, inCode, h.has, h.st]
  · simp [chgE, h.ok, hE, hi, chgC, inCode, h.has, h.st]
  · show setSt _ _ _ = _; rw [h.pos]; exact h.turn 2
  · show setSt _ _ _ = _; rw [h.pos]; exact h.turn 3
  · show _ ++ _ = _; rw [h.pos]; exact h.out
end Go.Proofs.YtboamjhlaehoaaaGreat

/- Rings: who the replicas are, as maths. -/
namespace Go.Proofs.YtboamjhlaehoaaaGreat
open Go.RowKit Go.Sort
set_option linter.unusedVariables false
set_option maxRecDepth 20000

theorem sortP_perm (l : List Pl) : (sortP l).Perm l := List.mergeSort_perm _ _
theorem rot_perm (ms : List Mem) (h : Int) : (rotP ms h).Perm (plc ms) := by
  unfold rotP
  refine List.perm_append_comm.trans ?_
  rw [List.take_append_drop]
  exact sortP_perm _
theorem metS_mem (acc : List Int) (x y : Int) : y ∈ metS acc x ↔ y ∈ acc ∨ y = x := by
  unfold metS
  split
  · rename_i h
    have : x ∈ acc := by simpa using h
    constructor
    · exact .inl
    · rintro (h | rfl)
      · exact h
      · exact this
  · simp
theorem metF_mem (y : Int) : ∀ (l acc : List Int), y ∈ l.foldl metS acc ↔ y ∈ acc ∨ y ∈ l
  | [], acc => by simp
  | x :: l, acc => by
    rw [List.foldl_cons, metF_mem y l, metS_mem, List.mem_cons]
    constructor
    · rintro ((h | h) | h) <;> simp_all
    · rintro (h | h | h) <;> simp_all
theorem metL_mem (l : List Int) (y : Int) : y ∈ metL l ↔ y ∈ l := by unfold metL; rw [metF_mem]; simp
theorem metS_nodup {acc : List Int} (h : acc.Nodup) (x : Int) : (metS acc x).Nodup := by
  unfold metS
  split
  · exact h
  · rename_i hx
    have hx : x ∉ acc := by simpa using hx
    rw [List.nodup_append]
    exact ⟨h, by simp, fun a ha b hb => by simp at hb; subst hb; intro e; subst e; exact hx ha⟩
theorem metF_nodup : ∀ (l acc : List Int), acc.Nodup → (l.foldl metS acc).Nodup
  | [], acc, h => h
  | x :: l, acc, h => by rw [List.foldl_cons]; exact metF_nodup l _ (metS_nodup h x)
theorem metL_nodup (l : List Int) : (metL l).Nodup := metF_nodup l [] List.nodup_nil
theorem repM_nodup (ms : List Mem) (h : Int) : (repM ms h).Nodup := metL_nodup _
theorem repM_mem (ms : List Mem) (h x : Int) : x ∈ repM ms h ↔ ∃ m ∈ ms, m.2.1 = 2 ∧ m.1 = x ∧ m.2.2 ≠ [] := by
  unfold repM
  rw [metL_mem]
  unfold idsP
  rw [List.mem_map]
  constructor
  · rintro ⟨p, hp, rfl⟩
    have hp := (rot_perm ms h).mem_iff.1 hp
    unfold plc at hp
    obtain ⟨m, hm, hp⟩ := List.mem_flatMap.1 hp
    unfold plcM at hp
    split at hp
    · rename_i h2
      obtain ⟨t, ht, rfl⟩ := List.mem_map.1 hp
      exact ⟨m, hm, h2, rfl, by intro e; rw [e] at ht; simp at ht⟩
    · simp at hp
  · rintro ⟨m, hm, h2, rfl, h3⟩
    cases e : m.2.2 with
    | nil => exact absurd e h3
    | cons t r =>
      refine ⟨(t, m.1), (rot_perm ms h).mem_iff.2 ?_, rfl⟩
      unfold plc
      refine List.mem_flatMap.2 ⟨m, hm, ?_⟩
      unfold plcM
      rw [if_pos h2, e]
      simp
theorem one_of {l : List Int} {x : Int} (hn : l.Nodup) (h : ∀ y, y ∈ l ↔ y = x) : l = [x] := by
  cases l with
  | nil => have := (h x).2 rfl; simp at this
  | cons y r =>
    have hy := (h y).1 (List.mem_cons_self ..)
    subst hy
    cases r with
    | nil => rfl
    | cons z r =>
      have hz := (h z).1 (by simp)
      subst hz
      simp at hn
theorem repM_one (id : Int) (ts : List Int) (h : Int) (ht : ts ≠ []) : repM [(id, 2, ts)] h = [id] := by
  refine one_of (repM_nodup _ _) (fun y => ?_)
  rw [repM_mem]
  constructor
  · rintro ⟨m, hm, h2, rfl, h3⟩; simp at hm; subst hm; rfl
  · rintro rfl; exact ⟨(y, 2, ts), by simp, rfl, rfl, ht⟩
end Go.Proofs.YtboamjhlaehoaaaGreat

