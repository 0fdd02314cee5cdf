/- Several texts in one: Rl, Rm. -/
import Derived.Test.YtboamjhlaehoaaaGreatMc
import Derived.Lib.Overlaps
import Derived.Lib.AppendZerosOnto
import Derived.Laws.CopyOwn
import Derived.Deep.RegionLaw
import Derived.Laws.OwnMore
/- slices.Insert of one member. -/
namespace Go.Proofs.YtboamjhlaehoaaaGreat
open Go.RowKit
set_option linter.unusedVariables false
set_option maxRecDepth 20000

theorem elem66 : Tryz.prog.elem 66 = 61 := by simp [Program.elem, Tryz.underlying66]
theorem sz61 (w : World) : (sizeOf 61).run Tryz.prog w = .ok 3 w := by
  obtain ⟨i0, hi, _, hz1, _⟩ := info_part info61
  simp [sizeOf, typeInfo, hi, hz1]
theorem gb_setRow (w : World) (g : Nat) (cs : Array Value) : w.grownBy (w.setRow g cs) (some g) := by
  refine ⟨rfl, rfl, rfl, ?_, ?_⟩
  · simp [World.setRow]
  · intro k hk hne
    simp only [World.setRow]
    rw [Array.getElem?_modify, if_neg (fun e => hne (by rw [e]))]
/-- A member in a block of its own. -/
def Trip (w : World) (g : Nat) (r : MRow) : Prop := w.heap[g]? = some (.cells (memE.cells r).toArray 61 (0, 0))
theorem Trip.lt {w : World} {g : Nat} {r : MRow} (h : Trip w g r) : g < w.heap.size := (Array.getElem?_eq_some_iff.1 h).1
theorem Trip.f0 {w : World} {g : Nat} {r : MRow} (h : Trip w g r) : w.frozen? ⟨g, 0, none⟩ = false := by unfold Trip at h; simp [World.frozen?, h]
theorem Trip.srd {w : World} {g : Nat} {r : MRow} (h : Trip w g r) : SRd memE w (some ⟨g, 0, none⟩) [r] := by
  refine .inr ⟨g, 0, rfl, fun j v hj => ?_⟩
  rw [Nat.zero_add, cell_of_row w g j _ _ _ h]
  have : memE.flat [r] = memE.cells r := by simp [Elem.flat]
  rw [this] at hj
  simpa using hj
theorem run_copy2 (w : World) (ty t' : TypeId) (ht : Tryz.prog.underlying t' = some (.slice 61)) (g off dLen dCap : Nat) (ad : Addr) (sLen sCap n : Nat) (cur cs : List Value) (hg : w.heap[g]? = some (.cells cur.toArray 61 (0, 0))) (hn : Nat.min sLen dLen = n) (hcs : cs.length = n * 3)
    (hsrc : ∀ j v, cs[j]? = some v → w.cell? (ad.add j) = some v) (hfit : off + cs.length ≤ cur.length) (h1 : ∀ v ∈ cs, v.oneCell' = true) :
    (Builtin.copy_ #[66, t'] ty #[.slice (some ⟨g, off, none⟩) dLen dCap, .slice (some ad) sLen sCap]).run Tryz.prog w = .ok (goInt n) (w.setRow g (splice cur off cs).toArray) := by
  obtain ⟨i0, hi, hz0, hz1, hz2⟩ := info_parts info61
  have hl := run_loadCells_list (P := Tryz.prog) w ad cs hsrc
  rw [hcs] at hl
  have hst := run_storeCells_at (P := Tryz.prog) g off 61 cs 0 cur.toArray w hg (by simpa using hfit) h1
  simp only [Nat.add_zero, List.append_assoc] at hst
  simp [Builtin.copy_, run_underlying Tryz.underlying66, Builtin.lenOf, Builtin.firstCells, sizeOf, typeInfo, hi, hz1, hn, hl, hst, splice]
theorem gb_row (w : World) (g : Nat) (cs : Array Value) : w.grownBy (w.setRow g cs) (some g) := gb_setRow w g cs
theorem wpList_copy2 {w : World} {ops : Array Oper} {rest : List Oper} {o : Oper} {a : Act} {Q : Exit → Act → World → Prop} (hgd : o.guard = none) (d s : Operand) (t' : TypeId) (ht : Tryz.prog.underlying t' = some (.slice 61))
    (ho : o.op = .call { callee := .builtin .copy, args := #[d, s], argTypes := #[66, t'] }) (g off dLen dCap : Nat) (ad : Addr) (sLen sCap n : Nat) (cur cs : List Value)
    (hd : a.eval d = .slice (some ⟨g, off, none⟩) dLen dCap) (hs : a.eval s = .slice (some ad) sLen sCap) (hg : w.heap[g]? = some (.cells cur.toArray 61 (0, 0))) (hn : Nat.min sLen dLen = n) (hcs : cs.length = n * 3)
    (hsrc : ∀ j v, cs[j]? = some v → w.cell? (ad.add j) = some v) (hfit : off + cs.length ≤ cur.length) (h1 : ∀ v ∈ cs, v.oneCell' = true)
    (h : ∀ w', Hid (w'.heap[g]? = some (.cells (splice cur off cs).toArray 61 (0, 0))) → Hid (w.grownBy w' (some g)) → wpList Tryz.prog ops Q rest (a.put o.dst (goInt n)) w') : wpList Tryz.prog ops Q (o :: rest) a w := by
  refine wpList_plain hgd fun K hK => ?_
  have hrun := run_copy2 w o.type t' ht g off dLen dCap ad sLen sCap n cur cs hg hn hcs hsrc hfit h1
  unfold Oper.wp
  simp [execOp, ho, resolve, invoke, builtin, hd, hs, hrun, Result.andThen]
  exact hK _ _ (h _ (setRow_heap w g _ _ 61 _ hg) (gb_row w g _))
theorem step_copy2 {w : World} {ops : Array Oper} {o : Oper} {a : Act} {K : Act → World → Prop} {Q : Exit → Act → World → Prop} {E : Prop} (hgd : o.guard = none) (d s : Operand) (t' : TypeId) (ht : Tryz.prog.underlying t' = some (.slice 61))
    (ho : o.op = .call { callee := .builtin .copy, args := #[d, s], argTypes := #[66, t'] }) (g off dLen dCap : Nat) (ad : Addr) (sLen sCap n : Nat) (cur cs : List Value)
    (hd : a.eval d = .slice (some ⟨g, off, none⟩) dLen dCap) (hs : a.eval s = .slice (some ad) sLen sCap) (hg : w.heap[g]? = some (.cells cur.toArray 61 (0, 0))) (hn : Nat.min sLen dLen = n) (hcs : cs.length = n * 3)
    (hsrc : ∀ j v, cs[j]? = some v → w.cell? (ad.add j) = some v) (hfit : off + cs.length ≤ cur.length) (h1 : ∀ v ∈ cs, v.oneCell' = true)
    (h : ∀ w', Hid (w'.heap[g]? = some (.cells (splice cur off cs).toArray 61 (0, 0))) → Hid (w.grownBy w' (some g)) → K (a.put o.dst (goInt n)) w') : if Region.wanted o (yielded ops a.tmps) = true then Oper.wp Tryz.prog o a w K Q else E := by
  have hw : Region.wanted o (yielded ops a.tmps) = true := by simp [Region.wanted, hgd]
  rw [if_pos hw]
  have hrun := run_copy2 w o.type t' ht g off dLen dCap ad sLen sCap n cur cs hg hn hcs hsrc hfit h1
  unfold Oper.wp
  simp [execOp, ho, resolve, invoke, builtin, hd, hs, hrun, Result.andThen]
  exact h _ (setRow_heap w g _ _ 61 _ hg) (gb_row w g _)

theorem cut_low (g n c k : Nat) (hk : k ≤ n) (hn : n ≤ c) (hc : k < c) (w : World) : (Instr.slice 66 (.slice (some ⟨g, 0, none⟩) n c) (some (.int .i64 (k : Int))) none none).run Tryz.prog w = .ok (.slice (some ⟨g, k * 3, none⟩) (n - k) (c - k)) w := by
  rw [run_slice_l w 66 _ n c (by rw [elem66]; exact Tryz.underlying66) .i64 (k : Int) (by omega) (by omega), elem66, sz61]
  have h0 : ¬ c = k := by omega
  by_cases h1 : k = 0
  · subst h1; simp [Result.andThen, sliced, h0, Addr.add]
  · have : ¬ k * 3 = 0 := by omega
    simp [Result.andThen, sliced, h0, Addr.add, this]
theorem cut_high (g n c k : Nat) (hk : k ≤ c) (w : World) : (Instr.slice 66 (.slice (some ⟨g, 0, none⟩) n c) none (some (.int .i64 (k : Int))) none).run Tryz.prog w = .ok (.slice (some ⟨g, 0, none⟩) k c) w := by
  rw [run_slice_h w 66 _ n c (by rw [elem66]; exact Tryz.underlying66) .i64 (k : Int) (by omega) (by omega), elem66, sz61]
  simp [Result.andThen, sliced, Addr.add]

theorem splice_in (cur D : List Value) (i m : Nat) (T : List Value) (hT : T.length = 3) (hD : D.length = m * 3) (hl : i * 3 + 3 + m * 3 ≤ cur.length) :
    (splice (splice cur ((i + 1) * 3) D) (i * 3) T).take ((i + 1 + m) * 3) = cur.take (i * 3) ++ T ++ D ∧ (splice (splice cur ((i + 1) * 3) D) (i * 3) T).length = cur.length := by
  have e1 : (splice cur ((i + 1) * 3) D).length = cur.length := length_splice _ _ _ (by omega)
  refine ⟨?_, by rw [length_splice _ _ _ (by rw [e1]; omega), e1]⟩
  unfold splice
  have t1 : (cur.take ((i + 1) * 3)).length = (i + 1) * 3 := by rw [List.length_take]; omega
  have a1 : (cur.take ((i + 1) * 3) ++ (D ++ cur.drop ((i + 1) * 3 + D.length))).take (i * 3) = cur.take (i * 3) := by
    rw [List.take_append_of_le_length (by omega), List.take_take, Nat.min_eq_left (by omega)]
  have a2 : (cur.take ((i + 1) * 3) ++ (D ++ cur.drop ((i + 1) * 3 + D.length))).drop (i * 3 + T.length) = D ++ cur.drop ((i + 1) * 3 + D.length) := by
    rw [show i * 3 + T.length = (cur.take ((i + 1) * 3)).length by rw [t1]; omega, List.drop_left]
  rw [a1, a2]
  have t2 : (cur.take (i * 3) ++ T ++ D).length = (i + 1 + m) * 3 := by
    rw [List.length_append, List.length_append, List.length_take, hD]
    omega
  rw [show cur.take (i * 3) ++ (T ++ (D ++ cur.drop ((i + 1) * 3 + D.length))) = (cur.take (i * 3) ++ T ++ D) ++ cur.drop ((i + 1) * 3 + D.length) by simp, ← t2, List.take_left]
theorem splice_out (row D : List Value) (i m : Nat) (T : List Value) (hT : T.length = 3) (hD : D.length = m * 3) (hl : i * 3 + 3 + m * 3 ≤ row.length) :
    (splice (splice row (i * 3) T) ((i + 1) * 3) D).take ((i + 1 + m) * 3) = row.take (i * 3) ++ T ++ D ∧ (splice (splice row (i * 3) T) ((i + 1) * 3) D).length = row.length := by
  have e1 : (splice row (i * 3) T).length = row.length := length_splice _ _ _ (by omega)
  refine ⟨?_, by rw [length_splice _ _ _ (by rw [e1]; omega), e1]⟩
  unfold splice
  have t1 : (row.take (i * 3) ++ T).length = (i + 1) * 3 := by rw [List.length_append, List.length_take]; omega
  have a1 : (row.take (i * 3) ++ (T ++ row.drop (i * 3 + T.length))).take ((i + 1) * 3) = row.take (i * 3) ++ T := by
    rw [← List.append_assoc, ← t1, List.take_left]
  rw [a1]
  generalize (row.take (i * 3) ++ (T ++ row.drop (i * 3 + T.length))).drop ((i + 1) * 3 + D.length) = Z
  have t2 : (row.take (i * 3) ++ T ++ D).length = (i + 1 + m) * 3 := by rw [List.length_append, t1, hD]; omega
  rw [show row.take (i * 3) ++ T ++ (D ++ Z) = (row.take (i * 3) ++ T ++ D) ++ Z by simp, ← t2, List.take_left]
theorem flat_ins (xs : List MRow) (i : Nat) (r : MRow) : memE.flat (xs.take i ++ [r] ++ xs.drop i) = memE.flat (xs.take i) ++ (memE.cells r) ++ memE.flat (xs.drop i) := by
  rw [memE.flat_app, memE.flat_app]; rfl

/-- What is known of a row that is read as labels. -/
structure Held (w : World) (g n c : Nat) (xs : List MRow) (cur : List Value) : Prop where
  row : w.heap[g]? = some (.cells cur.toArray 61 (0, 0))
  len : cur.length = c * 3
  head : cur.take (n * 3) = memE.flat xs
  num : xs.length = n
theorem Held.grown {w w' : World} {row : Option Nat} {g n c : Nat} {xs : List MRow} {cur : List Value} (h : Held w g n c xs cur) (hg : w.grownBy w' row) (hne : some g ≠ row) : Held w' g n c xs cur :=
  ⟨(hg.block g (Array.getElem?_eq_some_iff.1 h.row).1 hne).trans h.row, h.len, h.head, h.num⟩
theorem Held.tail {w : World} {g n c : Nat} {xs : List MRow} {cur : List Value} (h : Held w g n c xs cur) (i : Nat) (hi : i ≤ n) (hc : n ≤ c) : (memE.flat (xs.drop i)).length = (n - i) * 3 ∧ ∀ j v, (memE.flat (xs.drop i))[j]? = some v → w.cell? ((⟨g, i * 3, none⟩ : Addr).add j) = some v := by
  have hd : (memE.flat (xs.drop i)).length = (n - i) * 3 := by rw [memE.flat_len, List.length_drop, h.num]; rfl
  refine ⟨hd, fun j v hj => ?_⟩
  have hj1 : j < (n - i) * 3 := by rw [← hd]; exact (List.getElem?_eq_some_iff.1 hj).1
  have ht : (memE.flat (xs.take i)).length = i * 3 := by
    rw [memE.flat_len, List.length_take, h.num, Nat.min_eq_left hi]; rfl
  rw [Addr.add_lit, cell_of_row w g _ _ _ _ h.row]
  have e : memE.flat xs = memE.flat (xs.take i) ++ memE.flat (xs.drop i) := by rw [← memE.flat_app, List.take_append_drop]
  have e2 : (memE.flat xs)[i * 3 + j]? = some v := by
    rw [e, List.getElem?_append_right (by omega), ht, show i * 3 + j - i * 3 = j by omega]
    exact hj
  rw [← h.head, List.getElem?_take] at e2
  rw [if_pos (by omega)] at e2
  simpa using e2
theorem Held.first {w : World} {g n c : Nat} {xs : List MRow} {cur : List Value} (h : Held w g n c xs cur) (i : Nat) (hi : i ≤ n) : cur.take (i * 3) = memE.flat (xs.take i) := by
  have e : (memE.flat xs).take (i * 3) = memE.flat (xs.take i) := (memE.flat_take xs i).symm
  rw [← e, ← h.head, List.take_take, Nat.min_eq_left (by omega)]
theorem Trip.news {w : World} {vb : Nat} {r : MRow} (h : Trip w vb r) : ∀ j v, (memE.cells r)[j]? = some v → w.cell? ((⟨vb, 0, none⟩ : Addr).add j) = some v := by
  intro j v hj
  rw [Addr.add_lit, Nat.zero_add, cell_of_row w vb j _ _ _ h]
  simpa using hj
theorem Trip.kept {w w' : World} {row : Option Nat} {vb : Nat} {r : MRow} (h : Trip w vb r) (hg : w.grownBy w' row) (hne : some vb ≠ row) : Trip w' vb r := (hg.block vb h.lt hne).trans h


set_option maxHeartbeats 2000000 in
theorem ins_shift (g n c i vb : Nat) (xs : List MRow) (cur : List Value) (r : MRow) (w : World) (h : Held w g n c xs cur) (hp : Trip w vb r) (hne : vb ≠ g) (hi : i < n) (hroom : n + 1 ≤ c) (hcm : c ≤ 9223372036854775807) :
    Calls Tryz.prog 64 #[.slice (some ⟨g, 0, none⟩) n c, .int .i64 i, .slice (some ⟨vb, 0, none⟩) 1 1] w fun e w' => e = .returned (.slice (some ⟨g, 0, none⟩) (n + 1) c) ∧ (∃ cur', Held w' g (n + 1) c (xs.take i ++ [r] ++ xs.drop i) cur') ∧ w.grownBy w' (some g) := by
  have HH : Hid (Held w g n c xs cur) := h
  have HP : Hid (Trip w vb r) := hp
  have HNE : Hid (vb ≠ g) := hne
  have hs1 : ∀ w, (Instr.slice 66 (.slice (some ⟨g, 0, none⟩) n c) (some (.int .i64 (i : Int))) none none).run Tryz.prog w = .ok (.slice (some ⟨g, i * 3, none⟩) (n - i) (c - i)) w := cut_low g n c i (by omega) (by omega) (by omega)
  have hs2 : ∀ w, (Instr.slice 66 (.slice (some ⟨g, 0, none⟩) n c) none (some (.int .i64 ((n : Int) + 1))) none).run Tryz.prog w = .ok (.slice (some ⟨g, 0, none⟩) (n + 1) c) w := cut_high g n c (n + 1) (by omega)
  have hs3 : ∀ w, (Instr.slice 66 (.slice (some ⟨g, 0, none⟩) (n + 1) c) (some (.int .i64 ((i : Int) + 1))) none none).run Tryz.prog w = .ok (.slice (some ⟨g, (i + 1) * 3, none⟩) (n - i) (c - (i + 1))) w := fun w => by
    have k := cut_low g (n + 1) c (i + 1) (by omega) (by omega) (by omega) w
    rw [show n + 1 - (i + 1) = n - i by omega] at k
    exact k
  have hs4 : ∀ w, (Instr.slice 66 (.slice (some ⟨g, 0, none⟩) (n + 1) c) (some (.int .i64 (i : Int))) none none).run Tryz.prog w = .ok (.slice (some ⟨g, i * 3, none⟩) (n + 1 - i) (c - i)) w := cut_low g (n + 1) c i (by omega) (by omega) (by omega)
  have hov : ∀ lb cb, (callFunc 90 #[.slice (some ⟨vb, 0, none⟩) 1 1, .slice (some ⟨g, (i + 1) * 3, none⟩) lb cb]).run Tryz.prog w = .ok (.value (.bool false)) w := fun lb cb => by
    rw [run_callFunc_extern Tryz.func90 (by kernel_rfl) (by kernel_rfl) (by kernel_rfl) (e := Extern.SlicesOverlaps.overlaps #[23, 23] #[4]) (by kernel_rfl),
      Lib.run_overlaps_apart w 23 4 61 Tryz.underlying23 3 sz61 ⟨vb, 0, none⟩ ⟨g, (i + 1) * 3, none⟩ 1 1 lb cb hne 61 61 3 (c * 3) (by have k := hp; unfold Trip at k; simp [World.shape?, k]; exact memE.len r) (by have k := h.row; simp [World.shape?, k, h.len]) (by omega) hp.f0 (by have k := hp; unfold Trip at k; simp [World.frozen?, k])]
    rfl
  have HT := h.tail i (by omega) (by omega)
  have HL : Hid (cur.length = c * 3) := h.len
  obtain ⟨D, hD⟩ : ∃ D, D = memE.flat (xs.drop i) := ⟨_, rfl⟩
  rw [← hD] at HT
  have HDE : Hid (D = memE.flat (xs.drop i)) := hD
  have HD1 : Hid (∀ v ∈ D, v.oneCell' = true) := by rw [hD]; exact memE.flat_one _
  have HD2 : Hid (D.length = (n - i) * 3) := HT.1
  have HD3 : Hid (∀ j v, D[j]? = some v → w.drew.cell? ((⟨g, i * 3, none⟩ : Addr).add j) = some v) := HT.2
  have HR : Hid (w.drew.heap[g]? = some (.cells cur.toArray 61 (0, 0))) := h.row
  have q1 : ((i : Int) == (n : Int)) = false := by simp; omega
  have q2 : decide ((c : Int) < (n : Int) + 1) = false := by simp; omega
  have b1 : (n : Int) + 1 ≤ 9223372036854775807 := by omega
  have b2 : (i : Int) + 1 ≤ 9223372036854775807 := by omega
  have hw1 : IntKind.i64.wrap ((i : Int) + 1) = (i : Int) + 1 := by rw [IntKind.wrap_i64]; omega
  clear hD HT h hp hne
  go_enter Tryz.func64, Tryz.ntmps64
  go_wp2_with (simp only [hov])
  go_region_law (refine step_copy2 rfl (.tmp 73) (.tmp 76) 66 Tryz.underlying66 rfl g ((i + 1) * 3) (n - i) (c - (i + 1)) ⟨g, i * 3, none⟩ (n + 1 - i) (c - i) (n - i) cur D (by simp [Act.eval, Act.put]) (by simp [Act.eval, Act.put]) HR.out (by simp only [Nat.min_def]; split <;> omega) HD2.out HD3.out (by rw [HD2.out, HL.out]; omega) HD1.out ?_; intro w1 hr1 hg1)
  all_goals
    have HP1 : Hid (Trip w1 vb r) := Trip.kept (w := w.drew) HP.out hg1.out (fun e => HNE.out (Option.some.inj e))
    have HL1 : Hid ((splice cur ((i + 1) * 3) D).length = c * 3) := by show _ = _; rw [length_splice _ _ _ (by rw [HD2.out, HL.out]; omega), HL.out]
    go_wp2_with (refine wpList_copy2 rfl (.tmp 80) (.tmp 81) 23 Tryz.underlying23 rfl g (i * 3) (n + 1 - i) (c - i) ⟨vb, 0, none⟩ 1 1 1 (splice cur ((i + 1) * 3) D) (memE.cells r) rfl rfl hr1.out (by simp only [Nat.min_def]; split <;> omega) rfl HP1.out.news (by rw [HL1.out, memE.len]; simp [memE]; omega) (memE.one r) ?_; intro w2 hr2 hg2)
    go_ret
    refine ⟨rfl, ⟨_, hr2.out, ?_, ?_, ?_⟩, ?_⟩
    · rw [(splice_in cur D i (n - i) _ (memE.len r) HD2.out (by rw [HL.out]; omega)).2, HL.out]
    · rw [show (n + 1) * 3 = (i + 1 + (n - i)) * 3 by omega, (splice_in cur D i (n - i) _ (memE.len r) HD2.out (by rw [HL.out]; omega)).1, flat_ins, HH.out.first i (by omega), HDE.out]
    · have hn := HH.out.num
      simp only [List.length_append, List.length_take, List.length_drop, List.length_cons, List.length_nil]
      omega
    · exact gb_trans (gb_trans (gb_any (gb_drewN w 1) _) hg1.out (fun k hk => .inr hk)) hg2.out (fun k hk => .inr hk)

set_option maxRecDepth 100000 in
set_option maxHeartbeats 2000000 in
theorem ins_grow (g n i vb : Nat) (xs : List MRow) (cur : List Value) (r : MRow) (w : World) (h : Held w g n n xs cur) (hp : Trip w vb r) (hi : i < n) (hn : n ≤ 3518437208800) :
    Calls Tryz.prog 64 #[.slice (some ⟨g, 0, none⟩) n n, .int .i64 i, .slice (some ⟨vb, 0, none⟩) 1 1] w fun e w' => ∃ G, e = .returned (.slice (some ⟨w.heap.size, 0, none⟩) (n + 1) G) ∧ n + 1 ≤ G ∧ G ≤ maxLen ∧ (∃ cur', Held w' w.heap.size (n + 1) G (xs.take i ++ [r] ++ xs.drop i) cur') ∧ w.grownBy w' none := by
  have HH : Hid (Held w g n n xs cur) := h
  have HP : Hid (Trip w vb r) := hp
  have hs1 : ∀ w, (Instr.slice 66 (.slice (some ⟨g, 0, none⟩) n n) (some (.int .i64 (i : Int))) none none).run Tryz.prog w = .ok (.slice (some ⟨g, i * 3, none⟩) (n - i) (n - i)) w := cut_low g n n i (by omega) (by omega) (by omega)
  have hs2 : ∀ w, (Instr.slice 66 (.slice (some ⟨g, 0, none⟩) n n) none (some (.int .i64 (i : Int))) none).run Tryz.prog w = .ok (.slice (some ⟨g, 0, none⟩) i n) w := cut_high g n n i (by omega)
  have HGl : Hid (g < w.heap.size) := (Array.getElem?_eq_some_iff.1 h.row).1
  have HVl : Hid (vb < w.heap.size) := hp.lt
  have HT := h.tail i (by omega) (by omega)
  obtain ⟨D, hD⟩ : ∃ D, D = memE.flat (xs.drop i) := ⟨_, rfl⟩
  rw [← hD] at HT
  have HDE : Hid (D = memE.flat (xs.drop i)) := hD
  have HD1 : Hid (∀ v ∈ D, v.oneCell' = true) := by rw [hD]; exact memE.flat_one _
  have HD2 : Hid (D.length = (n - i) * 3) := HT.1
  have HD3 : Hid (∀ w' : World, w'.heap[g]? = w.heap[g]? → ∀ j v, D[j]? = some v → w'.cell? ((⟨g, i * 3, none⟩ : Addr).add j) = some v) := by
    intro w' hw j v hj
    have := HT.2 j v hj
    rw [Addr.add_lit] at this ⊢
    rw [World.cell?_of_block (w := w) hw]
    exact this
  have q1 : ((i : Int) == (n : Int)) = false := by simp; omega
  have q2 : decide ((n : Int) < (n : Int) + 1) = true := by simp; omega
  have b1 : (n : Int) + 1 ≤ 9223372036854775807 := by omega
  have hkk : (n : Int) + 1 - (i : Int) = ((n + 1 - i : Nat) : Int) := by omega
  obtain ⟨i0, hi0, hz0, hz1, hz2⟩ := info_parts info61
  have hold : (Builtin.firstCells i0.size i (.slice (some ⟨g, 0, none⟩) i n)).run Tryz.prog w.drew = .ok (memE.flat (xs.take i)).toArray w.drew := by
    rw [hz1]
    refine run_firstCells_some w.drew 3 i ⟨g, 0, none⟩ i n (memE.flat (xs.take i)) (by rw [memE.flat_len, List.length_take, h.num, Nat.min_eq_left (by omega)]; rfl) (fun j v hj => ?_)
    rw [Addr.add_lit, Nat.zero_add]
    show w.cell? _ = _
    rw [cell_of_row w g _ _ _ _ h.row]
    rw [← h.first i (by omega), List.getElem?_take] at hj
    split at hj
    · simpa using hj
    · cases hj
  have hik : i + (n + 1 - i) = n + 1 := by omega
  obtain ⟨G, hG⟩ : ∃ G, G = grownCap w (n + 1) n 61 := ⟨_, rfl⟩
  obtain ⟨ROW, hROW⟩ : ∃ ROW : List Value, ROW = ((memE.flat (xs.take i)).toArray ++ Builtin.zeroCells (Value.agg #[.int .i64 0, .int .i64 0, .slice none 0 0]).cells (n + 1 - i) ++ Builtin.zeroCells (Value.agg #[.int .i64 0, .int .i64 0, .slice none 0 0]).cells (G - (n + 1))).toList := ⟨_, rfl⟩
  have HZ : Hid (∀ ty, (Builtin.append_ #[66, 3] ty #[.slice (some ⟨g, 0, none⟩) i n, .int .i64 ((n : Int) + 1 - (i : Int))]).run Tryz.prog w = .ok (.slice (some ⟨w.heap.size, 0, none⟩) (n + 1) G) (w.drew.alloc (.cells ROW.toArray 61))) := fun ty => by
    have k := Lib.run_append_grow_zeros w 66 3 ty 61 i0 _ .i64 .i64 Tryz.underlying66 Tryz.underlying3 hi0 hz0 (some ⟨g, 0, none⟩) i n (memE.flat (xs.take i)) hold (n + 1 - i) (by omega) (by omega) (by omega) (by omega) (by rw [hz2]; omega) (by rw [hz2, hik]; exact growslice_fits (by omega) (by omega))
    rw [hik, ← hG] at k
    rw [hkk, hROW, Array.toArray_toList]
    exact k
  have HGn : Hid (n + 1 ≤ G ∧ G ≤ maxLen) := by
    rw [hG]
    exact ⟨grownCap_ge w _ _ _, grownCap_le_maxLen w (n + 1) n 61 (by unfold maxLen; omega)⟩
  have hzc : ∀ m, (Builtin.zeroCells (Value.agg #[.int .i64 0, .int .i64 0, .slice none 0 0]).cells m).size = m * 3 := by
    intro m
    simp [Builtin.zeroCells, Value.cells]
  have HRl : Hid (ROW.length = G * 3 ∧ ROW.take (i * 3) = memE.flat (xs.take i)) := by
    have hfl : (memE.flat (xs.take i)).length = i * 3 := by rw [memE.flat_len, List.length_take, h.num, Nat.min_eq_left (by omega)]; rfl
    have hg1 := HGn.out.1
    refine ⟨?_, ?_⟩
    · rw [hROW]
      simp only [Array.length_toList, Array.size_append, hzc, List.size_toArray, hfl]
      omega
    · rw [hROW]
      simp only [Array.toList_append, List.append_assoc]
      rw [← hfl, List.take_left]
  have hGm : (G : Int) ≤ 9223372036854775807 := by have := HGn.out.2; unfold maxLen at this; omega
  have hGn1 : n + 1 ≤ G := HGn.out.1
  have hs3 : ∀ w', (Instr.slice 66 (.slice (some ⟨w.heap.size, 0, none⟩) (n + 1) G) (some (.int .i64 (i : Int))) none none).run Tryz.prog w' = .ok (.slice (some ⟨w.heap.size, i * 3, none⟩) (n + 1 - i) (G - i)) w' := cut_low _ (n + 1) G i (by omega) (by omega) (by omega)
  have hs4 : ∀ w', (Instr.slice 66 (.slice (some ⟨w.heap.size, 0, none⟩) (n + 1) G) (some (.int .i64 ((i : Int) + 1))) none none).run Tryz.prog w' = .ok (.slice (some ⟨w.heap.size, (i + 1) * 3, none⟩) (n - i) (G - (i + 1))) w' := fun w' => by
    have k := cut_low w.heap.size (n + 1) G (i + 1) (by omega) (by omega) (by omega) w'
    rw [show n + 1 - (i + 1) = n - i by omega] at k
    exact k
  have hw1 : IntKind.i64.wrap ((i : Int) + 1) = (i : Int) + 1 := by rw [IntKind.wrap_i64]; omega
  have b2 : (i : Int) + 1 ≤ 9223372036854775807 := by omega
  have HWA : Hid ((w.drew.alloc (.cells ROW.toArray 61)).heap[w.heap.size]? = some (.cells ROW.toArray 61 (0, 0)) ∧ w.grownBy (w.drew.alloc (.cells ROW.toArray 61)) none) := ⟨heap_alloc_new w.drew _, (gb_drewN w 1).trans (World.grownBy_alloc w.drew _ none)⟩
  obtain ⟨wa, ewa⟩ : ∃ wa, wa = w.drew.alloc (.cells ROW.toArray 61) := ⟨_, rfl⟩
  rw [← ewa] at HWA HZ
  clear ewa hD HT h hp hROW hG hold hik hkk hzc
  obtain ⟨N, hN⟩ : ∃ N, N = w.heap.size := ⟨_, rfl⟩
  have HN : Hid (N = w.heap.size) := hN
  rw [← hN] at hs3 hs4 HGl HVl HWA HZ ⊢
  clear hN
  have HPa : Hid (Trip wa vb r) := Trip.kept HP.out HWA.out.2 (by simp)
  have HRa : Hid (wa.heap[N]? = some (.cells ROW.toArray 61 (0, 0))) := HWA.out.1
  go_enter Tryz.func64, Tryz.ntmps64
  go_wp2_with (first | (at_builtin; refine Lib.wpList_append_run _ rfl (.tmp 34) (.tmp 39) 66 3 rfl _ _ rfl rfl _ _ (HZ.out _) ?_) | (refine wpList_copy2 rfl (.tmp 43) (.tmp 44) 23 Tryz.underlying23 rfl N (i * 3) (n + 1 - i) (G - i) ⟨vb, 0, none⟩ 1 1 1 ROW (memE.cells r) rfl rfl HRa.out (by simp only [Nat.min_def]; split <;> omega) rfl HPa.out.news (by rw [HRl.out.1, memE.len]; simp [memE]; omega) (memE.one r) ?_; intro w2 hr2 hg2))
  have HR2 : Hid (w2.drew.heap[N]? = some (.cells (splice ROW (i * 3) (memE.cells r)).toArray 61 (0, 0))) := hr2.out
  have HL2 : Hid ((splice ROW (i * 3) (memE.cells r)).length = G * 3) := by show _ = _; rw [length_splice _ _ _ (by rw [HRl.out.1, memE.len]; simp [memE]; omega), HRl.out.1]
  have HS2 : Hid (w2.drew.heap[g]? = w.heap[g]?) := by
    show w2.heap[g]? = w.heap[g]?
    have hgl := HGl.out
    rw [hg2.out.block g (by have := HWA.out.2.size; have := HN.out; omega) (fun e => by have := Option.some.inj e; omega), HWA.out.2.block g (by have := HN.out; omega) (by simp)]
  go_region_law (refine step_copy2 rfl (.tmp 50) (.tmp 53) 66 Tryz.underlying66 rfl N ((i + 1) * 3) (n - i) (G - (i + 1)) ⟨g, i * 3, none⟩ (n - i) (n - i) (n - i) (splice ROW (i * 3) (memE.cells r)) D (by simp [Act.eval, Act.put]) (by simp [Act.eval, Act.put]) HR2.out (by simp) HD2.out (HD3.out _ HS2.out) (by rw [HD2.out, HL2.out]; omega) HD1.out ?_; intro w3 hr3 hg3)
  all_goals
    go_wp2
    go_ret
    refine ⟨G, rfl, HGn.out.1, HGn.out.2, ⟨_, hr3.out, ?_, ?_, ?_⟩, ?_⟩
    · rw [(splice_out ROW D i (n - i) _ (memE.len r) HD2.out (by rw [HRl.out.1]; omega)).2, HRl.out.1]
    · rw [show (n + 1) * 3 = (i + 1 + (n - i)) * 3 by omega, (splice_out ROW D i (n - i) _ (memE.len r) HD2.out (by rw [HRl.out.1]; omega)).1, flat_ins, HRl.out.2, HDE.out]
    · have hn := HH.out.num
      simp only [List.length_append, List.length_take, List.length_drop, List.length_cons, List.length_nil]
      omega
    · have hNN := HN.out
      exact gb_trans (gb_trans HWA.out.2 (gb_drewR hg2.out 1) (fun k hk => .inl (by cases hk; omega))) hg3.out (fun k hk => .inl (by cases hk; omega))
theorem app_mix (ty : TypeId) (p q : Option Addr) (n c m d : Nat) (w : World) : (Builtin.append_ #[66, 23] ty #[.slice p n c, .slice q m d]).run Tryz.prog w = (Builtin.append_ #[66, 66] ty #[.slice p n c, .slice q m d]).run Tryz.prog w := by
  simp [Builtin.append_, run_underlying Tryz.underlying66, run_underlying Tryz.underlying23]
theorem wpList_append_mix {w : World} {ops : Array Oper} {rest : List Oper} {o : Oper} {a : Act} {Q : Exit → Act → World → Prop} (hgd : o.guard = none) (s x : Operand)
    (ho : o.op = .call { callee := .builtin .append, args := #[s, x], argTypes := #[66, 23] }) (base : Nat) (v : Value) (n : Nat) (xs : List MRow) (hs : a.eval s = v) (hown : SOwn memE 61 w base v n xs)
    (ad : Addr) (zs : List MRow) (m cap : Nat) (hx : a.eval x = .slice (some ad) m cap) (hm : zs.length = m) (hr : SRd memE w (some ad) zs) (hlen : (n + m) * 40 ≤ 140737488355328) (hmax : n + m ≤ maxLen) (hb : base ≤ w.heap.size)
    (h : ∀ v' w', SOwn memE 61 w' base v' (n + m) (xs ++ zs) → w.grownBy w' v.ownBlock → (v'.ownBlock = v.ownBlock ∨ v'.ownBlock = some w.heap.size) → wpList Tryz.prog ops Q rest (a.put o.dst v') w') : wpList Tryz.prog ops Q (o :: rest) a w := by
  obtain ⟨i0, z, hi, hz0, hz1, hz2, hz3⟩ := memT.info
  subst hm
  obtain ⟨a0, c0, rfl⟩ := sown_slice hown
  refine wpList_plain hgd fun K hK => ?_
  obtain ⟨v', w', hr', h2, h3, h4, h5⟩ := run_append_own_at (P := Tryz.prog) w base 66 o.type 61 i0 z memE.size 40 memT.under hi hz0 hz1 hz2 hz3 memE.pos _ n (memE.flat xs) hown ad zs.length cap (memE.flat zs) (memE.flat_len zs) hr.news (memE.flat_one zs) hmax hlen hb
  unfold Oper.wp execOp
  simp only [ho, resolve, invoke, builtin, Sem.run_bind, Sem.run_pure, Result.andThen_ok, List.map_toArray, List.map_cons, List.map_nil, hs, hx, app_mix, hr']
  rw [← memE.flat_app] at h2
  exact hK _ _ (h v' w' h2 h3 h5)
theorem Held.of {w : World} {base g n c : Nat} {l : List MRow} (h : SOwn memE 61 w base (.slice (some ⟨g, 0, none⟩) n c) n l) : ∃ cur, Held w g n c l cur := by
  rcases h.2 with ⟨h', _⟩ | ⟨g', cap, cur, h', h3, h4, h5, h6, h7, h8⟩
  · simp at h'
  · simp only [Value.slice.injEq, Option.some.injEq, Addr.mk.injEq, and_true, true_and] at h'
    obtain ⟨rfl, rfl⟩ := h'
    exact ⟨cur.toList, by simpa using h4, by simpa [memE] using h7, h8, SOwn.len h⟩
theorem Held.own {w : World} {base g n c : Nat} {xs : List MRow} {cur : List Value} (h : Held w g n c xs cur) (hb : base ≤ g) (hc : n ≤ c) (hm : c ≤ maxLen) : SOwn memE 61 w base (.slice (some ⟨g, 0, none⟩) n c) n xs :=
  ⟨by rw [memE.flat_len, h.num], .inr ⟨g, c, cur.toArray, rfl, hb, h.row, hc, hm, by simpa [memE] using h.len, by simpa [memE] using h.head⟩⟩
theorem ins_end (v : Value) (n base vb : Nat) (xs : List MRow) (r : MRow) (w : World) (ho : SOwn memE 61 w base v n xs) (hp : Trip w vb r) (hn : n ≤ 3518437208800) (hb : base ≤ w.heap.size) :
    Calls Tryz.prog 64 #[v, .int .i64 n, .slice (some ⟨vb, 0, none⟩) 1 1] w fun e w' => ∃ v', e = .returned v' ∧ SOwn memE 61 w' base v' (n + 1) (xs ++ [r]) ∧ w.grownBy w' v.ownBlock ∧ (v'.ownBlock = v.ownBlock ∨ v'.ownBlock = some w.heap.size) := by
  obtain ⟨a, c, rfl⟩ := sown_slice ho
  have HO : Hid (SOwn memE 61 w base (.slice a n c) n xs) := ho
  have HP : Hid (Trip w vb r) := hp
  have HB : Hid (base ≤ w.heap.size) := hb
  obtain ⟨hc, hnil⟩ := sown_cap ho
  have q1 : ((n : Int) == (n : Int)) = true := by simp
  have hcm : c ≤ maxLen := by
    rcases ho.2 with ⟨h', h0⟩ | ⟨g, cap, cur, h', _, _, _, h4, _⟩
    · simp only [Value.slice.injEq] at h'
      omega
    · simp only [Value.slice.injEq] at h'
      obtain ⟨_, _, rfl⟩ := h'
      exact h4
  have hs1 : ∀ w, ∃ v9, (Instr.slice 66 (.slice a n c) (some (.int .i64 (n : Int))) none none).run Tryz.prog w = .ok v9 w := by
    intro w
    rw [run_slice_l w 66 _ n c (by rw [elem66]; exact Tryz.underlying66) .i64 (n : Int) (by omega) (by unfold maxLen at hcm; omega), elem66, sz61]
    exact ⟨_, rfl⟩
  have hs2 : ∃ F : World → Value, ∀ w, (Instr.slice 66 (.slice a n c) (some (.int .i64 (n : Int))) none none).run Tryz.prog w = .ok (F w) w := ⟨fun w => (hs1 w).choose, fun w => (hs1 w).choose_spec⟩
  obtain ⟨F, hF⟩ := hs2
  clear ho hp hb hs1 hnil hc hcm
  go_enter Tryz.func64, Tryz.ntmps64
  go_wp2_with (at_builtin; refine wpList_append_mix rfl (.tmp 23) (.tmp 24) rfl base _ n xs rfl HO.out ⟨vb, 0, none⟩ [r] 1 1 rfl rfl HP.out.srd (by omega) (by unfold maxLen; omega) HB.out ?_; intro v2 w2 ho2 hg2 hl2)
  go_ret
  exact ⟨v2, rfl, ho2, hg2, hl2⟩
theorem g_insert (v : Value) (n base vb k : Nat) (xs : List MRow) (r : MRow) (w : World) (ho : SOwn memE 61 w base v n xs) (hp : Trip w vb r) (hv : v.ownBlock ≠ some vb) (hk : k ≤ n) (hn : n ≤ 3518437208800) (hb : base ≤ w.heap.size) :
    Calls Tryz.prog 64 #[v, .int .i64 k, .slice (some ⟨vb, 0, none⟩) 1 1] w fun e w' => ∃ v', e = .returned v' ∧ SOwn memE 61 w' base v' (n + 1) (xs.take k ++ [r] ++ xs.drop k) ∧ w.grownBy w' v.ownBlock := by
  have hlen := SOwn.len ho
  by_cases hkn : k = n
  · subst hkn
    refine (ins_end v k base vb xs r w ho hp hn hb).mono ?_
    rintro e w' ⟨v', rfl, ho', hg, _⟩
    refine ⟨v', rfl, ?_, hg⟩
    rw [List.take_of_length_le (by omega), List.drop_of_length_le (by omega), List.append_nil]
    exact ho'
  · have hne : v ≠ .slice none 0 0 := fun e => by
      rcases ho.2 with ⟨_, h0⟩ | ⟨g, cap, cur, h', _⟩
      · omega
      · rw [e] at h'; simp at h'
    obtain ⟨g, c, rfl, ho1⟩ := sown_some ho hne
    obtain ⟨cur, hh⟩ := Held.of ho1
    obtain ⟨_, _, e9, hbg, hgl, hnc, hcm⟩ := SOwn.some ho hne
    simp only [Value.slice.injEq, Option.some.injEq, Addr.mk.injEq, and_true, true_and] at e9
    obtain ⟨rfl, rfl⟩ := e9
    have hvg : vb ≠ g := fun e => hv (by rw [e]; rfl)
    by_cases hroom : n + 1 ≤ c
    · refine (ins_shift g n c k vb xs cur r w hh hp hvg (by omega) hroom (by unfold maxLen at hcm; omega)).mono ?_
      rintro e w' ⟨rfl, ⟨cur', h'⟩, hg⟩
      exact ⟨_, rfl, h'.own hbg hroom hcm, hg⟩
    · obtain rfl : c = n := by omega
      refine (ins_grow g c k vb xs cur r w hh hp (by omega) hn).mono ?_
      rintro e w' ⟨G, rfl, hG1, hG2, ⟨cur', h'⟩, hg⟩
      exact ⟨_, rfl, h'.own hb hG1 hG2, gb_any hg _⟩
end Go.Proofs.YtboamjhlaehoaaaGreat

/- slices.Delete of one member. -/
namespace Go.Proofs.YtboamjhlaehoaaaGreat
open Go.RowKit
set_option linter.unusedVariables false
set_option maxRecDepth 20000

theorem step_append_fits {ops : Array Oper} {o : Oper} {a : Act} {w : World} {K : Act → World → Prop} {Q : Exit → Act → World → Prop} {Z : Prop} (hgd : o.guard = none) (s x : Operand)
    (ho : o.op = .call { callee := .builtin .append, args := #[s, x], argTypes := #[66, 66] }) (base g n c : Nat) (xs : List MRow) (hs : a.eval s = .slice (some ⟨g, 0, none⟩) n c) (hown : SOwn memE 61 w base (.slice (some ⟨g, 0, none⟩) n c) n xs)
    (ad : Addr) (zs : List MRow) (m cap : Nat) (hx : a.eval x = .slice (some ad) m cap) (hm : zs.length = m) (hr : SRd memE w (some ad) zs) (hroom : n + m ≤ c)
    (h : ∀ w', SOwn memE 61 w' base (.slice (some ⟨g, 0, none⟩) (n + m) c) (n + m) (xs ++ zs) → w.grownBy w' (some g) → K (a.put o.dst (.slice (some ⟨g, 0, none⟩) (n + m) c)) w') : if Region.wanted o (yielded ops a.tmps) = true then Oper.wp Tryz.prog o a w K Q else Z := by
  have hw : Region.wanted o (yielded ops a.tmps) = true := by simp [Region.wanted, hgd]
  rw [if_pos hw]
  obtain ⟨i0, z, hi, hz0, hz1, hz2, hz3⟩ := memT.info
  subst hm
  obtain ⟨w', hrun, hown', hg⟩ := run_append_fits (P := Tryz.prog) w base 66 o.type 61 i0 memE.size memT.under hi hz1 g n c (memE.flat xs) hown ad zs.length cap (memE.flat zs) (memE.flat_len zs) hr.news (memE.flat_one zs) hroom
  unfold Oper.wp
  simp [execOp, ho, resolve, invoke, builtin, hs, hx, hrun, Result.andThen]
  rw [← memE.flat_app] at hown'
  exact h w' hown' hg
theorem run_clear1 (w : World) (ty : TypeId) (g off cap : Nat) (cur : List Value) (hg : w.heap[g]? = some (.cells cur.toArray 61 (0, 0))) (hfit : off + 3 ≤ cur.length) :
    (Builtin.clear_ #[66] ty #[.slice (some ⟨g, off, none⟩) 1 cap]).run Tryz.prog w = .ok (.tuple #[]) (w.setRow g (splice cur off [.int .i64 0, .int .i64 0, .slice none 0 0]).toArray) := by
  have hst := run_storeCells_at (P := Tryz.prog) g off 61 [.int .i64 0, .int .i64 0, .slice none 0 0] 0 cur.toArray w hg (by simpa using hfit) (by
    intro v hv
    simp only [List.mem_cons, List.mem_nil_iff, or_false] at hv
    rcases hv with rfl | rfl | rfl <;> rfl)
  simp only [Nat.add_zero, List.append_assoc] at hst
  have hz : (zeroValue 61).run Tryz.prog w = .ok (.agg #[.int .i64 0, .int .i64 0, .slice none 0 0]) w := Tryz.zeroValue61 w
  have hzc : (Builtin.zeroCells (Value.agg #[.int .i64 0, .int .i64 0, .slice none 0 0]).cells 1).toList = [.int .i64 0, .int .i64 0, .slice none 0 0] := by kernel_rfl
  simp [Builtin.clear_, run_underlying Tryz.underlying66, hz, hzc, hst, splice]
theorem clear1_own {w : World} {base g n c : Nat} (cap : Nat) {xs : List MRow} (hown : SOwn memE 61 w base (.slice (some ⟨g, 0, none⟩) n c) n xs) (hc : n + 1 ≤ c) :
    ∃ w', (∀ ty, (Builtin.clear_ #[66] ty #[.slice (some ⟨g, n * 3, none⟩) 1 cap]).run Tryz.prog w = .ok (.tuple #[]) w') ∧ Hid (SOwn memE 61 w' base (.slice (some ⟨g, 0, none⟩) n c) n xs ∧ w.grownBy w' (some g)) := by
  obtain ⟨cur, hh⟩ := Held.of hown
  have hl := hh.len
  obtain ⟨_, _, e9, hbg, _, hnc, hcm⟩ := SOwn.some hown (by simp)
  simp only [Value.slice.injEq, Option.some.injEq, Addr.mk.injEq, and_true, true_and] at e9
  obtain ⟨rfl, rfl⟩ := e9
  refine ⟨_, fun ty => run_clear1 w ty g (n * 3) cap cur hh.row (by omega), ?_, gb_setRow w g _⟩
  refine Held.own (cur := splice cur (n * 3) [.int .i64 0, .int .i64 0, .slice none 0 0]) ⟨setRow_heap w g _ _ 61 _ hh.row, ?_, ?_, hh.num⟩ hbg hnc hcm
  · rw [length_splice _ _ _ (by simp; omega), hl]
  · unfold splice
    rw [List.take_append_of_le_length (by rw [List.length_take]; omega), List.take_take, Nat.min_self]
    exact hh.head
set_option maxHeartbeats 2000000 in
theorem g_delete (g n c base k : Nat) (xs : List MRow) (w : World) (ho : SOwn memE 61 w base (.slice (some ⟨g, 0, none⟩) n c) n xs) (hk : k < n) (hn : n ≤ 3518437208800) :
    Calls Tryz.prog 67 #[.slice (some ⟨g, 0, none⟩) n c, .int .i64 k, .int .i64 ((k : Int) + 1)] w fun e w' => e = .returned (.slice (some ⟨g, 0, none⟩) (n - 1) c) ∧ SOwn memE 61 w' base (.slice (some ⟨g, 0, none⟩) (n - 1) c) (n - 1) (xs.take k ++ xs.drop (k + 1)) ∧ w.grownBy w' (some g) := by
  have hl := SOwn.len ho
  obtain ⟨_, _, e9, hbg, _, hnc, hcm⟩ := SOwn.some ho (by simp)
  simp only [Value.slice.injEq, Option.some.injEq, Addr.mk.injEq, and_true, true_and] at e9
  obtain ⟨rfl, rfl⟩ := e9
  obtain ⟨cur, hh⟩ := Held.of ho
  have hs1 : ∀ w, ∃ v9, (Instr.slice 66 (.slice (some ⟨g, 0, none⟩) n c) (some (.int .i64 (k : Int))) (some (.int .i64 ((k : Int) + 1))) (some (.int .i64 (n : Int)))).run Tryz.prog w = .ok v9 w := fun w => by
    rw [run_slice_lhm w 66 _ n c (by rw [elem66]; exact Tryz.underlying66) .i64 .i64 .i64 (k : Int) ((k : Int) + 1) (n : Int) (by omega) (by omega) (by omega) (by omega), elem66, sz61]
    exact ⟨_, rfl⟩
  obtain ⟨F, hF⟩ : ∃ F : World → Value, ∀ w, (Instr.slice 66 (.slice (some ⟨g, 0, none⟩) n c) (some (.int .i64 (k : Int))) (some (.int .i64 ((k : Int) + 1))) (some (.int .i64 (n : Int)))).run Tryz.prog w = .ok (F w) w := ⟨fun w => (hs1 w).choose, fun w => (hs1 w).choose_spec⟩
  have hs2 : ∀ w, (Instr.slice 66 (.slice (some ⟨g, 0, none⟩) n c) none (some (.int .i64 (k : Int))) none).run Tryz.prog w = .ok (.slice (some ⟨g, 0, none⟩) k c) w := cut_high g n c k (by omega)
  have hs3 : ∃ ad cc, (∀ w, (Instr.slice 66 (.slice (some ⟨g, 0, none⟩) n c) (some (.int .i64 ((k : Int) + 1))) none none).run Tryz.prog w = .ok (.slice (some ad) (n - (k + 1)) cc) w) ∧ SRd memE w (some ad) (xs.drop (k + 1)) := by
    by_cases hc : k + 1 < c
    · refine ⟨⟨g, (k + 1) * 3, none⟩, c - (k + 1), fun w => ?_, .inr ⟨g, (k + 1) * 3, rfl, fun j v hj => ?_⟩⟩
      · have := cut_low g n c (k + 1) (by omega) hnc hc w
        rw [show ((k + 1 : Nat) : Int) = (k : Int) + 1 by omega] at this
        exact this
      · have := (hh.tail (k + 1) (by omega) hnc).2 j v hj
        rwa [Addr.add_lit] at this
    · obtain rfl : c = k + 1 := by omega
      obtain rfl : n = k + 1 := by omega
      refine ⟨⟨g, 0, none⟩, 0, fun w => ?_, .inl (List.drop_of_length_le (by omega))⟩
      rw [run_slice_l w 66 _ (k + 1) (k + 1) (by rw [elem66]; exact Tryz.underlying66) .i64 ((k : Int) + 1) (by omega) (by omega), elem66, sz61]
      have : ((k : Int) + 1).toNat = k + 1 := by omega
      simp [Result.andThen, sliced, this]
  obtain ⟨ad, cc, hs3, hrd⟩ := hs3
  have hs4 : ∀ w, (Instr.slice 66 (.slice (some ⟨g, 0, none⟩) (n - 1) c) (some (.int .i64 ((n - 1 : Nat) : Int))) (some (.int .i64 (n : Int))) none).run Tryz.prog w = .ok (.slice (some ⟨g, (n - 1) * 3, none⟩) 1 (c - (n - 1))) w := fun w => by
    rw [run_slice_lh w 66 _ (n - 1) c (by rw [elem66]; exact Tryz.underlying66) .i64 .i64 ((n - 1 : Nat) : Int) (n : Int) (by omega) (by omega) (by omega), elem66, sz61]
    have h0 : ¬ c = n - 1 := by omega
    have h1 : n - (n - 1) = 1 := by omega
    by_cases h2 : n - 1 = 0
    · rw [h2] at h0 h1 ⊢; simp [Result.andThen, sliced, h0, Addr.add, h1]
    · have : ¬ (n - 1) * 3 = 0 := by omega
      simp [Result.andThen, sliced, h0, Addr.add, this, h1]
  have HO : Hid (SOwn memE 61 w.drew base (.slice (some ⟨g, 0, none⟩) k c) k (xs.take k)) := by
    refine Held.own (cur := cur) ⟨hh.row, hh.len, hh.first k (by omega), by rw [List.length_take]; omega⟩ hbg (by omega) hcm
  have HR : Hid (SRd memE w.drew (some ad) (xs.drop (k + 1))) := hrd
  have HL : Hid ((xs.drop (k + 1)).length = n - (k + 1)) := by show _ = _; rw [List.length_drop, hl]
  have q1 : ((k : Int) == (k : Int) + 1) = false := by simp; omega
  have hsum : k + (n - (k + 1)) = n - 1 := by omega
  have b1 : (k : Int) + 1 ≤ 9223372036854775807 := by omega
  obtain ⟨nn, enn⟩ : ∃ nn, n - 1 = nn := ⟨_, rfl⟩
  have hcn : nn + 1 ≤ c := by omega
  have HS : Hid (k + (n - (k + 1)) = nn) := by show _ = _; rw [hsum, enn]
  rw [enn] at hs4 ⊢
  clear ho hh hrd hl hs1 hsum enn hk hnc hcm hn
  go_enter Tryz.func67, Tryz.ntmps67
  go_wp2_with fail
  go_region_law (refine step_append_fits rfl (.tmp 22) (.tmp 25) rfl base g k c (xs.take k) (by simp [Act.eval, Act.put]) HO.out ad (xs.drop (k + 1)) (n - (k + 1)) cc (by simp [Act.eval, Act.put]) HL.out HR.out (by rw [HS.out]; omega) ?_; intro w1 ho1 hg1; rw [HS.out] at ho1 ⊢)
  all_goals
    have HO1 : Hid (SOwn memE 61 w1 base (.slice (some ⟨g, 0, none⟩) nn c) nn (xs.take k ++ xs.drop (k + 1))) := ho1
    have HG1 : Hid (w.grownBy w1 (some g)) := gb_trans (gb_any (gb_drewN w 1) _) hg1 (fun k hk => .inr hk)
    clear ho1 hg1
    obtain ⟨w2, hcl, H2⟩ := clear1_own (c - nn) HO1.out hcn
    go_wp2
    go_ret
    exact ⟨rfl, H2.out.1, gb_trans HG1.out H2.out.2 (fun k hk => .inr hk)⟩
end Go.Proofs.YtboamjhlaehoaaaGreat

