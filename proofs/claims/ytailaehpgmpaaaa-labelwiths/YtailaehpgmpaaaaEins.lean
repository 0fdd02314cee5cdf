/- slices.Insert of one label, as the program uses it. -/
import Derived.Test.YtailaehpgmpaaaaEsome
import Derived.Test.YtailaehpgmpaaaaEread
import Derived.Lib.Overlaps
import Derived.Lib.AppendZerosOnto
import Derived.Laws.CopyOwn
import Derived.Deep.RegionLaw
namespace Go.Proofs.Ytailaehpgmpaaaa
open Go.RowKit
set_option linter.unusedVariables false

theorem run_copy2 (w : World) (ty : TypeId) (g off dLen dCap : Nat) (ad : Addr) (sLen sCap n : Nat) (cur cs : List Value) (hg : w.heap[g]? = some (.cells cur.toArray 52 (0, 0))) (hn : Nat.min sLen dLen = n) (hcs : cs.length = n * 2)
    (hsrc : ∀ j v, cs[j]? = some v → w.cell? (ad.add j) = some v) (hfit : off + cs.length ≤ cur.length) (h1 : ∀ v ∈ cs, v.oneCell' = true) :
    (Builtin.copy_ #[22, 22] ty #[.slice (some ⟨g, off, none⟩) dLen dCap, .slice (some ad) sLen sCap]).run Try.prog w = .ok (goInt n) (w.setRow g (splice cur off cs).toArray) := by
  obtain ⟨i0, hi, hz0, hz1, hz2⟩ := info_parts info52
  have hl := run_loadCells_list (P := Try.prog) w ad cs hsrc
  rw [hcs] at hl
  have hst := run_storeCells_at (P := Try.prog) g off 52 cs 0 cur.toArray w hg (by simpa using hfit) h1
  simp only [Nat.add_zero, List.append_assoc] at hst
  simp [Builtin.copy_, run_underlying Try.underlying22, Builtin.lenOf, Builtin.firstCells, sizeOf, typeInfo, hi, hz1, hn, hl, hst, splice]
theorem gb_row (w : World) (g : Nat) (cs : Array Value) : w.grownBy (w.setRow g cs) (some g) := gb_setRow w g cs
theorem wpList_copy2 {w : World} {ops : Array Oper} {rest : List Oper} {o : Oper} {a : Act} {Q : Exit → Act → World → Prop} (hgd : o.guard = none) (d s : Operand)
    (ho : o.op = .call { callee := .builtin .copy, args := #[d, s], argTypes := #[22, 22] }) (g off dLen dCap : Nat) (ad : Addr) (sLen sCap n : Nat) (cur cs : List Value)
    (hd : a.eval d = .slice (some ⟨g, off, none⟩) dLen dCap) (hs : a.eval s = .slice (some ad) sLen sCap) (hg : w.heap[g]? = some (.cells cur.toArray 52 (0, 0))) (hn : Nat.min sLen dLen = n) (hcs : cs.length = n * 2)
    (hsrc : ∀ j v, cs[j]? = some v → w.cell? (ad.add j) = some v) (hfit : off + cs.length ≤ cur.length) (h1 : ∀ v ∈ cs, v.oneCell' = true)
    (h : ∀ w', Hid (w'.heap[g]? = some (.cells (splice cur off cs).toArray 52 (0, 0))) → Hid (w.grownBy w' (some g)) → wpList Try.prog ops Q rest (a.put o.dst (goInt n)) w') : wpList Try.prog ops Q (o :: rest) a w := by
  refine wpList_plain hgd fun K hK => ?_
  have hrun := run_copy2 w o.type g off dLen dCap ad sLen sCap n cur cs hg hn hcs hsrc hfit h1
  unfold Oper.wp
  simp [execOp, ho, resolve, invoke, builtin, hd, hs, hrun, Result.andThen]
  exact hK _ _ (h _ (setRow_heap w g _ _ 52 _ hg) (gb_row w g _))
theorem step_copy2 {w : World} {ops : Array Oper} {o : Oper} {a : Act} {K : Act → World → Prop} {Q : Exit → Act → World → Prop} {E : Prop} (hgd : o.guard = none) (d s : Operand)
    (ho : o.op = .call { callee := .builtin .copy, args := #[d, s], argTypes := #[22, 22] }) (g off dLen dCap : Nat) (ad : Addr) (sLen sCap n : Nat) (cur cs : List Value)
    (hd : a.eval d = .slice (some ⟨g, off, none⟩) dLen dCap) (hs : a.eval s = .slice (some ad) sLen sCap) (hg : w.heap[g]? = some (.cells cur.toArray 52 (0, 0))) (hn : Nat.min sLen dLen = n) (hcs : cs.length = n * 2)
    (hsrc : ∀ j v, cs[j]? = some v → w.cell? (ad.add j) = some v) (hfit : off + cs.length ≤ cur.length) (h1 : ∀ v ∈ cs, v.oneCell' = true)
    (h : ∀ w', Hid (w'.heap[g]? = some (.cells (splice cur off cs).toArray 52 (0, 0))) → Hid (w.grownBy w' (some g)) → K (a.put o.dst (goInt n)) w') : if Region.wanted o (yielded ops a.tmps) = true then Oper.wp Try.prog o a w K Q else E := by
  have hw : Region.wanted o (yielded ops a.tmps) = true := by simp [Region.wanted, hgd]
  rw [if_pos hw]
  have hrun := run_copy2 w o.type g off dLen dCap ad sLen sCap n cur cs hg hn hcs hsrc hfit h1
  unfold Oper.wp
  simp [execOp, ho, resolve, invoke, builtin, hd, hs, hrun, Result.andThen]
  exact h _ (setRow_heap w g _ _ 52 _ hg) (gb_row w g _)

theorem cut_low (g n c k : Nat) (hk : k ≤ n) (hn : n ≤ c) (hc : k < c) (w : World) : (Instr.slice 22 (.slice (some ⟨g, 0, none⟩) n c) (some (.int .i64 (k : Int))) none none).run Try.prog w = .ok (.slice (some ⟨g, k * 2, none⟩) (n - k) (c - k)) w := by
  rw [run_slice_l w 22 _ n c (by rw [elem22]; exact Try.underlying22) .i64 (k : Int) (by omega) (by omega), elem22, sz52]
  have h0 : ¬ c = k := by omega
  by_cases h1 : k = 0
  · subst h1; simp [Result.andThen, sliced, h0, Addr.add]
  · have : ¬ k * 2 = 0 := by omega
    simp [Result.andThen, sliced, h0, Addr.add, this]
theorem cut_high (g n c k : Nat) (hk : k ≤ c) (w : World) : (Instr.slice 22 (.slice (some ⟨g, 0, none⟩) n c) none (some (.int .i64 (k : Int))) none).run Try.prog w = .ok (.slice (some ⟨g, 0, none⟩) k c) w := by
  rw [run_slice_h w 22 _ n c (by rw [elem22]; exact Try.underlying22) .i64 (k : Int) (by omega) (by omega), elem22, sz52]
  simp [Result.andThen, sliced, Addr.add]

theorem splice_in (cur D : List Value) (i m : Nat) (x y : Value) (hD : D.length = m * 2) (hl : i * 2 + 2 + m * 2 ≤ cur.length) :
    (splice (splice cur ((i + 1) * 2) D) (i * 2) [x, y]).take ((i + 1 + m) * 2) = cur.take (i * 2) ++ [x, y] ++ D ∧ (splice (splice cur ((i + 1) * 2) D) (i * 2) [x, y]).length = cur.length := by
  have e1 : (splice cur ((i + 1) * 2) D).length = cur.length := length_splice _ _ _ (by omega)
  refine ⟨?_, by rw [length_splice _ _ _ (by rw [e1]; simp; omega), e1]⟩
  unfold splice
  have t1 : (cur.take ((i + 1) * 2)).length = (i + 1) * 2 := by rw [List.length_take]; omega
  have a1 : (cur.take ((i + 1) * 2) ++ (D ++ cur.drop ((i + 1) * 2 + D.length))).take (i * 2) = cur.take (i * 2) := by
    rw [List.take_append_of_le_length (by omega), List.take_take, Nat.min_eq_left (by omega)]
  have a2 : (cur.take ((i + 1) * 2) ++ (D ++ cur.drop ((i + 1) * 2 + D.length))).drop (i * 2 + [x, y].length) = D ++ cur.drop ((i + 1) * 2 + D.length) := by
    rw [show i * 2 + [x, y].length = (cur.take ((i + 1) * 2)).length by rw [t1]; simp; omega, List.drop_left]
  rw [a1, a2]
  have t2 : (cur.take (i * 2) ++ [x, y] ++ D).length = (i + 1 + m) * 2 := by
    rw [List.length_append, List.length_append, List.length_take, hD]
    simp
    omega
  rw [show cur.take (i * 2) ++ ([x, y] ++ (D ++ cur.drop ((i + 1) * 2 + D.length))) = (cur.take (i * 2) ++ [x, y] ++ D) ++ cur.drop ((i + 1) * 2 + D.length) by simp, ← t2, List.take_left]
theorem splice_out (row D : List Value) (i m : Nat) (x y : Value) (hD : D.length = m * 2) (hl : i * 2 + 2 + m * 2 ≤ row.length) :
    (splice (splice row (i * 2) [x, y]) ((i + 1) * 2) D).take ((i + 1 + m) * 2) = row.take (i * 2) ++ [x, y] ++ D ∧ (splice (splice row (i * 2) [x, y]) ((i + 1) * 2) D).length = row.length := by
  have e1 : (splice row (i * 2) [x, y]).length = row.length := length_splice _ _ _ (by simp; omega)
  refine ⟨?_, by rw [length_splice _ _ _ (by rw [e1]; omega), e1]⟩
  unfold splice
  have t1 : (row.take (i * 2) ++ [x, y]).length = (i + 1) * 2 := by rw [List.length_append, List.length_take]; simp; omega
  have a1 : (row.take (i * 2) ++ ([x, y] ++ row.drop (i * 2 + [x, y].length))).take ((i + 1) * 2) = row.take (i * 2) ++ [x, y] := by
    rw [← List.append_assoc, ← t1, List.take_left]
  rw [a1]
  generalize (row.take (i * 2) ++ ([x, y] ++ row.drop (i * 2 + [x, y].length))).drop ((i + 1) * 2 + D.length) = Z
  have t2 : (row.take (i * 2) ++ [x, y] ++ D).length = (i + 1 + m) * 2 := by rw [List.length_append, t1, hD]; omega
  rw [show row.take (i * 2) ++ [x, y] ++ (D ++ Z) = (row.take (i * 2) ++ [x, y] ++ D) ++ Z by simp, ← t2, List.take_left]
theorem flat_ins (xs : List Lab) (i : Nat) (x y : ByteArray) : labE.flat (xs.take i ++ [(x, y)] ++ xs.drop i) = labE.flat (xs.take i) ++ [.string x, .string y] ++ labE.flat (xs.drop i) := by
  rw [labE.flat_app, labE.flat_app]; rfl

/-- What is known of a row that is read as labels. -/
structure Held (w : World) (g n c : Nat) (xs : List Lab) (cur : List Value) : Prop where
  row : w.heap[g]? = some (.cells cur.toArray 52 (0, 0))
  len : cur.length = c * 2
  head : cur.take (n * 2) = labE.flat xs
  num : xs.length = n
theorem Held.grown {w w' : World} {row : Option Nat} {g n c : Nat} {xs : List Lab} {cur : List Value} (h : Held w g n c xs cur) (hg : w.grownBy w' row) (hne : some g ≠ row) : Held w' g n c xs cur :=
  ⟨(hg.block g (Array.getElem?_eq_some_iff.1 h.row).1 hne).trans h.row, h.len, h.head, h.num⟩
theorem Held.tail {w : World} {g n c : Nat} {xs : List Lab} {cur : List Value} (h : Held w g n c xs cur) (i : Nat) (hi : i ≤ n) (hc : n ≤ c) : (labE.flat (xs.drop i)).length = (n - i) * 2 ∧ ∀ j v, (labE.flat (xs.drop i))[j]? = some v → w.cell? ((⟨g, i * 2, none⟩ : Addr).add j) = some v := by
  have hd : (labE.flat (xs.drop i)).length = (n - i) * 2 := by rw [labE.flat_len, List.length_drop, h.num]; rfl
  refine ⟨hd, fun j v hj => ?_⟩
  have hj1 : j < (n - i) * 2 := by rw [← hd]; exact (List.getElem?_eq_some_iff.1 hj).1
  have ht : (labE.flat (xs.take i)).length = i * 2 := by
    rw [labE.flat_len, List.length_take, h.num, Nat.min_eq_left hi]; rfl
  rw [Addr.add_lit, cell_of_row w g _ _ _ _ h.row]
  have e : labE.flat xs = labE.flat (xs.take i) ++ labE.flat (xs.drop i) := by rw [← labE.flat_app, List.take_append_drop]
  have e2 : (labE.flat xs)[i * 2 + j]? = some v := by
    rw [e, List.getElem?_append_right (by omega), ht, show i * 2 + j - i * 2 = j by omega]
    exact hj
  rw [← h.head, List.getElem?_take] at e2
  rw [if_pos (by omega)] at e2
  simpa using e2
theorem Held.first {w : World} {g n c : Nat} {xs : List Lab} {cur : List Value} (h : Held w g n c xs cur) (i : Nat) (hi : i ≤ n) : cur.take (i * 2) = labE.flat (xs.take i) := by
  have e : (labE.flat xs).take (i * 2) = labE.flat (xs.take i) := (labE.flat_take xs i).symm
  rw [← e, ← h.head, List.take_take, Nat.min_eq_left (by omega)]
theorem Pair.news {w : World} {vb : Nat} {x y : ByteArray} (h : Pair w vb x y) : ∀ j v, [Value.string x, .string y][j]? = some v → w.cell? ((⟨vb, 0, none⟩ : Addr).add j) = some v := by
  intro j v hj
  rw [Addr.add_lit, Nat.zero_add, cell_of_row w vb j _ _ _ h]
  simpa using hj
theorem Pair.kept {w w' : World} {row : Option Nat} {vb : Nat} {x y : ByteArray} (h : Pair w vb x y) (hg : w.grownBy w' row) (hne : some vb ≠ row) : Pair w' vb x y := (hg.block vb h.lt hne).trans h
theorem two_one (x y : ByteArray) : ∀ v ∈ [Value.string x, .string y], v.oneCell' = true := by
  intro v hv
  simp only [List.mem_cons, List.mem_nil_iff, or_false] at hv
  rcases hv with rfl | rfl <;> rfl

set_option maxHeartbeats 2000000 in
theorem ins_shift (g n c i vb : Nat) (xs : List Lab) (cur : List Value) (x y : ByteArray) (w : World) (h : Held w g n c xs cur) (hp : Pair w vb x y) (hne : vb ≠ g) (hi : i < n) (hroom : n + 1 ≤ c) (hcm : c ≤ 9223372036854775807) :
    Calls Try.prog 60 #[.slice (some ⟨g, 0, none⟩) n c, .int .i64 i, .slice (some ⟨vb, 0, none⟩) 1 1] w fun e w' => e = .returned (.slice (some ⟨g, 0, none⟩) (n + 1) c) ∧ (∃ cur', Held w' g (n + 1) c (xs.take i ++ [(x, y)] ++ xs.drop i) cur') ∧ w.grownBy w' (some g) := by
  have HH : Hid (Held w g n c xs cur) := h
  have HP : Hid (Pair w vb x y) := hp
  have HNE : Hid (vb ≠ g) := hne
  have hs1 : ∀ w, (Instr.slice 22 (.slice (some ⟨g, 0, none⟩) n c) (some (.int .i64 (i : Int))) none none).run Try.prog w = .ok (.slice (some ⟨g, i * 2, none⟩) (n - i) (c - i)) w := cut_low g n c i (by omega) (by omega) (by omega)
  have hs2 : ∀ w, (Instr.slice 22 (.slice (some ⟨g, 0, none⟩) n c) none (some (.int .i64 ((n : Int) + 1))) none).run Try.prog w = .ok (.slice (some ⟨g, 0, none⟩) (n + 1) c) w := cut_high g n c (n + 1) (by omega)
  have hs3 : ∀ w, (Instr.slice 22 (.slice (some ⟨g, 0, none⟩) (n + 1) c) (some (.int .i64 ((i : Int) + 1))) none none).run Try.prog w = .ok (.slice (some ⟨g, (i + 1) * 2, none⟩) (n - i) (c - (i + 1))) w := fun w => by
    have k := cut_low g (n + 1) c (i + 1) (by omega) (by omega) (by omega) w
    rw [show n + 1 - (i + 1) = n - i by omega] at k
    exact k
  have hs4 : ∀ w, (Instr.slice 22 (.slice (some ⟨g, 0, none⟩) (n + 1) c) (some (.int .i64 (i : Int))) none none).run Try.prog w = .ok (.slice (some ⟨g, i * 2, none⟩) (n + 1 - i) (c - i)) w := cut_low g (n + 1) c i (by omega) (by omega) (by omega)
  have hov : ∀ lb cb, (callFunc 75 #[.slice (some ⟨vb, 0, none⟩) 1 1, .slice (some ⟨g, (i + 1) * 2, none⟩) lb cb]).run Try.prog w = .ok (.value (.bool false)) w := fun lb cb => by
    rw [run_callFunc_extern Try.func75 (by kernel_rfl) (by kernel_rfl) (by kernel_rfl) (e := Extern.SlicesOverlaps.overlaps #[22, 22] #[4]) (by kernel_rfl),
      Lib.run_overlaps_apart w 22 4 52 Try.underlying22 2 sz52 ⟨vb, 0, none⟩ ⟨g, (i + 1) * 2, none⟩ 1 1 lb cb hne 52 52 2 (c * 2) (by have k := hp; unfold Pair at k; simp [World.shape?, k]) (by have k := h.row; simp [World.shape?, k, h.len]) (by omega) hp.f0 (by have k := hp; unfold Pair at k; simp [World.frozen?, k])]
    rfl
  have HT := h.tail i (by omega) (by omega)
  have HL : Hid (cur.length = c * 2) := h.len
  obtain ⟨D, hD⟩ : ∃ D, D = labE.flat (xs.drop i) := ⟨_, rfl⟩
  rw [← hD] at HT
  have HDE : Hid (D = labE.flat (xs.drop i)) := hD
  have HD1 : Hid (∀ v ∈ D, v.oneCell' = true) := by rw [hD]; exact labE.flat_one _
  have HD2 : Hid (D.length = (n - i) * 2) := HT.1
  have HD3 : Hid (∀ j v, D[j]? = some v → w.drew.cell? ((⟨g, i * 2, none⟩ : Addr).add j) = some v) := HT.2
  have HR : Hid (w.drew.heap[g]? = some (.cells cur.toArray 52 (0, 0))) := h.row
  have q1 : ((i : Int) == (n : Int)) = false := by simp; omega
  have q2 : decide ((c : Int) < (n : Int) + 1) = false := by simp; omega
  have b1 : (n : Int) + 1 ≤ 9223372036854775807 := by omega
  have b2 : (i : Int) + 1 ≤ 9223372036854775807 := by omega
  have hw1 : IntKind.i64.wrap ((i : Int) + 1) = (i : Int) + 1 := by rw [IntKind.wrap_i64]; omega
  clear hD HT h hp hne
  go_enter Try.func60, Try.ntmps60
  go_wp2_with (simp only [hov])
  go_region_law (refine step_copy2 rfl (.tmp 73) (.tmp 76) rfl g ((i + 1) * 2) (n - i) (c - (i + 1)) ⟨g, i * 2, none⟩ (n + 1 - i) (c - i) (n - i) cur D (by simp [Act.eval, Act.put]) (by simp [Act.eval, Act.put]) HR.out (by simp only [Nat.min_def]; split <;> omega) HD2.out HD3.out (by rw [HD2.out, HL.out]; omega) HD1.out ?_; intro w1 hr1 hg1)
  all_goals
    have HP1 : Hid (Pair w1 vb x y) := Pair.kept (w := w.drew) HP.out hg1.out (fun e => HNE.out (Option.some.inj e))
    have HL1 : Hid ((splice cur ((i + 1) * 2) D).length = c * 2) := by show _ = _; rw [length_splice _ _ _ (by rw [HD2.out, HL.out]; omega), HL.out]
    go_wp2_with (refine wpList_copy2 rfl (.tmp 80) (.tmp 81) rfl g (i * 2) (n + 1 - i) (c - i) ⟨vb, 0, none⟩ 1 1 1 (splice cur ((i + 1) * 2) D) [.string x, .string y] rfl rfl hr1.out (by simp only [Nat.min_def]; split <;> omega) rfl HP1.out.news (by rw [HL1.out]; simp; omega) (two_one x y) ?_; intro w2 hr2 hg2)
    go_ret
    refine ⟨rfl, ⟨_, hr2.out, ?_, ?_, ?_⟩, ?_⟩
    · rw [(splice_in cur D i (n - i) _ _ HD2.out (by rw [HL.out]; omega)).2, HL.out]
    · rw [show (n + 1) * 2 = (i + 1 + (n - i)) * 2 by omega, (splice_in cur D i (n - i) _ _ HD2.out (by rw [HL.out]; omega)).1, flat_ins, HH.out.first i (by omega), HDE.out]
    · have hn := HH.out.num
      simp only [List.length_append, List.length_take, List.length_drop, List.length_cons, List.length_nil]
      omega
    · exact gb_trans (gb_trans (gb_any (gb_drewN w 1) _) hg1.out (fun k hk => .inr hk)) hg2.out (fun k hk => .inr hk)

set_option maxRecDepth 100000 in
set_option maxHeartbeats 2000000 in
theorem ins_grow (g n i vb : Nat) (xs : List Lab) (cur : List Value) (x y : ByteArray) (w : World) (h : Held w g n n xs cur) (hp : Pair w vb x y) (hi : i < n) (hn : n ≤ 4398046511000) :
    Calls Try.prog 60 #[.slice (some ⟨g, 0, none⟩) n n, .int .i64 i, .slice (some ⟨vb, 0, none⟩) 1 1] w fun e w' => ∃ G, e = .returned (.slice (some ⟨w.heap.size, 0, none⟩) (n + 1) G) ∧ n + 1 ≤ G ∧ G ≤ maxLen ∧ (∃ cur', Held w' w.heap.size (n + 1) G (xs.take i ++ [(x, y)] ++ xs.drop i) cur') ∧ w.grownBy w' none := by
  have HH : Hid (Held w g n n xs cur) := h
  have HP : Hid (Pair w vb x y) := hp
  have hs1 : ∀ w, (Instr.slice 22 (.slice (some ⟨g, 0, none⟩) n n) (some (.int .i64 (i : Int))) none none).run Try.prog w = .ok (.slice (some ⟨g, i * 2, none⟩) (n - i) (n - i)) w := cut_low g n n i (by omega) (by omega) (by omega)
  have hs2 : ∀ w, (Instr.slice 22 (.slice (some ⟨g, 0, none⟩) n n) none (some (.int .i64 (i : Int))) none).run Try.prog w = .ok (.slice (some ⟨g, 0, none⟩) i n) w := cut_high g n n i (by omega)
  have HGl : Hid (g < w.heap.size) := (Array.getElem?_eq_some_iff.1 h.row).1
  have HVl : Hid (vb < w.heap.size) := hp.lt
  have HT := h.tail i (by omega) (by omega)
  obtain ⟨D, hD⟩ : ∃ D, D = labE.flat (xs.drop i) := ⟨_, rfl⟩
  rw [← hD] at HT
  have HDE : Hid (D = labE.flat (xs.drop i)) := hD
  have HD1 : Hid (∀ v ∈ D, v.oneCell' = true) := by rw [hD]; exact labE.flat_one _
  have HD2 : Hid (D.length = (n - i) * 2) := HT.1
  have HD3 : Hid (∀ w' : World, w'.heap[g]? = w.heap[g]? → ∀ j v, D[j]? = some v → w'.cell? ((⟨g, i * 2, none⟩ : Addr).add j) = some v) := by
    intro w' hw j v hj
    have := HT.2 j v hj
    rw [Addr.add_lit] at this ⊢
    rw [World.cell?_of_block (w := w) hw]
    exact this
  have q1 : ((i : Int) == (n : Int)) = false := by simp; omega
  have q2 : decide ((n : Int) < (n : Int) + 1) = true := by simp; omega
  have b1 : (n : Int) + 1 ≤ 9223372036854775807 := by omega
  have hkk : (n : Int) + 1 - (i : Int) = ((n + 1 - i : Nat) : Int) := by omega
  obtain ⟨i0, hi0, hz0, hz1, hz2⟩ := info_parts info52
  have hold : (Builtin.firstCells i0.size i (.slice (some ⟨g, 0, none⟩) i n)).run Try.prog w.drew = .ok (labE.flat (xs.take i)).toArray w.drew := by
    rw [hz1]
    refine run_firstCells_some w.drew 2 i ⟨g, 0, none⟩ i n (labE.flat (xs.take i)) (by rw [labE.flat_len, List.length_take, h.num, Nat.min_eq_left (by omega)]; rfl) (fun j v hj => ?_)
    rw [Addr.add_lit, Nat.zero_add]
    show w.cell? _ = _
    rw [cell_of_row w g _ _ _ _ h.row]
    rw [← h.first i (by omega), List.getElem?_take] at hj
    split at hj
    · simpa using hj
    · cases hj
  have hik : i + (n + 1 - i) = n + 1 := by omega
  obtain ⟨G, hG⟩ : ∃ G, G = grownCap w (n + 1) n 52 := ⟨_, rfl⟩
  obtain ⟨ROW, hROW⟩ : ∃ ROW : List Value, ROW = ((labE.flat (xs.take i)).toArray ++ Builtin.zeroCells (Value.agg #[.string ⟨#[]⟩, .string ⟨#[]⟩]).cells (n + 1 - i) ++ Builtin.zeroCells (Value.agg #[.string ⟨#[]⟩, .string ⟨#[]⟩]).cells (G - (n + 1))).toList := ⟨_, rfl⟩
  have HZ : Hid (∀ ty, (Builtin.append_ #[22, 3] ty #[.slice (some ⟨g, 0, none⟩) i n, .int .i64 ((n : Int) + 1 - (i : Int))]).run Try.prog w = .ok (.slice (some ⟨w.heap.size, 0, none⟩) (n + 1) G) (w.drew.alloc (.cells ROW.toArray 52))) := fun ty => by
    have k := Lib.run_append_grow_zeros w 22 3 ty 52 i0 _ .i64 .i64 Try.underlying22 Try.underlying3 hi0 hz0 (some ⟨g, 0, none⟩) i n (labE.flat (xs.take i)) hold (n + 1 - i) (by omega) (by omega) (by omega) (by omega) (by rw [hz2]; omega) (by rw [hz2, hik]; exact growslice_fits (by omega) (by omega))
    rw [hik, ← hG] at k
    rw [hkk, hROW, Array.toArray_toList]
    exact k
  have HGn : Hid (n + 1 ≤ G ∧ G ≤ maxLen) := by
    rw [hG]
    exact ⟨grownCap_ge w _ _ _, grownCap_le_maxLen w (n + 1) n 52 (by unfold maxLen; omega)⟩
  have hzc : ∀ m, (Builtin.zeroCells (Value.agg #[.string ⟨#[]⟩, .string ⟨#[]⟩]).cells m).size = m * 2 := by
    intro m
    simp [Builtin.zeroCells, Value.cells]
  have HRl : Hid (ROW.length = G * 2 ∧ ROW.take (i * 2) = labE.flat (xs.take i)) := by
    have hfl : (labE.flat (xs.take i)).length = i * 2 := by rw [labE.flat_len, List.length_take, h.num, Nat.min_eq_left (by omega)]; rfl
    have hg1 := HGn.out.1
    refine ⟨?_, ?_⟩
    · rw [hROW]
      simp only [Array.length_toList, Array.size_append, hzc, List.size_toArray, hfl]
      omega
    · rw [hROW]
      simp only [Array.toList_append, List.append_assoc]
      rw [← hfl, List.take_left]
  have hGm : (G : Int) ≤ 9223372036854775807 := by have := HGn.out.2; unfold maxLen at this; omega
  have hGn1 : n + 1 ≤ G := HGn.out.1
  have hs3 : ∀ w', (Instr.slice 22 (.slice (some ⟨w.heap.size, 0, none⟩) (n + 1) G) (some (.int .i64 (i : Int))) none none).run Try.prog w' = .ok (.slice (some ⟨w.heap.size, i * 2, none⟩) (n + 1 - i) (G - i)) w' := cut_low _ (n + 1) G i (by omega) (by omega) (by omega)
  have hs4 : ∀ w', (Instr.slice 22 (.slice (some ⟨w.heap.size, 0, none⟩) (n + 1) G) (some (.int .i64 ((i : Int) + 1))) none none).run Try.prog w' = .ok (.slice (some ⟨w.heap.size, (i + 1) * 2, none⟩) (n - i) (G - (i + 1))) w' := fun w' => by
    have k := cut_low w.heap.size (n + 1) G (i + 1) (by omega) (by omega) (by omega) w'
    rw [show n + 1 - (i + 1) = n - i by omega] at k
    exact k
  have hw1 : IntKind.i64.wrap ((i : Int) + 1) = (i : Int) + 1 := by rw [IntKind.wrap_i64]; omega
  have b2 : (i : Int) + 1 ≤ 9223372036854775807 := by omega
  have HWA : Hid ((w.drew.alloc (.cells ROW.toArray 52)).heap[w.heap.size]? = some (.cells ROW.toArray 52 (0, 0)) ∧ w.grownBy (w.drew.alloc (.cells ROW.toArray 52)) none) := ⟨heap_alloc_new w.drew _, (gb_drewN w 1).trans (World.grownBy_alloc w.drew _ none)⟩
  obtain ⟨wa, ewa⟩ : ∃ wa, wa = w.drew.alloc (.cells ROW.toArray 52) := ⟨_, rfl⟩
  rw [← ewa] at HWA HZ
  clear ewa hD HT h hp hROW hG hold hik hkk hzc
  obtain ⟨N, hN⟩ : ∃ N, N = w.heap.size := ⟨_, rfl⟩
  have HN : Hid (N = w.heap.size) := hN
  rw [← hN] at hs3 hs4 HGl HVl HWA HZ ⊢
  clear hN
  have HPa : Hid (Pair wa vb x y) := Pair.kept HP.out HWA.out.2 (by simp)
  have HRa : Hid (wa.heap[N]? = some (.cells ROW.toArray 52 (0, 0))) := HWA.out.1
  go_enter Try.func60, Try.ntmps60
  go_wp2_with (first | (at_builtin; refine Lib.wpList_append_run _ rfl (.tmp 34) (.tmp 39) 22 3 rfl _ _ rfl rfl _ _ (HZ.out _) ?_) | (refine wpList_copy2 rfl (.tmp 43) (.tmp 44) rfl N (i * 2) (n + 1 - i) (G - i) ⟨vb, 0, none⟩ 1 1 1 ROW [.string x, .string y] rfl rfl HRa.out (by simp only [Nat.min_def]; split <;> omega) rfl HPa.out.news (by rw [HRl.out.1]; simp; omega) (two_one x y) ?_; intro w2 hr2 hg2))
  have HR2 : Hid (w2.drew.heap[N]? = some (.cells (splice ROW (i * 2) [.string x, .string y]).toArray 52 (0, 0))) := hr2.out
  have HL2 : Hid ((splice ROW (i * 2) [Value.string x, .string y]).length = G * 2) := by show _ = _; rw [length_splice _ _ _ (by rw [HRl.out.1]; simp; omega), HRl.out.1]
  have HS2 : Hid (w2.drew.heap[g]? = w.heap[g]?) := by
    show w2.heap[g]? = w.heap[g]?
    have hgl := HGl.out
    rw [hg2.out.block g (by have := HWA.out.2.size; have := HN.out; omega) (fun e => by have := Option.some.inj e; omega), HWA.out.2.block g (by have := HN.out; omega) (by simp)]
  go_region_law (refine step_copy2 rfl (.tmp 50) (.tmp 53) rfl N ((i + 1) * 2) (n - i) (G - (i + 1)) ⟨g, i * 2, none⟩ (n - i) (n - i) (n - i) (splice ROW (i * 2) [.string x, .string y]) D (by simp [Act.eval, Act.put]) (by simp [Act.eval, Act.put]) HR2.out (by simp) HD2.out (HD3.out _ HS2.out) (by rw [HD2.out, HL2.out]; omega) HD1.out ?_; intro w3 hr3 hg3)
  all_goals
    go_wp2
    go_ret
    refine ⟨G, rfl, HGn.out.1, HGn.out.2, ⟨_, hr3.out, ?_, ?_, ?_⟩, ?_⟩
    · rw [(splice_out ROW D i (n - i) _ _ HD2.out (by rw [HRl.out.1]; omega)).2, HRl.out.1]
    · rw [show (n + 1) * 2 = (i + 1 + (n - i)) * 2 by omega, (splice_out ROW D i (n - i) _ _ HD2.out (by rw [HRl.out.1]; omega)).1, flat_ins, HRl.out.2, HDE.out]
    · have hn := HH.out.num
      simp only [List.length_append, List.length_take, List.length_drop, List.length_cons, List.length_nil]
      omega
    · have hNN := HN.out
      exact gb_trans (gb_trans HWA.out.2 (gb_drewR hg2.out 1) (fun k hk => .inl (by cases hk; omega))) hg3.out (fun k hk => .inl (by cases hk; omega))
end Go.Proofs.Ytailaehpgmpaaaa
