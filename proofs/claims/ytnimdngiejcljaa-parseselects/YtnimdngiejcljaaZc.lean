/- Several texts in one: Bx, Wd, Tx, Sg, Sh, Nm, Nn. -/
import Derived.Test.YtnimdngiejcljaaZb
import Derived.Laws.Strings2
import Derived.Laws.Strings3
import Derived.Deep.Cut
/- Parts of a text; a token in a box; a list of tokens. -/
namespace Go.Proofs.Ytnimdngiejcljaa
open Go.RowKit
set_option linter.unusedVariables false
set_option maxRecDepth 20000

theorem sInts_ext (s : ByteArray) (a b : Nat) : sInts (s.extract a b) = ((sInts s).drop a).take (b - a) := by
  unfold sInts
  rw [ByteArray.data_extract, Array.toList_extract, List.extract_eq_take_drop, List.map_take, List.map_drop]
theorem str_self (s : ByteArray) : strOfNums (sInts s) = s := by
  apply ByteArray.ext
  apply Array.toList_inj.1
  rw [strOfNums_data]
  unfold sInts
  rw [List.map_map]
  conv => rhs; rw [← List.map_id s.data.toList]
  apply List.map_congr_left
  intro b _
  simp
theorem str_inj {s t : ByteArray} (h : sInts s = sInts t) : s = t := by rw [← str_self s, ← str_self t, h]
theorem sInts_str {l : List Int} (h : ∀ z ∈ l, 0 ≤ z ∧ z ≤ 255) : sInts (strOfNums l) = l := by
  unfold sInts
  rw [strOfNums_data, List.map_map]
  conv => rhs; rw [← List.map_id l]
  apply List.map_congr_left
  intro z hz
  have := h z hz
  simp
  omega
/-- A text from a place on. -/
def dropS (s : ByteArray) (k : Nat) : ByteArray := s.extract k s.size
theorem sInts_drop (s : ByteArray) (k : Nat) : sInts (dropS s k) = (sInts s).drop k := by
  unfold dropS
  rw [sInts_ext, List.take_of_length_le]
  rw [List.length_drop, sInts_len]
  omega
theorem size_drop (s : ByteArray) (k : Nat) : (dropS s k).size = s.size - k := by
  rw [← sInts_len, sInts_drop, List.length_drop, sInts_len]
def subS (s : ByteArray) (a b : Nat) : ByteArray := strOfNums (((sInts s).drop a).take (b - a))
theorem ext_sub (s : ByteArray) (a b : Nat) : s.extract a b = subS s a b := by
  rw [← str_self (s.extract a b), sInts_ext]; rfl
theorem sl_lo (s : ByteArray) (k : Nat) (hk : k ≤ s.size) (w : World) : (Instr.slice 9 (.string s) (some (.int .i64 (k : Int))) none none).run Try.prog w = .ok (.string (dropS s k)) w := by
  rw [run_slice_string_l w 9 s Try.underlying9 .i64 (k : Int) (by omega) (by omega)]
  rfl
theorem sl_hi (s : ByteArray) (k : Nat) (hk : k ≤ s.size) (w : World) : (Instr.slice 9 (.string s) none (some (.int .i64 (k : Int))) none).run Try.prog w = .ok (.string (strOfNums ((sInts s).take k))) w := by
  rw [run_slice_string_h w 9 s Try.underlying9 .i64 (k : Int) (by omega) (by omega)]
  rw [Int.toNat_natCast, ext_sub]
  rfl
theorem sl_lh (s : ByteArray) (a b : Nat) (h1 : a ≤ b) (h2 : b ≤ s.size) (w : World) : (Instr.slice 9 (.string s) (some (.int .i64 (a : Int))) (some (.int .i64 (b : Int))) none).run Try.prog w = .ok (.string (strOfNums (((sInts s).drop a).take (b - a)))) w := by
  rw [run_slice_string w 9 s .i64 .i64 (a : Int) (b : Int) Try.underlying9 (by omega) (by omega) (by omega)]
  simp only [Int.toNat_natCast]
  rw [ext_sub]
  rfl

abbrev tokV (k a : Int) (t : ByteArray) (s : Int) : Value := .agg #[.int .i64 k, .int .i64 a, .string t, .int .i64 s]
def tokE : Elem Tok where
  cells q := [.int .i64 q.1, .int .i64 q.2.1, .string q.2.2.1, .int .i64 q.2.2.2]
  size := 4
  pos := by decide
  len _ := rfl
  one q v h := by
    simp only [List.mem_cons, List.mem_nil_iff, or_false] at h
    rcases h with rfl | rfl | rfl | rfl <;> rfl
theorem info32 : (Try.prog.info? 52).map (fun i => (i.zero, i.size, i.bytes)) = some (some (.agg #[.int .i64 0, .int .i64 0, .string ⟨#[]⟩, .int .i64 0]), 4, 40) := by kernel_rfl
theorem tokT : ElemOf tokE Try.prog 26 52 40 := by
  obtain ⟨i0, hi, hz0, hz1, hz2⟩ := info_parts info32
  exact ⟨Try.underlying26, i0, _, hi, hz0, hz1, hz2, rfl⟩
theorem isz32 : (Try.prog.info? 52).map (·.size) = some 4 := by kernel_rfl
theorem free_row {w : World} {g : Nat} {cs : Array Value} {t : TypeId} (h : w.heap[g]? = some (.cells cs t (0, 0))) (j : Nat) : w.frozen? ⟨g, j, none⟩ = false := by simp [World.frozen?, h]
theorem size_alloc (w : World) (o : Obj) : (w.alloc o).heap.size = w.heap.size + 1 := by rw [World.alloc, Array.size_push]
theorem results_row_tmp {fn : Func} {p u : Tmp} {ty : TypeId} (h : fn.results = #[.cell p ty, .tmp u]) (tmps : Array Value) (P : Program) (w : World) (g : Nat) (t : TypeId) (cs : Array Value) (fr : Nat × Nat) (F : Array Field)
    (hp : tmps.getD p undef = .pointer (some ⟨g, 0, none⟩)) (hg : w.heap[g]? = some (.cells cs t fr))
    (hu : P.underlying ty = some (.struct F)) (hi : (P.info? ty).map (·.size) = some cs.size) :
    (results fn tmps).run P w = .ok (.tuple #[.agg cs, tmps.getD u undef]) w := by
  rw [results_cell_tmp h, hp]
  simp [asAddr, Result.andThen, run_loadVar_row w g t ty cs fr (.struct F) hg hu rfl hi]
theorem cell4 {w : World} {g : Nat} {x y z u : Value} {t : TypeId} (h : w.heap[g]? = some (.cells #[x, y, z, u] t (0, 0))) : w.cell? ⟨g, 0, none⟩ = some x ∧ w.cell? ⟨g, 1, none⟩ = some y ∧ w.cell? ⟨g, 2, none⟩ = some z ∧ w.cell? ⟨g, 3, none⟩ = some u :=
  ⟨by rw [cell_of_row _ _ _ _ _ _ h]; rfl, by rw [cell_of_row _ _ _ _ _ _ h]; rfl, by rw [cell_of_row _ _ _ _ _ _ h]; rfl, by rw [cell_of_row _ _ _ _ _ _ h]; rfl⟩
abbrev put4 (w : World) (g : Nat) (x y z u : Value) : World := (((w.setCell ⟨g, 0, none⟩ x).setCell ⟨g, 1, none⟩ y).setCell ⟨g, 2, none⟩ z).setCell ⟨g, 3, none⟩ u
theorem gb_put4 (w : World) (g : Nat) (x y z u : Value) : w.grownBy (put4 w g x y z u) (some g) := gb_trans (gb_trans (gb_trans (gb_set (g := g) rfl) (gb_set (g := g) rfl) (fun k hk => .inr hk)) (gb_set (g := g) rfl) (fun k hk => .inr hk)) (gb_set (g := g) rfl) (fun k hk => .inr hk)
theorem row4 {w : World} {g : Nat} {x y z u : Value} {t : TypeId} (h : w.heap[g]? = some (.cells #[x, y, z, u] t (0, 0))) (x' y' z' u' : Value) : (put4 w g x' y' z' u').heap[g]? = some (.cells #[x', y', z', u'] t (0, 0)) := by
  simp [put4, World.setCell, Array.getElem?_modify, h]
/-- The box of a result that is a token, in a world that has grown. -/
structure Bx (w W : World) (g : Nat) : Prop where
  row : W.heap[g]? = some (.cells #[.int .i64 0, .int .i64 0, .string ⟨#[]⟩, .int .i64 0] 52 (0, 0))
  gb : w.grownBy W none
  le : w.heap.size ≤ g
theorem Bx.made (w : World) : Bx w (w.alloc (.cells #[.int .i64 0, .int .i64 0, .string ⟨#[]⟩, .int .i64 0] 52)) w.heap.size :=
  ⟨heap_alloc_new w _, World.grownBy_alloc w _ none, Nat.le_refl _⟩
theorem Bx.lt {w W : World} {g : Nat} (h : Bx w W g) : g < W.heap.size := (Array.getElem?_eq_some_iff.1 h.row).1
theorem Bx.grown {w W W' : World} {g : Nat} {row : Option Nat} (h : Bx w W g) (hg : W.grownBy W' row) (hr : ∀ k, row = some k → w.heap.size ≤ k ∧ k ≠ g) : Bx w W' g :=
  ⟨by rw [hg.block g h.lt (fun e => (hr g e.symm).2 rfl)]; exact h.row, gb_trans h.gb hg (fun k hk => .inl (hr k hk).1), h.le⟩
/-- What a call that reads a token answers. -/
def TkOut (R : Int × ByteArray × Int × Nat) (w : World) (e : Ending) (w' : World) : Prop :=
  e = .returned (.tuple #[tokV R.1 0 R.2.1 R.2.2.1, .int .i64 (R.2.2.2 : Int)]) ∧ w.grownBy w' none
theorem tk_ret {w W : World} {g n : Nat} {k sp : Int} {t : ByteArray} {R : Int × ByteArray × Int × Nat} (h : Bx w W g) (hR : R = (k, t, sp, n)) : TkOut R w (.returned (.tuple #[.agg #[.int .i64 k, .int .i64 0, .string t, .int .i64 sp], .int .i64 (n : Int)])) (put4 W g (.int .i64 k) (.int .i64 0) (.string t) (.int .i64 sp)) := by
  subst hR
  exact ⟨rfl, gb_trans h.gb (gb_put4 _ _ _ _ _ _) (fun j hj => by cases hj; exact .inl h.le)⟩
end Go.Proofs.Ytnimdngiejcljaa

/- Runs of bytes; word. -/
namespace Go.Proofs.Ytnimdngiejcljaa
open Go.RowKit
set_option linter.unusedVariables false
set_option maxRecDepth 20000

/-- The first k bytes are of a kind. -/
def RunAt (p : Int → Bool) (l : List Int) (k : Nat) : Prop := k ≤ l.length ∧ (l.take k).all p = true
theorem RunAt.zero (p : Int → Bool) (l : List Int) : RunAt p l 0 := ⟨Nat.zero_le _, by simp⟩
theorem RunAt.next {p : Int → Bool} {l : List Int} {k : Nat} (h0 : p 0 = false) (h : RunAt p l k) (hb : p (l.getD k 0) = true) : k < l.length ∧ RunAt p l (k + 1) := by
  have hl : k < l.length := by
    by_cases hl : k < l.length
    · exact hl
    · rw [List.getD_eq_getElem?_getD, List.getElem?_eq_none (by omega), Option.getD_none, h0] at hb
      cases hb
  refine ⟨hl, hl, ?_⟩
  rw [List.getD_eq_getElem?_getD, List.getElem?_eq_getElem hl, Option.getD_some] at hb
  rw [List.take_add_one, List.getElem?_eq_getElem hl, Option.toList_some, List.all_append, h.2, List.all_cons, List.all_nil, hb]
  rfl
theorem RunAt.done {p : Int → Bool} {l : List Int} {k : Nat} (h : RunAt p l k) (hb : p (l.getD k 0) = false) : l.takeWhile p = l.take k := by
  have e : l = l.take k ++ l.drop k := (List.take_append_drop k l).symm
  conv => lhs; rw [e]
  rw [List.takeWhile_append_of_pos (fun z hz => List.all_eq_true.1 h.2 z hz)]
  by_cases hl : k < l.length
  · rw [List.getD_eq_getElem?_getD, List.getElem?_eq_getElem hl, Option.getD_some] at hb
    rw [List.drop_eq_getElem_cons hl, List.takeWhile_cons, hb]
    simp
  · rw [List.drop_eq_nil_of_le (by omega)]
    simp
theorem wb_run (c : Int) : wbB c = runB 58 c := by
  unfold wbB runB
  cases letB c <;> cases digB c <;> rfl
def wordT (s : ByteArray) (g : Nat) (k : Nat) (u : Nat → Value) : Array Value := #[.string s, undef, .pointer (some ⟨g, 0, none⟩), .int .i64 0, .int .i64 (k : Int), u 5, u 6, u 7, u 8, u 9, u 10, u 11, u 12, u 13, u 14, u 15]
def WordJ (s : ByteArray) (g : Nat) (W : World) (a' : Act) (w' : World) : Prop := ∃ (k : Nat) (u : Nat → Value), a' = { tmps := wordT s g k u, defers := [] } ∧ RunAt (runB 58) (sInts s) k ∧ w' = W
theorem wordJ {s : ByteArray} {g : Nat} {W : World} {a' : Act} {w' : World} (k : Nat) (h : a' = { tmps := wordT s g k (upon a'), defers := [] }) (h1 : RunAt (runB 58) (sInts s) k) (h2 : w' = W) : WordJ s g W a' w' := ⟨k, _, h, h1, h2⟩
def wordM (s : ByteArray) (a' : Act) (_ : World) : Nat := s.size - (intOf (a'.tmps.getD 4 undef)).toNat
set_option maxHeartbeats 1000000 in
theorem f_word (s : ByteArray) (w : World) (hs : s.size ≤ 4096) (h0 : runB 58 (byteAt s 0) = true) : Calls Try.prog 26 #[.string s] w fun e w' => TkOut (wordR (sInts s)) w e w' := by
  have HB : Hid (Bx w (w.alloc (.cells #[.int .i64 0, .int .i64 0, .string ⟨#[]⟩, .int .i64 0] 52)) w.heap.size) := Bx.made w
  have H1 : Hid (RunAt (runB 58) (sInts s) 1) := (RunAt.next (by decide) (RunAt.zero _ _) h0).2
  clear h0
  generalize hW : (w.alloc (.cells #[.int .i64 0, .int .i64 0, .string ⟨#[]⟩, .int .i64 0] 52)) = W at HB
  have HW : Hid ((w.alloc (.cells #[.int .i64 0, .int .i64 0, .string ⟨#[]⟩, .int .i64 0] 52)) = W) := hW
  clear hW
  go_enter Try.func26, Try.ntmps26
  go_wp2_with fail
  rw [HW.out]
  refine wp_scope_word (WordJ s w.heap.size W) (wordM s) rfl ?p0 ?first
  case p0 =>
    rintro a' w' ⟨k, u, rfl, hr, rfl⟩
    unfold wordT
    have HR : Hid (RunAt (runB 58) (sInts s) k) := hr
    have hk : k ≤ s.size := by have := hr.1; rw [sInts_len] at this; exact this
    clear hr H1
    have HC := f_wordByte (byteAt s k)
    rw [wb_run] at HC
    have HBA := f_byteAt s k
    cases hb : runB 58 (byteAt s k) with
    | true =>
      have HN : Hid (k < (sInts s).length ∧ RunAt (runB 58) (sInts s) (k + 1)) := HR.out.next (by decide) hb
      have hlt : k < s.size := by have := HN.out.1; rw [sInts_len] at this; exact this
      rw [hb] at HC
      clear hb
      go_wp2_with (first | (go_at_call 41; refine (HBA _).mono ?_; rintro e w1 ⟨rfl, rfl⟩) | (go_at_call 23; refine (HC _).mono ?_; rintro e w1 ⟨rfl, rfl⟩))
      go_step3
      exact ⟨wordJ (k + 1) rfl HN.out.2 rfl, by simp [sel1, wordM, intOf]; omega⟩
    | false =>
      have HD : Hid (wordR (sInts s) = (3, strOfNums ((sInts s).take k), 0, k)) := by
        show _ = _
        unfold wordR runR
        rw [HR.out.done hb, List.length_take, sInts_len, Nat.min_eq_left hk]
      rw [hb] at HC
      have hsl := sl_hi s k hk
      obtain ⟨r0, r1, r2, r3⟩ := cell4 HB.out.row
      have f0 := free_row HB.out.row 0
      have f1 := free_row HB.out.row 1
      have f2 := free_row HB.out.row 2
      have f3 := free_row HB.out.row 3
      generalize strOfNums ((sInts s).take k) = t at hsl HD
      clear hb
      go_wp2_with (first | (go_at_call 41; refine (HBA _).mono ?_; rintro e w1 ⟨rfl, rfl⟩) | (go_at_call 23; refine (HC _).mono ?_; rintro e w1 ⟨rfl, rfl⟩))
      simp only [onto, jumps]
      refine bodyPost_ret (v := .tuple #[tokV 3 0 t 0, .int .i64 (k : Int)]) (results_row_tmp Try.results26 _ _ _ w.heap.size 52 _ (0, 0) _ rfl (row4 HB.out.row (.int .i64 3) (.int .i64 0) (.string t) (.int .i64 0)) Try.underlying52 isz32) rfl ?_
      exact tk_ret HB.out HD.out
  case first =>
    intro go_on
    have GO : Hid (∀ a' w', WordJ s w.heap.size W a' w' → _) := go_on
    clear go_on
    go_wp2
    go_step3
    refine ‹∀ (a : Act) (w : World), Code.wp Try.prog _ _ a w → _› _ _ (GO.out _ _ ?_)
    exact wordJ 1 rfl H1.out rfl
end Go.Proofs.Ytnimdngiejcljaa

/- text: bytes that are gathered. -/
namespace Go.Proofs.Ytnimdngiejcljaa
open Go.RowKit
set_option linter.unusedVariables false
set_option maxRecDepth 20000

theorem hid {p : Prop} (h : p) : Hid p := h
def byteE : Elem Int where
  cells z := [.int .u8 z]
  size := 1
  pos := by decide
  len _ := rfl
  one z v h := by
    simp only [List.mem_cons, List.mem_nil_iff, or_false] at h
    subst h; rfl
theorem byteET : ElemOf byteE Try.prog 61 5 1 := by
  obtain ⟨i0, hi, hz0, hz1, hz2⟩ := info_parts info5
  exact ⟨Try.underlying61, i0, _, hi, hz0, hz1, hz2, rfl⟩
theorem byteE_flat (zs : List Int) : byteE.flat zs = zs.map (Value.int .u8) := by
  induction zs with
  | nil => rfl
  | cons z zs ih => show _ :: byteE.flat zs = _; rw [ih]; rfl
theorem srd_rd {w : World} {a : Option Addr} {l : List Int} (h : SRd byteE w a l) (hb : ∀ z ∈ l, 0 ≤ z ∧ z ≤ 255) : Rd w a l := by
  refine ⟨?_, hb⟩
  rcases h with h | ⟨b, off, e, hc⟩
  · exact .inl h
  · refine .inr ⟨b, off, e, fun i hi => hc i _ ?_⟩
    rw [byteE_flat, List.getElem?_map, List.getElem?_eq_getElem hi, List.getD_eq_getElem?_getD, List.getElem?_eq_getElem hi]
    rfl
theorem sown_slice {α : Type} {E : Elem α} {e : TypeId} {w : World} {base n : Nat} {v : Value} {l : List α} (h : SOwn E e w base v n l) : ∃ a c, v = .slice a n c := by
  rcases h.2 with ⟨h', h0⟩ | ⟨g, cap, cur, h', _⟩
  · exact ⟨none, 0, by rw [h', h0]⟩
  · exact ⟨_, _, h'⟩
theorem srd_lit {α : Type} (E : Elem α) (e : TypeId) (w : World) (l : List α) : SRd E (w.alloc (.cells (E.flat l).toArray e)) (some ⟨w.heap.size, 0, none⟩) l := by
  refine .inr ⟨w.heap.size, 0, rfl, fun j v hj => ?_⟩
  rw [Nat.zero_add, cell_of_row _ w.heap.size j _ e _ (heap_alloc_new w _)]
  simpa using hj
/-- What was gathered, and what is ahead. -/
def glue (out : List Int) (m : Nat) (x : List Int × Nat) : List Int × Nat := if x.2 = 0 then ([], 0) else (out ++ x.1, m + x.2)
theorem glue_nil (x : List Int × Nat) (h : x.2 = 0 → x.1 = []) : glue [] 0 x = x := by
  unfold glue
  obtain ⟨a, b⟩ := x
  by_cases hb : b = 0
  · subst hb; have := h rfl; simp only at this; subst this; rfl
  · rw [if_neg hb]; simp
theorem text_none (l : List Int) : (textR l).2 = 0 → (textR l).1 = [] := by
  intro h
  rw [textR.eq_def] at h ⊢
  repeat' split
  all_goals (try rfl)
  all_goals (simp_all)
/-- At byte k (from the quote on), out gathered. -/
def TxAt (l : List Int) (k : Nat) (out : List Int) : Prop := textR (l.drop 1) = glue out (k - 1) (textR (l.drop k)) ∧ 1 ≤ k ∧ out.length ≤ k ∧ ∀ z ∈ out, 0 ≤ z ∧ z ≤ 255
theorem TxAt.start (l : List Int) : TxAt l 1 [] := ⟨(glue_nil _ (text_none _)).symm, Nat.le_refl _, by simp, by simp⟩
theorem drop_cons (l : List Int) (k : Nat) (hk : k < l.length) : l.drop k = l.getD k 0 :: l.drop (k + 1) := by
  rw [List.drop_eq_getElem_cons hk, List.getD_eq_getElem?_getD, List.getElem?_eq_getElem hk, Option.getD_some]
theorem getD_end {l : List Int} {k : Nat} (h : l.getD k 0 ≠ 0) : k < l.length := by
  by_cases hk : k < l.length
  · exact hk
  · exact absurd (by rw [List.getD_eq_getElem?_getD, List.getElem?_eq_none (by omega)]; rfl) h
theorem glue_glue (out o2 : List Int) (m n : Nat) (x : List Int × Nat) : glue out m (if x.2 = 0 then ([], 0) else (o2 ++ x.1, x.2 + n)) = glue (out ++ o2) (m + n) x := by
  unfold glue
  by_cases h : x.2 = 0
  · simp [h]
  · rw [if_neg h, if_neg h]
    simp only [List.append_assoc]
    rw [if_neg (by omega)]
    congr 1
    omega
theorem TxAt.quote {l : List Int} {k : Nat} {out : List Int} (h : TxAt l k out) (hc : l.getD k 0 = 34) : textR (l.drop 1) = (out, k) ∧ k < l.length := by
  obtain ⟨h, h1, _⟩ := h
  have hk := getD_end (l := l) (k := k) (by rw [hc]; decide)
  rw [drop_cons l k hk, textR.eq_def (l.getD k 0 :: _)] at h
  simp only [] at h
  rw [if_pos hc] at h
  rw [h]
  unfold glue
  rw [if_neg (by simp)]
  simp only [List.append_nil]
  exact ⟨by congr 1; omega, hk⟩
theorem TxAt.bad {l : List Int} {k : Nat} {out : List Int} (h : TxAt l k out) (hc : l.getD k 0 ≠ 34) (hd : l.getD k 0 < 32) : (textR (l.drop 1)).2 = 0 := by
  obtain ⟨h, _⟩ := h
  rw [h]
  by_cases hk : k < l.length
  · rw [drop_cons l k hk, textR.eq_def]
    simp only []
    rw [if_neg hc, if_pos hd]
    rfl
  · rw [List.drop_eq_nil_of_le (by omega)]
    rfl
theorem TxAt.plain {l : List Int} {k : Nat} {out : List Int} (h : TxAt l k out) (hc : l.getD k 0 ≠ 34) (hd : ¬ l.getD k 0 < 32) (he : l.getD k 0 ≠ 92) (hb : l.getD k 0 ≤ 255) : k < l.length ∧ TxAt l (k + 1) (out ++ [l.getD k 0]) := by
  obtain ⟨h, h1, h2, h3⟩ := h
  have hk := getD_end (l := l) (k := k) (by omega)
  refine ⟨hk, ?_, by omega, by simp; omega, fun z hz => ?_⟩
  · rw [h, drop_cons l k hk, textR.eq_def]
    simp only []
    rw [if_neg hc, if_neg hd, if_neg he, show (l.getD k 0 :: (textR (l.drop (k + 1))).1) = [l.getD k 0] ++ (textR (l.drop (k + 1))).1 from rfl, glue_glue]
    congr 1
    omega
  · rcases List.mem_append.1 hz with h | h
    · exact h3 z h
    · simp only [List.mem_singleton] at h; subst h; omega
theorem TxAt.esc {l : List Int} {k : Nat} {out : List Int} (h : TxAt l k out) (hc : l.getD k 0 = 92) {d : Int} (hd : (l.getD (k + 1) 0 = 34 ∨ l.getD (k + 1) 0 = 92) ∧ d = l.getD (k + 1) 0 ∨ l.getD (k + 1) 0 = 110 ∧ d = 10) : k + 1 < l.length ∧ TxAt l (k + 2) (out ++ [d]) := by
  obtain ⟨h, h1, h2, h3⟩ := h
  have hk := getD_end (l := l) (k := k) (by rw [hc]; decide)
  have hk2 := getD_end (l := l) (k := k + 1) (by omega)
  refine ⟨hk2, ?_, by omega, by simp; omega, fun z hz => ?_⟩
  · rw [h, drop_cons l k hk, textR.eq_def]
    simp only []
    rw [if_neg (by omega), if_neg (by omega), if_pos hc, drop_cons l (k + 1) hk2]
    simp only []
    rcases hd with ⟨h4, rfl⟩ | ⟨h4, rfl⟩
    · rw [if_pos h4, show (l.getD (k + 1) 0 :: (textR (l.drop (k + 1 + 1))).1) = [l.getD (k + 1) 0] ++ (textR (l.drop (k + 1 + 1))).1 from rfl, glue_glue]
      congr 1
      omega
    · rw [if_neg (by omega), if_pos h4, show (10 :: (textR (l.drop (k + 1 + 1))).1) = [10] ++ (textR (l.drop (k + 1 + 1))).1 from rfl, glue_glue]
      congr 1
      omega
  · rcases List.mem_append.1 hz with h | h
    · exact h3 z h
    · simp only [List.mem_singleton] at h; subst h; omega
theorem TxAt.esc_bad {l : List Int} {k : Nat} {out : List Int} (h : TxAt l k out) (hc : l.getD k 0 = 92) (hd : l.getD (k + 1) 0 ≠ 34 ∧ l.getD (k + 1) 0 ≠ 92 ∧ l.getD (k + 1) 0 ≠ 110) : (textR (l.drop 1)).2 = 0 := by
  obtain ⟨h, _⟩ := h
  have hk := getD_end (l := l) (k := k) (by rw [hc]; decide)
  rw [h, drop_cons l k hk, textR.eq_def]
  simp only []
  rw [if_neg (by omega), if_neg (by omega), if_pos hc]
  by_cases hk2 : k + 1 < l.length
  · rw [drop_cons l (k + 1) hk2]
    simp only []
    rw [if_neg (by omega), if_neg (by omega)]
    rfl
  · rw [List.drop_eq_nil_of_le (by omega)]
    rfl
end Go.Proofs.Ytnimdngiejcljaa

/- sign: the longest sign of a row. -/
namespace Go.Proofs.Ytnimdngiejcljaa
open Go.RowKit
set_option linter.unusedVariables false
set_option maxRecDepth 20000

/-- Whether a text begins with another one. -/
def preB (s t : ByteArray) : Bool := decide ((sInts s).take t.size = sInts t)
theorem sInts_inj {s t : ByteArray} (h : sInts s = sInts t) : s = t := str_inj h
theorem g_prefix (s t : ByteArray) (w : World) (hs : s.size ≤ 4096) (ht : t.size ≤ 4096) : Calls Try.prog 47 #[.string s, .string t] w fun e w' => e = .returned (.bool (preB s t)) ∧ w = w' := by
  by_cases h : t.size ≤ s.size
  · have hi : (t.size : Int) ≤ (s.size : Int) := by omega
    have q1 : decide ((t.size : Int) ≤ (s.size : Int)) = true := by simpa using hi
    have hsl := sl_hi s t.size h
    have HE : Hid (((strOfNums ((sInts s).take t.size)).toList == t.toList) = preB s t) := by
      show _ = _
      rw [str_eq]
      unfold preB
      congr 1
      rw [eq_iff_iff]
      constructor
      · intro e
        have h2 := congrArg sInts e
        rw [sInts_str (fun z hz => sInts_byte s z (List.mem_of_mem_take hz))] at h2
        exact h2
      · intro e
        rw [e, str_self]
    have he := HE.out
    generalize strOfNums ((sInts s).take t.size) = u at hsl he HE
    generalize preB s t = b at HE he
    clear h
    go_enter Try.func47, Try.ntmps47
    go_wp2
    go_ret
    exact ⟨rfl, rfl⟩
  · have q1 : decide ((t.size : Int) ≤ (s.size : Int)) = false := by simp; omega
    have hp : preB s t = false := by
      unfold preB
      rw [decide_eq_false_iff_not]
      intro e
      have := congrArg List.length e
      rw [List.length_take, sInts_len, sInts_len] at this
      omega
    rw [hp]
    have hi : ¬ (t.size : Int) ≤ (s.size : Int) := by omega
    go_enter Try.func47, Try.ntmps47
    go_wp2
    go_ret
    exact ⟨rfl, rfl⟩
theorem g_hasPrefix (s t : ByteArray) (w : World) (hs : s.size ≤ 4096) (ht : t.size ≤ 4096) : Calls Try.prog 40 #[.string s, .string t] w fun e w' => e = .returned (.bool (preB s t)) ∧ w = w' := by
  have HC := g_prefix s t w hs ht
  go_enter Try.func40, Try.ntmps40
  go_wp2_with (refine HC.mono ?_; rintro e w1 ⟨rfl, rfl⟩)
  go_ret
  exact ⟨rfl, rfl⟩
def bOf (l : List UInt8) : ByteArray := ⟨l.toArray⟩
/-- The row of signs. -/
def sgs : List ByteArray := [⟨#[61, 61]⟩, ⟨#[33, 61]⟩, ⟨#[60, 61]⟩, ⟨#[62, 61]⟩, ⟨#[61, 126]⟩, ⟨#[33, 126]⟩, ⟨#[60]⟩, ⟨#[62]⟩, ⟨#[61]⟩, ⟨#[43]⟩, ⟨#[45]⟩, ⟨#[42]⟩, ⟨#[47]⟩, ⟨#[40]⟩, ⟨#[41]⟩, ⟨#[123]⟩, ⟨#[125]⟩, ⟨#[91]⟩, ⟨#[93]⟩, ⟨#[44]⟩]
/-- What the row tells from a place on. -/
def sgFrom (s : ByteArray) : List ByteArray → Int × ByteArray × Int × Nat
  | [] => (0, ⟨#[]⟩, 0, 0)
  | x :: r => if preB s x = true then (5, x, 0, x.size) else sgFrom s r
theorem pre1 (s : ByteArray) (c d : Int) (r : List Int) (hs : sInts s = c :: d :: r) (x : ByteArray) (a : Int) (hx : sInts x = [a]) : preB s x = decide (c = a) := by
  have hn : x.size = 1 := by rw [← sInts_len, hx]; rfl
  unfold preB
  rw [hs, hx, hn]
  simp
theorem pre1' (s : ByteArray) (c : Int) (hs : sInts s = [c]) (x : ByteArray) (a : Int) (hx : sInts x = [a]) : preB s x = decide (c = a) := by
  have hn : x.size = 1 := by rw [← sInts_len, hx]; rfl
  unfold preB
  rw [hs, hx, hn]
  simp
theorem pre2 (s : ByteArray) (c d : Int) (r : List Int) (hs : sInts s = c :: d :: r) (x : ByteArray) (a b : Int) (hx : sInts x = [a, b]) : preB s x = decide (c = a ∧ d = b) := by
  have hn : x.size = 2 := by rw [← sInts_len, hx]; rfl
  unfold preB
  rw [hs, hx, hn]
  simp
theorem pre2' (s : ByteArray) (c : Int) (hs : sInts s = [c]) (x : ByteArray) (a b : Int) (hx : sInts x = [a, b]) : preB s x = false := by
  have hn : x.size = 2 := by rw [← sInts_len, hx]; rfl
  unfold preB
  rw [hs, hx, hn]
  simp
theorem sg_eq (s : ByteArray) (h0 : 1 ≤ s.size) : sgFrom s sgs = sgnR (sInts s) := by
  match hs : sInts s with
  | [] => have := sInts_len s; rw [hs] at this; simp at this; omega
  | [c] =>
    unfold sgs
    have g0 := pre2' s c hs ⟨#[61, 61]⟩ 61 61 rfl
    have g1 := pre2' s c hs ⟨#[33, 61]⟩ 33 61 rfl
    have g2 := pre2' s c hs ⟨#[60, 61]⟩ 60 61 rfl
    have g3 := pre2' s c hs ⟨#[62, 61]⟩ 62 61 rfl
    have g4 := pre2' s c hs ⟨#[61, 126]⟩ 61 126 rfl
    have g5 := pre2' s c hs ⟨#[33, 126]⟩ 33 126 rfl
    have k0 := pre1' s c hs ⟨#[60]⟩ 60 rfl
    have k1 := pre1' s c hs ⟨#[62]⟩ 62 rfl
    have k2 := pre1' s c hs ⟨#[61]⟩ 61 rfl
    have k3 := pre1' s c hs ⟨#[43]⟩ 43 rfl
    have k4 := pre1' s c hs ⟨#[45]⟩ 45 rfl
    have k5 := pre1' s c hs ⟨#[42]⟩ 42 rfl
    have k6 := pre1' s c hs ⟨#[47]⟩ 47 rfl
    have k7 := pre1' s c hs ⟨#[40]⟩ 40 rfl
    have k8 := pre1' s c hs ⟨#[41]⟩ 41 rfl
    have k9 := pre1' s c hs ⟨#[123]⟩ 123 rfl
    have k10 := pre1' s c hs ⟨#[125]⟩ 125 rfl
    have k11 := pre1' s c hs ⟨#[91]⟩ 91 rfl
    have k12 := pre1' s c hs ⟨#[93]⟩ 93 rfl
    have k13 := pre1' s c hs ⟨#[44]⟩ 44 rfl
    simp only [sgFrom, g0, g1, g2, g3, g4, g5, k0, k1, k2, k3, k4, k5, k6, k7, k8, k9, k10, k11, k12, k13]
    clear g0 g1 g2 g3 g4 g5 k0 k1 k2 k3 k4 k5 k6 k7 k8 k9 k10 k11 k12 k13
    unfold sgnR signN sign1
    simp only [Bool.false_eq_true, if_false, decide_eq_true_eq, Bool.or_eq_true, or_assoc]
    by_cases h1 : c = 60; · subst h1; rfl
    by_cases h2 : c = 62; · subst h2; rfl
    by_cases h3 : c = 61; · subst h3; rfl
    by_cases h4 : c = 43; · subst h4; rfl
    by_cases h5 : c = 45; · subst h5; rfl
    by_cases h6 : c = 42; · subst h6; rfl
    by_cases h7 : c = 47; · subst h7; rfl
    by_cases h8 : c = 40; · subst h8; rfl
    by_cases h9 : c = 41; · subst h9; rfl
    by_cases h10 : c = 123; · subst h10; rfl
    by_cases h11 : c = 125; · subst h11; rfl
    by_cases h12 : c = 91; · subst h12; rfl
    by_cases h13 : c = 93; · subst h13; rfl
    by_cases h14 : c = 44; · subst h14; rfl
    simp [h1, h2, h3, h4, h5, h6, h7, h8, h9, h10, h11, h12, h13, h14]
  | c :: d :: r =>
    unfold sgs
    have g0 := pre2 s c d r hs ⟨#[61, 61]⟩ 61 61 rfl
    have g1 := pre2 s c d r hs ⟨#[33, 61]⟩ 33 61 rfl
    have g2 := pre2 s c d r hs ⟨#[60, 61]⟩ 60 61 rfl
    have g3 := pre2 s c d r hs ⟨#[62, 61]⟩ 62 61 rfl
    have g4 := pre2 s c d r hs ⟨#[61, 126]⟩ 61 126 rfl
    have g5 := pre2 s c d r hs ⟨#[33, 126]⟩ 33 126 rfl
    have k0 := pre1 s c d r hs ⟨#[60]⟩ 60 rfl
    have k1 := pre1 s c d r hs ⟨#[62]⟩ 62 rfl
    have k2 := pre1 s c d r hs ⟨#[61]⟩ 61 rfl
    have k3 := pre1 s c d r hs ⟨#[43]⟩ 43 rfl
    have k4 := pre1 s c d r hs ⟨#[45]⟩ 45 rfl
    have k5 := pre1 s c d r hs ⟨#[42]⟩ 42 rfl
    have k6 := pre1 s c d r hs ⟨#[47]⟩ 47 rfl
    have k7 := pre1 s c d r hs ⟨#[40]⟩ 40 rfl
    have k8 := pre1 s c d r hs ⟨#[41]⟩ 41 rfl
    have k9 := pre1 s c d r hs ⟨#[123]⟩ 123 rfl
    have k10 := pre1 s c d r hs ⟨#[125]⟩ 125 rfl
    have k11 := pre1 s c d r hs ⟨#[91]⟩ 91 rfl
    have k12 := pre1 s c d r hs ⟨#[93]⟩ 93 rfl
    have k13 := pre1 s c d r hs ⟨#[44]⟩ 44 rfl
    simp only [sgFrom, g0, g1, g2, g3, g4, g5, k0, k1, k2, k3, k4, k5, k6, k7, k8, k9, k10, k11, k12, k13]
    clear g0 g1 g2 g3 g4 g5 k0 k1 k2 k3 k4 k5 k6 k7 k8 k9 k10 k11 k12 k13
    unfold sgnR signN
    by_cases ha : sign2 c d = true
    · simp only [if_pos ha]
      unfold sign2 at ha
      simp only [Bool.or_eq_true, decide_eq_true_eq, or_assoc] at ha
      rcases ha with ⟨rfl, rfl⟩ | ⟨rfl, rfl⟩ | ⟨rfl, rfl⟩ | ⟨rfl, rfl⟩ | ⟨rfl, rfl⟩ | ⟨rfl, rfl⟩ <;> rfl
    · simp only [if_neg ha]
      unfold sign2 at ha
      simp only [Bool.or_eq_true, decide_eq_true_eq, or_assoc, not_or] at ha
      obtain ⟨a1, a2, a3, a4, a5, a6⟩ := ha
      simp only [if_neg a1, if_neg a2, if_neg a3, if_neg a4, if_neg a5, if_neg a6, decide_eq_true_eq]
      unfold sign1
      simp only [decide_eq_true_eq, Bool.or_eq_true, or_assoc]
      clear a1 a2 a3 a4 a5 a6
      by_cases h1 : c = 60; · subst h1; rfl
      by_cases h2 : c = 62; · subst h2; rfl
      by_cases h3 : c = 61; · subst h3; rfl
      by_cases h4 : c = 43; · subst h4; rfl
      by_cases h5 : c = 45; · subst h5; rfl
      by_cases h6 : c = 42; · subst h6; rfl
      by_cases h7 : c = 47; · subst h7; rfl
      by_cases h8 : c = 40; · subst h8; rfl
      by_cases h9 : c = 41; · subst h9; rfl
      by_cases h10 : c = 123; · subst h10; rfl
      by_cases h11 : c = 125; · subst h11; rfl
      by_cases h12 : c = 91; · subst h12; rfl
      by_cases h13 : c = 93; · subst h13; rfl
      by_cases h14 : c = 44; · subst h14; rfl
      simp [h1, h2, h3, h4, h5, h6, h7, h8, h9, h10, h11, h12, h13, h14]
end Go.Proofs.Ytnimdngiejcljaa

/- sign: the walk. -/
namespace Go.Proofs.Ytnimdngiejcljaa
open Go.RowKit
set_option linter.unusedVariables false
set_option maxRecDepth 20000

def sgV : Array Value := (sgs.map Value.string).toArray
theorem sg_idx (k : Nat) (x : ByteArray) (hx : sgs[k]? = some x) (w : World) : (Instr.index 66 (.agg sgV) (.int .i64 (k : Int))).run Try.prog w = .ok (.string x) w := by
  have hk : k < 20 := (List.getElem?_eq_some_iff.1 hx).1
  have h : ∀ j : Fin 20, (Instr.index 66 (.agg sgV) (.int .i64 (j.val : Int))).run Try.prog w = .ok (.string (sgs[j.val]'j.isLt)) w := by
    intro j
    have e : sgV[j.val]? = some (.string (sgs[j.val]'j.isLt)) := by
      unfold sgV
      rw [List.getElem?_toArray, List.getElem?_map, List.getElem?_eq_getElem j.isLt]
      rfl
    simp [Instr.index, run_underlying Try.underlying66, asIntOf, go_sem, e]
  have := h ⟨k, hk⟩
  rw [List.getElem?_eq_getElem hk] at hx
  rw [this, ← Option.some.inj hx]
theorem sg_size (k : Nat) (x : ByteArray) (hx : sgs[k]? = some x) : 1 ≤ x.size ∧ x.size ≤ 2 := by
  have hk : k < 20 := (List.getElem?_eq_some_iff.1 hx).1
  have h : ∀ y ∈ sgs, 1 ≤ y.size ∧ y.size ≤ 2 := by decide
  exact h x (List.mem_of_getElem? hx)
set_option maxHeartbeats 2000000 in
theorem f_sign (s : ByteArray) (w : World) (hs : s.size ≤ 4096) (h0 : 1 ≤ s.size) : Calls Try.prog 24 #[.string s] w fun e w' => TkOut (sgnR (sInts s)) w e w' := by
  have HB : Hid (Bx w (w.alloc (.cells #[.int .i64 0, .int .i64 0, .string ⟨#[]⟩, .int .i64 0] 52)) w.heap.size) := Bx.made w
  have HR : Hid (sgFrom s (sgs.drop 0) = sgnR (sInts s)) := sg_eq s h0
  generalize sgnR (sInts s) = R at HR ⊢
  generalize hW : (w.alloc (.cells #[.int .i64 0, .int .i64 0, .string ⟨#[]⟩, .int .i64 0] 52)) = W at HB
  have HW : Hid ((w.alloc (.cells #[.int .i64 0, .int .i64 0, .string ⟨#[]⟩, .int .i64 0] 52)) = W) := hW
  clear hW
  generalize hG : w.heap.size = G at HB
  have HG : Hid (w.heap.size = G) := hG
  clear hG
  have HI : Hid (∀ (k : Nat) (x : ByteArray), sgs[k]? = some x → ∀ w, (Instr.index 66 (.agg #[.string ⟨#[61, 61]⟩, .string ⟨#[33, 61]⟩, .string ⟨#[60, 61]⟩, .string ⟨#[62, 61]⟩, .string ⟨#[61, 126]⟩, .string ⟨#[33, 126]⟩, .string ⟨#[60]⟩, .string ⟨#[62]⟩, .string ⟨#[61]⟩, .string ⟨#[43]⟩, .string ⟨#[45]⟩, .string ⟨#[42]⟩, .string ⟨#[47]⟩, .string ⟨#[40]⟩, .string ⟨#[41]⟩, .string ⟨#[123]⟩, .string ⟨#[125]⟩, .string ⟨#[91]⟩, .string ⟨#[93]⟩, .string ⟨#[44]⟩]) (.int .i64 (k : Int))).run Try.prog w = .ok (.string x) w) := fun k x hx w => sg_idx k x hx w
  go_enter Try.func24, Try.ntmps24
  go_upto_region 1 with fail
  rw [HW.out, HG.out]
  go_wp2_with fail
  generalize (#[.string ⟨#[61, 61]⟩, .string ⟨#[33, 61]⟩, .string ⟨#[60, 61]⟩, .string ⟨#[62, 61]⟩, .string ⟨#[61, 126]⟩, .string ⟨#[33, 126]⟩, .string ⟨#[60]⟩, .string ⟨#[62]⟩, .string ⟨#[61]⟩, .string ⟨#[43]⟩, .string ⟨#[45]⟩, .string ⟨#[42]⟩, .string ⟨#[47]⟩, .string ⟨#[40]⟩, .string ⟨#[41]⟩, .string ⟨#[123]⟩, .string ⟨#[125]⟩, .string ⟨#[91]⟩, .string ⟨#[93]⟩, .string ⟨#[44]⟩] : Array Value) = A at HI ⊢
  go_loopw [7] (fun t7 wr => ∃ k : Nat, k ≤ 20 ∧ t7 = .int .i64 (k : Int) ∧ sgFrom s (sgs.drop k) = R ∧ wr = W) (fun t7 _ => 20 - (intOf t7).toNat)
  case atStart => exact ⟨0, by omega, rfl, HR.out, rfl⟩
  case round =>
    obtain ⟨k, hk, rfl, hr, rfl⟩ := hrel
    have HK : Hid (sgFrom s (sgs.drop k) = R) := hr
    clear hr HR
    by_cases hlt : k < 20
    · have hki : (k : Int) < 20 := by omega
      obtain ⟨x, ex⟩ : ∃ x, sgs[k]? = some x := ⟨_, List.getElem?_eq_getElem hlt⟩
      have hidx := HI.out k x ex
      have hxs := sg_size k x ex
      have hpx := g_hasPrefix s x wr hs (by omega)
      have HX : Hid ((if preB s x = true then (5, x, 0, x.size) else sgFrom s (sgs.drop (k + 1))) = R) := by
        show _ = _
        rw [← HK.out]
        have hl : k < sgs.length := hlt
        rw [List.drop_eq_getElem_cons hl, show sgs[k] = x from by rw [List.getElem?_eq_getElem hl] at ex; exact Option.some.inj ex, sgFrom]
      clear ex HK
      cases hb : preB s x with
      | true =>
        have HX2 : Hid (R = (5, x, 0, x.size)) := by show _ = _; rw [← HX.out, if_pos hb]
        rw [hb] at hpx
        obtain ⟨r0, r1, r2, r3⟩ := cell4 HB.out.row
        have f0 := free_row HB.out.row 0
        have f1 := free_row HB.out.row 1
        have f2 := free_row HB.out.row 2
        have f3 := free_row HB.out.row 3
        generalize hn : x.size = n at HX2 hxs
        clear hb HX HI
        go_wp2_with (go_at_call 40; refine hpx.mono ?_; rintro e w1 ⟨rfl, rfl⟩)
        refine bodyPost_ret (v := .tuple #[tokV 5 0 x 0, .int .i64 (n : Int)]) (results_row_tmp Try.results24 _ _ _ G 52 _ (0, 0) _ rfl (row4 HB.out.row (.int .i64 5) (.int .i64 0) (.string x) (.int .i64 0)) Try.underlying52 isz32) rfl ?_
        exact tk_ret HB.out HX2.out
      | false =>
        have HX2 : Hid (sgFrom s (sgs.drop (k + 1)) = R) := by show _ = _; rw [← HX.out, if_neg (by rw [hb]; simp)]
        rw [hb] at hpx
        clear hb HX HI
        go_wp2_with (go_at_call 40; refine hpx.mono ?_; rintro e w1 ⟨rfl, rfl⟩)
        go_roundw
        case rel => exact ⟨k + 1, by omega, by go_num, HX2.out, trivial⟩
        case measure => simp [intOf]; omega
    · have hki : ¬ (k : Int) < 20 := by omega
      have HX2 : Hid (R = (0, ⟨#[]⟩, 0, 0)) := by
        show _ = _
        rw [← HK.out, List.drop_eq_nil_of_le (by show 20 ≤ k; omega)]
        rfl
      obtain ⟨r0, r1, r2, r3⟩ := cell4 HB.out.row
      have f0 := free_row HB.out.row 0
      have f1 := free_row HB.out.row 1
      have f2 := free_row HB.out.row 2
      have f3 := free_row HB.out.row 3
      clear HK HI
      go_wp2_with fail
      refine bodyPost_ret (v := .tuple #[tokV 0 0 ⟨#[]⟩ 0, .int .i64 (0 : Int)]) (results_row_tmp Try.results24 _ _ _ G 52 _ (0, 0) _ rfl (row4 HB.out.row (.int .i64 0) (.int .i64 0) (.string ⟨#[]⟩) (.int .i64 0)) Try.underlying52 isz32) rfl ?_
      exact tk_ret (n := 0) HB.out HX2.out
end Go.Proofs.Ytnimdngiejcljaa

/- Numbers: what a run says, told by its digits. -/
namespace Go.Proofs.Ytnimdngiejcljaa
open Go.RowKit
set_option linter.unusedVariables false
set_option maxRecDepth 20000

theorem dig_run {c : Int} (h : digB c = true) (m : Int) : runB m c = true := by unfold runB; rw [h]; rfl
theorem all_tw {p q : Int → Bool} (hpq : ∀ c, p c = true → q c = true) (l : List Int) (k : Nat) (h : RunAt p l k) : l.takeWhile q = l.take k ++ (l.drop k).takeWhile q := by
  conv => lhs; rw [← List.take_append_drop k l]
  rw [List.takeWhile_append_of_pos (fun z hz => hpq z (List.all_eq_true.1 h.2 z hz))]
theorem whole_iff (l : List Int) : wholeB l = true ↔ l.all digB = true ∧ l ≠ [] ∧ (l.length = 1 ∨ l.getD 0 0 ≠ 48) := by
  unfold wholeB
  simp only [Bool.and_eq_true, Bool.or_eq_true, decide_eq_true_eq, and_assoc]
/-- The digits ahead, D of them; what is behind is no digit. -/
structure DigAt (l : List Int) (D : Nat) : Prop where
  run : RunAt digB l D
  pos : 1 ≤ D
  stop : digB (l.getD D 0) = false
theorem take_get {l : List Int} {D : Nat} (hD : 1 ≤ D) (h : D ≤ l.length) : (l.take D).getD 0 0 = l.getD 0 0 := by
  rw [List.getD_eq_getElem?_getD, List.getD_eq_getElem?_getD, List.getElem?_take_of_lt (by omega)]
theorem take_len {l : List Int} {D : Nat} (h : D ≤ l.length) : (l.take D).length = D := by rw [List.length_take]; omega
theorem unit_dig {c : Int} (h : digB c = true) : unitR c = 0 := by
  unfold digB at h
  simp only [Bool.and_eq_true, decide_eq_true_eq] at h
  unfold unitR
  rw [if_neg (by omega), if_neg (by omega), if_neg (by omega), if_neg (by omega)]
theorem dig_dot : digB 46 = false := by decide
theorem let_dig {c : Int} (h : letB c = true) : digB c = false ∧ c ≠ 46 := by
  unfold letB at h
  simp only [Bool.or_eq_true, Bool.and_eq_true, decide_eq_true_eq] at h
  unfold digB
  simp only [Bool.and_eq_false_iff, decide_eq_false_iff_not]
  omega
theorem head_take {l : List Int} (R : List Int) (D : Nat) (hr : RunAt digB l D) (hl : R.take D = l.take D) (hs : D < R.length → R.getD D 0 = 46) : headR R = l.take D := by
  unfold headR
  have e : R = l.take D ++ R.drop D := by rw [← hl, List.take_append_drop]
  have hne : ∀ z ∈ l.take D, decide (z ≠ 46) = true := fun z hz => by
    have := List.all_eq_true.1 hr.2 z hz
    unfold digB at this
    simp only [Bool.and_eq_true, decide_eq_true_eq] at this
    simp only [decide_eq_true_eq]
    omega
  rw [e, List.takeWhile_append_of_pos hne]
  by_cases h : D < R.length
  · rw [drop_cons R D h, hs h, List.takeWhile_cons]
    simp
  · rw [List.drop_eq_nil_of_le (by omega)]
    simp
/-- A nought ahead of digits. -/
theorem num_nought {l : List Int} {D : Nat} (h : DigAt l D) (h0 : l.getD 0 0 = 48) (hD : 1 < D) : numR l = (0, ⟨#[]⟩, 0, 0) := by
  have hr : runR 46 l = l.take D ++ (l.drop D).takeWhile (runB 46) := all_tw (fun c hc => dig_run hc 46) l D h.run
  have hl := take_len h.run.1
  have hw : ∀ m, D ≤ m → wholeB ((runR 46 l).take m) = false := fun m hm => by
    rw [Bool.eq_false_iff]
    intro hx
    obtain ⟨_, _, h3⟩ := (whole_iff _).1 hx
    have e1 : ((runR 46 l).take m).getD 0 0 = 48 := by
      rw [hr, List.getD_eq_getElem?_getD, List.getElem?_take_of_lt (by omega), List.getElem?_append_left (by omega), ← List.getD_eq_getElem?_getD, take_get (by omega) h.run.1, h0]
    have e2 : 2 ≤ ((runR 46 l).take m).length := by
      rw [List.length_take, hr, List.length_append, hl]
      omega
    rw [e1] at h3
    omega
  have hlen : (runR 46 l).length = D + ((l.drop D).takeWhile (runB 46)).length := by rw [hr, List.length_append, hl]
  have hS : spanR (runR 46 l) = 0 := by
    unfold spanR
    by_cases hx : 2 ≤ (runR 46 l).length ∧ (runR 46 l).length ≤ 11 ∧ wholeB ((runR 46 l).take ((runR 46 l).length - 1)) = true
    · by_cases hD2 : D ≤ (runR 46 l).length - 1
      · rw [hw _ hD2] at hx; simp at hx
      · have e0 : (l.drop D).takeWhile (runB 46) = [] := List.eq_nil_of_length_eq_zero (by omega)
        rw [e0, List.append_nil] at hr
        have hu : unitR ((runR 46 l).getD ((runR 46 l).length - 1) 0) = 0 := by
          refine unit_dig ?_
          rw [hr, hl, List.getD_eq_getElem?_getD, List.getElem?_eq_getElem (by omega), Option.getD_some]
          exact List.all_eq_true.1 h.run.2 _ (List.getElem_mem _)
        rw [if_pos hx, hu, if_neg (by omega)]
    · rw [if_neg hx]
  have hN : numB (runR 46 l) = false := by
    unfold numB
    have : wholeB (headR (runR 46 l)) = false := by
      have hp : ∃ m, D ≤ m ∧ headR (runR 46 l) = (runR 46 l).take m := by
        have hh : headR (runR 46 l) = l.take D ++ headR ((l.drop D).takeWhile (runB 46)) := by
          unfold headR
          conv => lhs; rw [hr]
          rw [List.takeWhile_append_of_pos (fun z hz => by
            have := List.all_eq_true.1 h.run.2 z hz
            unfold digB at this
            simp only [Bool.and_eq_true, decide_eq_true_eq] at this
            simp only [decide_eq_true_eq]
            omega)]
        refine ⟨(headR (runR 46 l)).length, by rw [hh, List.length_append, hl]; omega, ?_⟩
        have hpre : headR (runR 46 l) <+: runR 46 l := List.takeWhile_prefix _
        exact List.prefix_iff_eq_take.1 hpre
      obtain ⟨m, hm, e⟩ := hp
      rw [e]
      exact hw m hm
    rw [this]
    rfl
  unfold numR
  rw [hS, hN, if_neg (by omega), if_neg (by simp)]
end Go.Proofs.Ytnimdngiejcljaa

/- Numbers: the four ways. -/
namespace Go.Proofs.Ytnimdngiejcljaa
open Go.RowKit
set_option linter.unusedVariables false
set_option maxRecDepth 20000

/-- What is known of the run where its first m bytes are. -/
theorem run_pre {l : List Int} {m : Nat} (h : RunAt (runB 46) l m) : m ≤ (runR 46 l).length ∧ (runR 46 l).take m = l.take m ∧ ∀ i, i < m → (runR 46 l).getD i 0 = l.getD i 0 := by
  have e : runR 46 l = l.take m ++ (l.drop m).takeWhile (runB 46) := all_tw (fun c hc => hc) l m h
  have hl := take_len h.1
  refine ⟨by rw [e, List.length_append]; omega, by rw [e, List.take_append_of_le_length (by omega), List.take_of_length_le (by omega)], fun i hi => ?_⟩
  rw [e, List.getD_eq_getElem?_getD, List.getD_eq_getElem?_getD, List.getElem?_append_left (by omega), List.getElem?_take_of_lt hi]
theorem run_stop {l : List Int} {m : Nat} (h : RunAt (runB 46) l m) (hs : runB 46 (l.getD m 0) = false) : runR 46 l = l.take m := h.done hs
theorem dig_runAt {l : List Int} {D : Nat} (h : RunAt digB l D) : RunAt (runB 46) l D := ⟨h.1, List.all_eq_true.2 fun z hz => dig_run (List.all_eq_true.1 h.2 z hz) 46⟩
theorem not_all {R : List Int} {i : Nat} (hi : i < R.length) (h : digB (R.getD i 0) = false) (k : Nat) (hk : i < k) : (R.take k).all digB = false := by
  rw [Bool.eq_false_iff]
  intro hx
  have := List.all_eq_true.1 hx R[i] (by rw [List.mem_take_iff_getElem]; exact ⟨i, by omega, rfl⟩)
  rw [List.getD_eq_getElem?_getD, List.getElem?_eq_getElem hi, Option.getD_some, this] at h
  cases h
theorem not_all_drop {R : List Int} {i k : Nat} (hi : i < R.length) (h : digB (R.getD i 0) = false) (hk : k ≤ i) : (R.drop k).all digB = false := by
  rw [Bool.eq_false_iff]
  intro hx
  have := List.all_eq_true.1 hx R[i] (by rw [List.mem_drop_iff_getElem]; exact ⟨i - k, by omega, by congr 1; omega⟩)
  rw [List.getD_eq_getElem?_getD, List.getElem?_eq_getElem hi, Option.getD_some, this] at h
  cases h
theorem not_whole {R : List Int} (h : R.all digB = false) : wholeB R = false := by unfold wholeB; rw [h]; rfl
/-- No span: its last byte is no unit, or there is one ahead that is no digit. -/
theorem span_not {R : List Int} {i : Nat} (hi : i < R.length) (h : digB (R.getD i 0) = false) (h2 : i + 1 = R.length → unitR (R.getD i 0) = 0) : spanR R = 0 := by
  unfold spanR
  by_cases hx : 2 ≤ R.length ∧ R.length ≤ 11 ∧ wholeB (R.take (R.length - 1)) = true
  · by_cases hl : i + 1 = R.length
    · rw [if_pos hx, show R.length - 1 = i by omega, h2 hl, if_neg (by omega)]
    · rw [not_whole (not_all hi h _ (by omega))] at hx
      simp at hx
  · rw [if_neg hx]
theorem span_digs {R : List Int} (h : R.all digB = true) : spanR R = 0 := by
  unfold spanR
  by_cases hx : 2 ≤ R.length ∧ R.length ≤ 11 ∧ wholeB (R.take (R.length - 1)) = true
  · have hu : unitR (R.getD (R.length - 1) 0) = 0 := by
      refine unit_dig ?_
      rw [List.getD_eq_getElem?_getD, List.getElem?_eq_getElem (by omega), Option.getD_some]
      exact List.all_eq_true.1 h _ (List.getElem_mem _)
    rw [if_pos hx, hu, if_neg (by omega)]
  · rw [if_neg hx]
theorem whole_digs {l : List Int} {D : Nat} (h : DigAt l D) (hz : ¬ (l.getD 0 0 = 48 ∧ 1 < D)) : wholeB (l.take D) = true := by
  have hl := take_len h.run.1
  have hp := h.pos
  rw [whole_iff, take_get hp h.run.1, hl]
  refine ⟨h.run.2, fun e => ?_, by omega⟩
  rw [e] at hl
  simp at hl
  omega
theorem num_none {l : List Int} (h1 : spanR (runR 46 l) = 0) (h2 : numB (runR 46 l) = false) : numR l = (0, ⟨#[]⟩, 0, 0) := by
  unfold numR
  rw [h1, h2, if_neg (by omega), if_neg (by simp)]
/-- Digits alone. -/
theorem num_plain {l : List Int} {D : Nat} (h : DigAt l D) (hz : ¬ (l.getD 0 0 = 48 ∧ 1 < D)) (hc : runB 46 (l.getD D 0) = false) : numR l = if D ≤ 15 then (1, strOfNums (l.take D), 0, D) else (0, ⟨#[]⟩, 0, 0) := by
  have hR := run_stop (dig_runAt h.run) hc
  have hl := take_len h.run.1
  have hS : spanR (runR 46 l) = 0 := by rw [hR]; exact span_digs h.run.2
  have hH : headR (l.take D) = l.take D := head_take (l := l) (l.take D) D h.run (by rw [List.take_take, Nat.min_self]) (fun hx => by omega)
  have hN : numB (runR 46 l) = decide (D ≤ 15) := by
    unfold numB
    rw [hR, hH, if_pos rfl, hl, whole_digs h hz]
    rfl
  unfold numR
  rw [hS, if_neg (by omega), hN, hR, hl]
  by_cases hd : D ≤ 15
  · rw [if_pos (by simpa using hd), if_pos hd]
  · rw [if_neg (by simpa using hd), if_neg hd]
/-- Digits, a dot, and what is behind up to F. -/
structure FracAt (l : List Int) (D F : Nat) : Prop where
  dig : DigAt l D
  dot : l.getD D 0 = 46
  lo : D + 1 ≤ F
  hi : F ≤ l.length
  all : ((l.take F).drop (D + 1)).all digB = true
theorem dot_lt {l : List Int} {D : Nat} (h : l.getD D 0 = 46) : D < l.length := getD_end (by rw [h]; decide)
theorem FracAt.start {l : List Int} {D : Nat} (h : DigAt l D) (hd : l.getD D 0 = 46) : FracAt l D (D + 1) := by
  have := dot_lt hd
  refine ⟨h, hd, Nat.le_refl _, this, ?_⟩
  rw [List.drop_eq_nil_of_le (by rw [List.length_take]; omega)]
  rfl
theorem FracAt.next {l : List Int} {D F : Nat} (h : FracAt l D F) (hd : digB (l.getD F 0) = true) : F < l.length ∧ FracAt l D (F + 1) := by
  have hF : F < l.length := by
    by_cases hl : F < l.length
    · exact hl
    · rw [List.getD_eq_getElem?_getD, List.getElem?_eq_none (by omega)] at hd
      simp [digB] at hd
  refine ⟨hF, h.dig, h.dot, by have := h.lo; omega, hF, ?_⟩
  have hlo := h.lo
  rw [List.getD_eq_getElem?_getD, List.getElem?_eq_getElem hF, Option.getD_some] at hd
  rw [List.take_add_one, List.getElem?_eq_getElem hF, Option.toList_some, List.drop_append_of_le_length (by rw [List.length_take]; omega), List.all_append, h.all, List.all_cons, List.all_nil, hd]
  rfl
theorem FracAt.run {l : List Int} {D F : Nat} (h : FracAt l D F) : RunAt (runB 46) l F := by
  refine ⟨h.hi, List.all_eq_true.2 fun z hz => ?_⟩
  rw [List.mem_take_iff_getElem] at hz
  obtain ⟨i, hi, rfl⟩ := hz
  by_cases h1 : i < D
  · exact dig_run (List.all_eq_true.1 h.dig.run.2 _ (by rw [List.mem_take_iff_getElem]; exact ⟨i, by omega, rfl⟩)) 46
  · by_cases h2 : i = D
    · subst h2
      have := h.dot
      rw [List.getD_eq_getElem?_getD, List.getElem?_eq_getElem (by omega), Option.getD_some] at this
      rw [this]
      decide
    · refine dig_run (List.all_eq_true.1 h.all _ ?_) 46
      rw [List.mem_drop_iff_getElem]
      refine ⟨i - (D + 1), by rw [List.length_take]; omega, ?_⟩
      rw [List.getElem_take]
      congr 1
      omega
theorem FracAt.facts {l : List Int} {D F : Nat} (h : FracAt l D F) : spanR (runR 46 l) = 0 ∧ headR (runR 46 l) = l.take D ∧ D < (runR 46 l).length := by
  obtain ⟨h1, h2, h3⟩ := run_pre h.run
  have hlo := h.lo
  have hg : (runR 46 l).getD D 0 = 46 := by rw [h3 D (by omega), h.dot]
  refine ⟨span_not (i := D) (by omega) (by rw [hg]; decide) (fun _ => by rw [hg]; decide), ?_, by omega⟩
  refine head_take _ D h.dig.run ?_ (fun _ => hg)
  have := congrArg (List.take D) h2
  rwa [List.take_take, List.take_take, Nat.min_eq_left (by omega)] at this
/-- A dot and no digit behind it; or digits, and then what is no digit, but of the run. -/
theorem num_dotX {l : List Int} {D F : Nat} (h : FracAt l D F) (hd : digB (l.getD F 0) = false) (hx : F = D + 1 ∨ runB 46 (l.getD F 0) = true) : numR l = (0, ⟨#[]⟩, 0, 0) := by
  obtain ⟨hS, hH, hlt⟩ := h.facts
  refine num_none hS ?_
  obtain ⟨h1, h2, h3⟩ := run_pre h.run
  have hl := take_len h.dig.run.1
  unfold numB
  rw [hH, hl, if_neg (by omega)]
  by_cases hr : runB 46 (l.getD F 0) = true
  · obtain ⟨h4, h5⟩ := RunAt.next (by decide) h.run hr
    obtain ⟨g1, g2, g3⟩ := run_pre h5
    rw [not_all_drop (i := F) (by omega) (by rw [g3 F (by omega)]; exact hd) h.lo]
    simp
  · have hF : F = D + 1 := by rcases hx with h | h; exact h; exact absurd h hr
    have hR := run_stop h.run (by simpa using hr)
    have : (runR 46 l).length = F := by rw [hR, take_len h.hi]
    rw [this, hF]
    simp
theorem num_frac {l : List Int} {D F : Nat} (h : FracAt l D F) (hF : D + 2 ≤ F) (hz : ¬ (l.getD 0 0 = 48 ∧ 1 < D)) (hr : runB 46 (l.getD F 0) = false) : numR l = if F ≤ 16 then (1, strOfNums (l.take F), 0, F) else (0, ⟨#[]⟩, 0, 0) := by
  obtain ⟨hS, hH, hlt⟩ := h.facts
  have hl := take_len h.dig.run.1
  have hR := run_stop h.run hr
  have hlen : (l.take F).length = F := take_len h.hi
  have hN : numB (runR 46 l) = decide (F ≤ 16) := by
    unfold numB
    rw [hH, hl, whole_digs h.dig hz, if_neg (by omega), hR, hlen, h.all, decide_eq_true (show D + 1 < F by omega)]
    rfl
  unfold numR
  rw [hS, if_neg (by omega), hN, hR, hlen]
  by_cases hd : F ≤ 16
  · rw [if_pos (by simpa using hd), if_pos hd]
  · rw [if_neg (by simpa using hd), if_neg hd]
theorem val_next (l : List Int) (k : Nat) (hk : k < l.length) : valL (l.take (k + 1)) = 10 * valL (l.take k) + (l.getD k 0 - 48) := by
  unfold valL
  rw [List.take_add_one, List.getElem?_eq_getElem hk, Option.toList_some, List.foldl_append, List.getD_eq_getElem?_getD, List.getElem?_eq_getElem hk]
  rfl
theorem dig_bd {c : Int} (h : digB c = true) : 48 ≤ c ∧ c ≤ 57 := by
  unfold digB at h
  simpa using h
theorem RunAt.at {p : Int → Bool} {l : List Int} {k : Nat} (h : RunAt p l k) (i : Nat) (hi : i < k) : p (l.getD i 0) = true := by
  have := h.1
  rw [List.getD_eq_getElem?_getD, List.getElem?_eq_getElem (by omega), Option.getD_some]
  exact List.all_eq_true.1 h.2 _ (by rw [List.mem_take_iff_getElem]; exact ⟨i, by omega, rfl⟩)
theorem val_pos {l : List Int} {D : Nat} (h : RunAt digB l D) : ∀ k, k ≤ D → 0 ≤ valL (l.take k) := by
  intro k
  induction k with
  | zero => intro _; simp [valL]
  | succ k ih =>
    intro hk
    have h1 := h.1
    rw [val_next l k (by omega)]
    have := ih (by omega)
    have := dig_bd (h.at k (by omega))
    omega
theorem val_big {l : List Int} {D : Nat} (h : RunAt digB l D) (h0 : l.getD 0 0 ≠ 48) : ∀ k, k + 1 ≤ D → (10 : Int) ^ k ≤ valL (l.take (k + 1)) := by
  intro k
  have h1 := h.1
  induction k with
  | zero =>
    intro hk
    rw [val_next l 0 (by omega), show valL (l.take 0) = 0 from rfl, Int.pow_zero]
    have := dig_bd (h.at 0 (by omega))
    omega
  | succ k ih =>
    intro hk
    rw [val_next l (k + 1) (by omega)]
    have := ih (by omega)
    have := dig_bd (h.at (k + 1) (by omega))
    rw [Int.pow_succ]
    omega
theorem val_small {l : List Int} {D : Nat} (h : DigAt l D) (hz : ¬ (l.getD 0 0 = 48 ∧ 1 < D)) (hv : valL (l.take D) ≤ 2147483647) : D ≤ 10 := by
  by_cases hD : D ≤ 10
  · exact hD
  · have h1 := val_big h.run (by omega) 10 (by omega)
    have h2 : ∀ m, valL (l.take 11) ≤ valL (l.take (11 + m)) ∨ D < 11 + m := by
      intro m
      induction m with
      | zero => exact .inl (Int.le_refl _)
      | succ m ih =>
        by_cases hm : D < 11 + (m + 1)
        · exact .inr hm
        · left
          rcases ih with ih | ih
          · have h1 := h.run.1
            have e := val_next l (11 + m) (by omega)
            rw [show 11 + (m + 1) = 11 + m + 1 by omega, e]
            have := val_pos h.run (11 + m) (by omega)
            have := dig_bd (h.run.at (11 + m) (by omega))
            omega
          · omega
    have h3 := h2 (D - 11)
    rw [show 11 + (D - 11) = D by omega] at h3
    have e10 : (10 : Int) ^ 10 = 10000000000 := by decide
    rw [e10] at h1
    rcases h3 with h3 | h3
    · have : valL (l.take (10 + 1)) = valL (l.take 11) := rfl
      omega
    · omega
theorem unit_bd (c : Int) : unitR c = 0 ∨ unitR c = 1 ∨ unitR c = 60 ∨ unitR c = 3600 ∨ unitR c = 86400 := by
  unfold unitR
  repeat' split
  all_goals simp
/-- Digits and a letter. -/
theorem num_unit {l : List Int} {D : Nat} (h : DigAt l D) (hz : ¬ (l.getD 0 0 = 48 ∧ 1 < D)) (hc : letB (l.getD D 0) = true) (M v : Int) (hM : M = min (valL (l.take D)) 2147483648) (hv : v = M * unitR (l.getD D 0)) :
    numR l = if 1 ≤ v ∧ v ≤ 2147483647 ∧ runB 46 (l.getD (D + 1) 0) = false then (2, strOfNums (l.take (D + 1)), v, D + 1) else (0, ⟨#[]⟩, 0, 0) := by
  have hrD : runB 46 (l.getD D 0) = true := by unfold runB; rw [hc]; simp
  obtain ⟨hlt, hr1⟩ := RunAt.next (by decide) (dig_runAt h.run) hrD
  obtain ⟨g1, g2, g3⟩ := run_pre hr1
  obtain ⟨hld, hl46⟩ := let_dig hc
  have hgD := g3 D (by omega)
  have hNB : numB (runR 46 l) = false := by
    have hh : wholeB (headR (runR 46 l)) = false := by
      have hpre : headR (runR 46 l) <+: runR 46 l := List.takeWhile_prefix _
      have e := List.prefix_iff_eq_take.1 hpre
      have hlen : D + 1 ≤ (headR (runR 46 l)).length := by
        have hx : headR (runR 46 l) = l.take (D + 1) ++ headR ((l.drop (D + 1)).takeWhile (runB 46)) := by
          have er : runR 46 l = l.take (D + 1) ++ (l.drop (D + 1)).takeWhile (runB 46) := all_tw (fun c hc => hc) l (D + 1) hr1
          unfold headR
          conv => lhs; rw [er]
          rw [List.takeWhile_append_of_pos (fun z hz => by
            rw [List.mem_take_iff_getElem] at hz
            obtain ⟨i, hi, rfl⟩ := hz
            have e1 : l[i] = l.getD i 0 := by rw [List.getD_eq_getElem?_getD, List.getElem?_eq_getElem (by omega), Option.getD_some]
            rw [e1]
            by_cases h1 : i < D
            · have := dig_bd (h.run.at i h1)
              simp only [decide_eq_true_eq]
              omega
            · have : i = D := by omega
              subst this
              simpa using hl46)]
        rw [hx, List.length_append, take_len hr1.1]
        omega
      rw [e]
      exact not_whole (not_all (i := D) (by omega) (by rw [hgD]; exact hld) _ (by omega))
    unfold numB
    rw [hh]
    rfl
  have hMb : M ≤ 2147483648 := by omega
  have hM0 : 0 ≤ M := by have := val_pos h.run D (Nat.le_refl _); omega
  cases hs : runB 46 (l.getD (D + 1) 0) with
  | true =>
    rw [if_neg (by simp)]
    obtain ⟨_, hr2⟩ := RunAt.next (by decide) hr1 hs
    obtain ⟨k1, _, k3⟩ := run_pre hr2
    exact num_none (span_not (i := D) (by omega) (by rw [k3 D (by omega)]; exact hld) (fun e => by omega)) hNB
  | false =>
    have hR := run_stop hr1 hs
    have hRl : (runR 46 l).length = D + 1 := by rw [hR]; exact take_len hr1.1
    have hT : (runR 46 l).take D = l.take D := by rw [hR, List.take_take, Nat.min_eq_left (by omega)]
    have hp := h.pos
    have hSp : spanR (runR 46 l) = if 1 ≤ v ∧ v ≤ 2147483647 then v else 0 := by
      unfold spanR
      rw [hRl, show D + 1 - 1 = D by omega, hT, hgD, whole_digs h hz]
      have hub := unit_bd (l.getD D 0)
      by_cases hbig : valL (l.take D) ≤ 2147483647
      · have h10 := val_small h hz hbig
        have hMe : M = valL (l.take D) := by omega
        rw [if_pos ⟨by omega, by omega, rfl⟩, ← hMe, ← hv]
      · have hMe : M = 2147483648 := by omega
        have hv2 : v = 0 ∨ 2147483648 ≤ v := by rw [hv, hMe]; rcases hub with h | h | h | h | h <;> rw [h] <;> omega
        rw [if_neg (show ¬ (1 ≤ v ∧ v ≤ 2147483647) by omega)]
        by_cases hx : 2 ≤ D + 1 ∧ D + 1 ≤ 11 ∧ (true = true)
        · rw [if_pos hx, if_neg (by
            have : valL (l.take D) * unitR (l.getD D 0) = 0 ∨ 2147483648 ≤ valL (l.take D) * unitR (l.getD D 0) := by
              rcases hub with h | h | h | h | h <;> rw [h] <;> omega
            omega)]
        · rw [if_neg hx]
    by_cases hin : 1 ≤ v ∧ v ≤ 2147483647
    · rw [if_pos ⟨hin.1, hin.2, rfl⟩]
      unfold numR
      rw [hSp, if_pos hin, if_pos hin.1, hR, take_len hr1.1]
    · rw [if_neg (fun hx => hin ⟨hx.1, hx.2.1⟩)]
      rw [if_neg hin] at hSp
      exact num_none hSp hNB
end Go.Proofs.Ytnimdngiejcljaa

