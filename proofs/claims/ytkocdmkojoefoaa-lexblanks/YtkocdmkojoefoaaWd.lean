/- Runs of bytes; word. -/
import Derived.Test.YtkocdmkojoefoaaBx
namespace Go.Proofs.Ytkocdmkojoefoaa
open Go.RowKit
set_option linter.unusedVariables false
set_option maxRecDepth 20000

/-- The first k bytes are of a kind. -/
def RunAt (p : Int → Bool) (l : List Int) (k : Nat) : Prop := k ≤ l.length ∧ (l.take k).all p = true
theorem RunAt.zero (p : Int → Bool) (l : List Int) : RunAt p l 0 := ⟨Nat.zero_le _, by simp⟩
theorem RunAt.next {p : Int → Bool} {l : List Int} {k : Nat} (h0 : p 0 = false) (h : RunAt p l k) (hb : p (l.getD k 0) = true) : k < l.length ∧ RunAt p l (k + 1) := by
  have hl : k < l.length := by
    by_cases hl : k < l.length
    · exact hl
    · rw [List.getD_eq_getElem?_getD, List.getElem?_eq_none (by omega), Option.getD_none, h0] at hb
      cases hb
  refine ⟨hl, hl, ?_⟩
  rw [List.getD_eq_getElem?_getD, List.getElem?_eq_getElem hl, Option.getD_some] at hb
  rw [List.take_add_one, List.getElem?_eq_getElem hl, Option.toList_some, List.all_append, h.2, List.all_cons, List.all_nil, hb]
  rfl
theorem RunAt.done {p : Int → Bool} {l : List Int} {k : Nat} (h : RunAt p l k) (hb : p (l.getD k 0) = false) : l.takeWhile p = l.take k := by
  have e : l = l.take k ++ l.drop k := (List.take_append_drop k l).symm
  conv => lhs; rw [e]
  rw [List.takeWhile_append_of_pos (fun z hz => List.all_eq_true.1 h.2 z hz)]
  by_cases hl : k < l.length
  · rw [List.getD_eq_getElem?_getD, List.getElem?_eq_getElem hl, Option.getD_some] at hb
    rw [List.drop_eq_getElem_cons hl, List.takeWhile_cons, hb]
    simp
  · rw [List.drop_eq_nil_of_le (by omega)]
    simp
theorem wb_run (c : Int) : wbB c = runB 58 c := by
  unfold wbB runB
  cases letB c <;> cases digB c <;> rfl
def wordT (s : ByteArray) (g : Nat) (k : Nat) (u : Nat → Value) : Array Value := #[.string s, undef, .pointer (some ⟨g, 0, none⟩), .int .i64 0, .int .i64 (k : Int), u 5, u 6, u 7, u 8, u 9, u 10, u 11, u 12, u 13, u 14, u 15]
def WordJ (s : ByteArray) (g : Nat) (W : World) (a' : Act) (w' : World) : Prop := ∃ (k : Nat) (u : Nat → Value), a' = { tmps := wordT s g k u, defers := [] } ∧ RunAt (runB 58) (sInts s) k ∧ w' = W
theorem wordJ {s : ByteArray} {g : Nat} {W : World} {a' : Act} {w' : World} (k : Nat) (h : a' = { tmps := wordT s g k (upon a'), defers := [] }) (h1 : RunAt (runB 58) (sInts s) k) (h2 : w' = W) : WordJ s g W a' w' := ⟨k, _, h, h1, h2⟩
def wordM (s : ByteArray) (a' : Act) (_ : World) : Nat := s.size - (intOf (a'.tmps.getD 4 undef)).toNat
set_option maxHeartbeats 1000000 in
theorem f_word (s : ByteArray) (w : World) (hs : s.size ≤ 4096) (h0 : runB 58 (byteAt s 0) = true) : Calls Try.prog 28 #[.string s] w fun e w' => TkOut (wordR (sInts s)) w e w' := by
  have HB : Hid (Bx w (w.alloc (.cells #[.int .i64 0, .int .i64 0, .string ⟨#[]⟩, .int .i64 0] 32)) w.heap.size) := Bx.made w
  have H1 : Hid (RunAt (runB 58) (sInts s) 1) := (RunAt.next (by decide) (RunAt.zero _ _) h0).2
  clear h0
  generalize hW : (w.alloc (.cells #[.int .i64 0, .int .i64 0, .string ⟨#[]⟩, .int .i64 0] 32)) = W at HB
  have HW : Hid ((w.alloc (.cells #[.int .i64 0, .int .i64 0, .string ⟨#[]⟩, .int .i64 0] 32)) = W) := hW
  clear hW
  go_enter Try.func28, Try.ntmps28
  go_wp2_with fail
  rw [HW.out]
  refine wp_scope_word (WordJ s w.heap.size W) (wordM s) rfl ?p0 ?first
  case p0 =>
    rintro a' w' ⟨k, u, rfl, hr, rfl⟩
    unfold wordT
    have HR : Hid (RunAt (runB 58) (sInts s) k) := hr
    have hk : k ≤ s.size := by have := hr.1; rw [sInts_len] at this; exact this
    clear hr H1
    have HC := f_wordByte (byteAt s k)
    rw [wb_run] at HC
    have HBA := f_byteAt s k
    cases hb : runB 58 (byteAt s k) with
    | true =>
      have HN : Hid (k < (sInts s).length ∧ RunAt (runB 58) (sInts s) (k + 1)) := HR.out.next (by decide) hb
      have hlt : k < s.size := by have := HN.out.1; rw [sInts_len] at this; exact this
      rw [hb] at HC
      clear hb
      go_wp2_with (first | (go_at_call 33; refine (HBA _).mono ?_; rintro e w1 ⟨rfl, rfl⟩) | (go_at_call 25; refine (HC _).mono ?_; rintro e w1 ⟨rfl, rfl⟩))
      go_step3
      exact ⟨wordJ (k + 1) rfl HN.out.2 rfl, by simp [sel1, wordM, intOf]; omega⟩
    | false =>
      have HD : Hid (wordR (sInts s) = (3, strOfNums ((sInts s).take k), 0, k)) := by
        show _ = _
        unfold wordR runR
        rw [HR.out.done hb, List.length_take, sInts_len, Nat.min_eq_left hk]
      rw [hb] at HC
      have hsl := sl_hi s k hk
      obtain ⟨r0, r1, r2, r3⟩ := cell4 HB.out.row
      have f0 := free_row HB.out.row 0
      have f1 := free_row HB.out.row 1
      have f2 := free_row HB.out.row 2
      have f3 := free_row HB.out.row 3
      generalize strOfNums ((sInts s).take k) = t at hsl HD
      clear hb
      go_wp2_with (first | (go_at_call 33; refine (HBA _).mono ?_; rintro e w1 ⟨rfl, rfl⟩) | (go_at_call 25; refine (HC _).mono ?_; rintro e w1 ⟨rfl, rfl⟩))
      simp only [onto, jumps]
      refine bodyPost_ret (v := .tuple #[tokV 3 0 t 0, .int .i64 (k : Int)]) (results_row_tmp Try.results28 _ _ _ w.heap.size 32 _ (0, 0) _ rfl (row4 HB.out.row (.int .i64 3) (.int .i64 0) (.string t) (.int .i64 0)) Try.underlying32 isz32) rfl ?_
      exact tk_ret HB.out HD.out
  case first =>
    intro go_on
    have GO : Hid (∀ a' w', WordJ s w.heap.size W a' w' → _) := go_on
    clear go_on
    go_wp2
    go_step3
    refine ‹∀ (a : Act) (w : World), Code.wp Try.prog _ _ a w → _› _ _ (GO.out _ _ ?_)
    exact wordJ 1 rfl H1.out rfl
end Go.Proofs.Ytkocdmkojoefoaa
