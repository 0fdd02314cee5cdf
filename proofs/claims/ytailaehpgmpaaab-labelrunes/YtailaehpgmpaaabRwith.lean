/- The document's own With. -/
import Derived.Test.YtailaehpgmpaaabRsome
import Derived.Test.YtailaehpgmpaaabDraw
namespace Go.Proofs.Ytailaehpgmpaaab
open Go.RowKit
set_option linter.unusedVariables false

theorem sown_form {e : TypeId} {w : World} {base n : Nat} {v : Value} {ls : List Lab} (h : SOwn labE e w base v n ls) : ∃ a c, v = .slice a n c ∧ (a = none → c = 0) ∧ n ≤ c ∧ c ≤ maxLen ∧ (∀ x, a = some x → base ≤ x.block ∧ x.off = 0 ∧ x.spot = none) := by
  rcases h.2 with ⟨h', h0⟩ | ⟨g, cap, cur, h', h1, h2, h3, h4, _⟩
  · subst h0
    exact ⟨none, 0, h', fun _ => rfl, Nat.le_refl _, Nat.zero_le _, by simp⟩
  · exact ⟨_, cap, h', by simp, h3, h4, fun x hx => by cases hx; exact ⟨h1, rfl, rfl⟩⟩
theorem str_none (s : ByteArray) : s.toList.isEmpty = decide (s = ⟨#[]⟩) := by
  rw [← str_eq, show ByteArray.toList ⟨#[]⟩ = [] by rw [ByteArray.toList_eq]]
  cases s.toList <;> rfl
theorem elem28 : Try.prog.elem 28 = 27 := by simp [Program.elem, Try.underlying28]
theorem sz27 (w : World) : (sizeOf 27).run Try.prog w = .ok 2 w := by
  obtain ⟨i0, hi, _, hz1, _⟩ := info_parts info27
  simp [sizeOf, typeInfo, hi, hz1]
theorem lhead (a : Option Addr) (ls : List Lab) (n c k : Nat) (hl : ls.length = n) (hk : k ≤ n) (hc : n ≤ c) (hn : a = none → c = 0) (ho : ∀ x, a = some x → x.spot = none) :
    ∃ v, (∀ w, (Instr.slice 28 (.slice a n c) none (some (.int .i64 (k : Int))) none).run Try.prog w = .ok (.slice v k c) w) ∧ (∀ w, SRd labE w a ls → SRd labE w v (ls.take k)) ∧ (v = none → c = 0) := by
  refine ⟨if c = 0 then a else a.map (·.add (0 * 2)), fun w => ?_, fun w h => ?_, fun h => ?_⟩
  · rw [run_slice_h w 28 a n c (by rw [elem28]; exact Try.underlying28) .i64 (k : Int) (by omega) (by omega), elem28, sz27]
    simp [Result.andThen, sliced]
  · by_cases h0 : c = 0
    · obtain rfl : k = 0 := by omega
      simp only [List.take_zero]
      exact SRd.nil _ _
    · rw [if_neg h0]
      rcases h with rfl | ⟨b, off, e, h⟩
      · simp only [List.take_nil]; exact SRd.nil _ _
      · refine .inr ⟨b, off, by rw [e]; rfl, fun j v hj => h j v ?_⟩
        rw [labE.flat_take, List.getElem?_take] at hj
        split at hj
        · exact hj
        · simp at hj
  · split at h
    · assumption
    · cases a with
      | none => exact hn rfl
      | some x => simp at h
theorem ltail (a : Option Addr) (ls : List Lab) (n c k : Nat) (hl : ls.length = n) (hk : k ≤ n) (hc : n ≤ c) (hn : a = none → c = 0) :
    ∃ v, (∀ w, (Instr.slice 28 (.slice a n c) (some (.int .i64 (k : Int))) none none).run Try.prog w = .ok (.slice v (n - k) (c - k)) w) ∧ (∀ w, SRd labE w a ls → SRd labE w v (ls.drop k)) ∧ (v = none → c - k = 0) := by
  refine ⟨if c = k then a else a.map (·.add (k * 2)), fun w => ?_, fun w h => ?_, fun h => ?_⟩
  · rw [run_slice_l w 28 a n c (by rw [elem28]; exact Try.underlying28) .i64 (k : Int) (by omega) (by omega), elem28, sz27]
    simp [Result.andThen, sliced]
  · by_cases h0 : c = k
    · rw [List.drop_eq_nil_of_le (by omega)]
      exact SRd.nil _ _
    · rw [if_neg h0]
      rcases h with rfl | ⟨b, off, e, h⟩
      · simp only [List.drop_nil]; exact SRd.nil _ _
      · refine .inr ⟨b, off + k * 2, ?_, fun j v hj => ?_⟩
        · rw [e]
          by_cases h1 : k = 0
          · subst h1; rfl
          · have : ¬ k * 2 = 0 := by omega
            simp [Addr.add, this]
        · rw [Nat.add_assoc]
          refine h _ v ?_
          have e1 : labE.flat ls = labE.flat (ls.take k) ++ labE.flat (ls.drop k) := by rw [← labE.flat_app, List.take_append_drop]
          have e2 : (labE.flat (ls.take k)).length = k * 2 := by
            rw [labE.flat_len, List.length_take]
            show min k ls.length * 2 = k * 2
            rw [Nat.min_eq_left (by omega)]
          rw [e1, List.getElem?_append_right (by omega), e2, show k * 2 + j - k * 2 = j by omega]
          exact hj
  · split at h
    · omega
    · cases a with
      | none => have := hn rfl; omega
      | some x => simp at h

def leB (a n : ByteArray) : Bool := Op.bytesLess a.toList n.toList || a.toList == n.toList
def withR (ls : List Lab) (name value : ByteArray) : List Lab :=
  if value = ⟨#[]⟩ then someR ls [name] false
  else (someR ls [name] false).takeWhile (fun p => leB p.1 name) ++ [(name, value)] ++ (someR ls [name] false).dropWhile (fun p => leB p.1 name)
def WhileAt (rest : List Lab) (name : ByteArray) (k : Nat) : Prop := rest.takeWhile (fun p => leB p.1 name) = rest.take k ++ (rest.drop k).takeWhile (fun p => leB p.1 name) ∧ rest.dropWhile (fun p => leB p.1 name) = (rest.drop k).dropWhile (fun p => leB p.1 name)
theorem WhileAt.next {rest : List Lab} {name : ByteArray} {k : Nat} {p : Lab} (h : WhileAt rest name k) (hp : rest[k]? = some p) (hb : leB p.1 name = true) : WhileAt rest name (k + 1) := by
  obtain ⟨h1, h2⟩ := List.getElem?_eq_some_iff.1 hp
  unfold WhileAt at h ⊢
  rw [List.drop_eq_getElem_cons h1, h2, List.takeWhile_cons, List.dropWhile_cons, if_pos hb, if_pos hb] at h
  refine ⟨?_, h.2⟩
  rw [h.1, List.take_add_one, hp]
  simp
theorem WhileAt.stop {rest : List Lab} {name : ByteArray} {k : Nat} (h : WhileAt rest name k) (hs : rest.length ≤ k ∨ ∃ p, rest[k]? = some p ∧ leB p.1 name = false) : rest.takeWhile (fun p => leB p.1 name) = rest.take k ∧ rest.dropWhile (fun p => leB p.1 name) = rest.drop k := by
  unfold WhileAt at h
  rcases hs with hs | ⟨p, hp, hb⟩
  · rw [List.drop_eq_nil_of_le hs] at h ⊢
    simpa using h
  · obtain ⟨h1, h2⟩ := List.getElem?_eq_some_iff.1 hp
    rw [List.drop_eq_getElem_cons h1, h2, List.takeWhile_cons, List.dropWhile_cons, if_neg (by simp [hb]), if_neg (by simp [hb])] at h
    rw [List.drop_eq_getElem_cons h1, h2]
    simpa using h

end Go.Proofs.Ytailaehpgmpaaab
