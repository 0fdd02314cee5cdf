/- Opposite matchers, and a list of matchers in two parts. -/
import Derived.Test.YtbncglhgllialaaDoorKmat
import Derived.Test.YtbncglhgllialaaDoorMopen
import Derived.Test.YtbncglhgllialaaDoorDraw
import Derived.ChangeKeysEq
namespace Go.Proofs.YtbncglhgllialaaDoor
open Go.ChangeShapes Go.WideShapes Go.ChangeAt Go.RowKit
set_option linter.unusedVariables false

section
variable {P : Program} {Q : Exit → Act → World → Prop} {md : Region.Mode} {S : World → Prop}
/-- Numbers i and j may come up. -/
theorem draw_twoS (i j : Nat) {l : List Oper} {oi oj : Oper} {fuel : Nat} {listed : Array Bool} {a : Act} {w : World} (hi : l[i]? = some oi) (hj : l[j]? = some oj) (hr : Region.ready md l.toArray listed = [i, j])
    (hwi : Region.wanted oi (yielded l.toArray a.tmps) = true) (hwj : Region.wanted oj (yielded l.toArray a.tmps) = true)
    (h1 : ∀ K' : Act → World → Prop, Shut (∀ a w, S w → wpAnyH P md l.toArray Q S fuel (listed.setIfInBounds i true) a w → K' a w) → Oper.wp P oi a w K' Q)
    (h2 : ∀ K' : Act → World → Prop, Shut (∀ a w, S w → wpAnyH P md l.toArray Q S fuel (listed.setIfInBounds j true) a w → K' a w) → Oper.wp P oj a w K' Q) : wpAnyH P md l.toArray Q S (fuel + 1) listed a w :=
  wpAnyH_ready hr (by simp) (.cons (arr_at hi) (fun K hK => by rw [if_pos hwi]; exact h1 K (fun a w hS hW => hK a w hS (fun _ => hW))) (.cons (arr_at hj) (fun K hK => by rw [if_pos hwj]; exact h2 K (fun a w hS hW => hK a w hS (fun _ => hW))) .nil))
end

section
variable {α : Type} {E : Elem α}
theorem SRd.take {w : World} {a : Option Addr} {l : List α} (h : SRd E w a l) (n : Nat) : SRd E w a (l.take n) := by
  rcases h with rfl | ⟨b, off, rfl, hc⟩
  · left; simp
  · right
    refine ⟨b, off, rfl, fun j v hv => hc j v ?_⟩
    rw [E.flat_take, List.getElem?_take] at hv
    split at hv
    · exact hv
    · cases hv
theorem SRd.drop {w : World} {a : Option Addr} {l : List α} (h : SRd E w a l) (n : Nat) (hn : n ≤ l.length) : SRd E w (a.map (·.add (n * E.size))) (l.drop n) := by
  rcases h with rfl | ⟨b, off, rfl, hc⟩
  · left; simp
  · right
    refine ⟨b, off + n * E.size, by rw [Option.map_some, add_plain], fun j v hv => ?_⟩
    rw [Nat.add_assoc]
    refine hc _ v ?_
    have e : E.flat l = E.flat (l.take n) ++ E.flat (l.drop n) := by rw [← E.flat_app, List.take_append_drop]
    have hl : (E.flat (l.take n)).length = n * E.size := by rw [E.flat_len, List.length_take, Nat.min_eq_left hn]
    rw [e, List.getElem?_append_right (by omega), hl, show n * E.size + j - n * E.size = j by omega]
    exact hv
end
theorem under22 : Tryd.prog.underlying 22 = some (.slice (Tryd.prog.elem 22)) := by kernel_rfl
theorem size35 (w : World) : (sizeOf (Tryd.prog.elem 22)).run Tryd.prog w = .ok 3 w := by
  have e : Tryd.prog.elem 22 = 35 := by kernel_rfl
  obtain ⟨i0, hi, _⟩ := info_parts info35
  rw [e, Go.run_sizeOf w hi, cells35]
theorem mats_to (a : Option Addr) (L cap k : Nat) (hk : k ≤ L) (hc : L ≤ cap) (hn : a = none → cap = 0) : ∃ b c, (b = none → c = 0) ∧ (∀ w, (Instr.slice 22 (.slice a L cap) none (some (.int .i64 (k : Int))) none).run Tryd.prog w = .ok (.slice b k c) w) ∧
    ∀ w (zs : List Mat), SRd matE w a zs → zs.length = L → SRd matE w b (zs.take k) := by
  refine ⟨a, cap, hn, fun w => ?_, fun w zs h _ => h.take k⟩
  rw [run_slice_h w 22 a L cap under22 .i64 k (by omega) (by omega), size35]
  cases a <;> simp [Result.andThen, sliced, Addr.add]
theorem mats_from (a : Option Addr) (L cap k : Nat) (hk : k ≤ L) (hc : L ≤ cap) (hn : a = none → cap = 0) : ∃ b c, (b = none → c = 0) ∧ (∀ w, (Instr.slice 22 (.slice a L cap) (some (.int .i64 (k : Int))) none none).run Tryd.prog w = .ok (.slice b (L - k) c) w) ∧
    ∀ w (zs : List Mat), SRd matE w a zs → zs.length = L → SRd matE w b (zs.drop k) := by
  by_cases hck : cap = k
  · refine ⟨a, cap - k, fun h => by have := hn h; omega, fun w => ?_, fun w zs h hl => ?_⟩
    · rw [run_slice_l w 22 a L cap under22 .i64 k (by omega) (by omega), size35]
      simp [Result.andThen, sliced, hck]
    · left; rw [List.drop_eq_nil_iff]; omega
  · refine ⟨a.map (·.add (k * 3)), cap - k, fun h => ?_, fun w => ?_, fun w zs h hl => ?_⟩
    · have := hn (Option.map_eq_none_iff.1 h); omega
    · rw [run_slice_l w 22 a L cap under22 .i64 k (by omega) (by omega), size35]
      simp [Result.andThen, sliced, hck]
    · exact h.drop k (by omega)

def oppK (k : Int) : Int := if k = 1 then 2 else if k = 2 then 1 else if k = 3 then 4 else if k = 4 then 3 else 0
theorem r_map4 (k : Int) (w : World) : Calls Tryd.prog 19 #[.int .i64 k] w fun e w' => e = .returned (.int .i64 (oppK k)) ∧ w.grownBy w' none := by
  unfold oppK
  by_cases h1 : k = 1
  · subst h1
    go_enter Tryd.func19, Tryd.ntmps19
    go_wp2
    go_ret
    exact ⟨rfl, World.grownBy.refl _ _⟩
  have q1 : (k == 1) = false := by simpa using h1
  rw [if_neg h1]
  by_cases h2 : k = 2
  · subst h2
    go_enter Tryd.func19, Tryd.ntmps19
    go_wp2
    go_ret
    exact ⟨rfl, World.grownBy.refl _ _⟩
  have q2 : (k == 2) = false := by simpa using h2
  rw [if_neg h2]
  by_cases h3 : k = 3
  · subst h3
    go_enter Tryd.func19, Tryd.ntmps19
    go_wp2
    go_ret
    exact ⟨rfl, World.grownBy.refl _ _⟩
  have q3 : (k == 3) = false := by simpa using h3
  rw [if_neg h3]
  by_cases h4 : k = 4
  · subst h4
    go_enter Tryd.func19, Tryd.ntmps19
    go_wp2
    go_ret
    exact ⟨rfl, World.grownBy.refl _ _⟩
  have q4 : (k == 4) = false := by simpa using h4
  rw [if_neg h4]
  clear h1 h2 h3 h4
  go_enter Tryd.func19, Tryd.ntmps19
  go_wp2
  go_ret
  exact ⟨rfl, World.grownBy.refl _ _⟩
theorem opp_none {k : Int} (h : oppK k = 0) (v x1 x2 : ByteArray) : sayOne v (k, x1, x2) = false := by
  unfold oppK at h
  refine say0 v x1 x2 ?_ ?_ ?_ ?_ <;> (intro e; subst e; simp at h)
theorem opp_not {k : Int} (h : ¬ oppK k = 0) (v x1 x2 : ByteArray) : sayOne v (oppK k, x1, x2) = !sayOne v (k, x1, x2) := by
  unfold oppK at h ⊢
  by_cases h1 : k = 1
  · subst h1; rw [if_pos rfl, say1, say2]
  by_cases h2 : k = 2
  · subst h2; rw [if_neg (by decide), if_pos rfl, say1, say2, Bool.not_not]
  by_cases h3 : k = 3
  · subst h3; rw [if_neg (by decide), if_neg (by decide), if_pos rfl, say3, say4]
  by_cases h4 : k = 4
  · subst h4; rw [if_neg (by decide), if_neg (by decide), if_neg (by decide), if_pos rfl, say3, say4, Bool.not_not]
  simp [h1, h2, h3, h4] at h
theorem says_one (q : Mat) (ls : List Lab) : saysR [q] ls = sayOne (getR ls q.2.1) q := by simp [saysR]
theorem says_app (xs ys : List Mat) (ls : List Lab) : saysR (xs ++ ys) ls = (saysR xs ls && saysR ys ls) := by simp [saysR]
theorem says_next {xs : List Mat} {k : Nat} {q : Mat} (h : xs[k]? = some q) (ls : List Lab) : saysR (xs.take (k + 1)) ls = (saysR (xs.take k) ls && saysR [q] ls) := by
  rw [List.take_add_one, h, says_app]; rfl
theorem says_cut (xs : List Mat) (k : Nat) (ls : List Lab) : (saysR (xs.take k) ls && saysR (xs.drop k) ls) = saysR xs ls := by rw [← says_app, List.take_append_drop]
end Go.Proofs.YtbncglhgllialaaDoor
