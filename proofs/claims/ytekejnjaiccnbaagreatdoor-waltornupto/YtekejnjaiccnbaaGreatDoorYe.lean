/- A log that is written, and torn: what its walk needs. -/
import Derived.Test.YtekejnjaiccnbaaGreatDoorYd
namespace Go.Proofs.YtekejnjaiccnbaaGreatDoor
open Go.RowKit Go.Maps Go.Sort
set_option linter.unusedVariables false
set_option maxRecDepth 20000

/-- A segment that holds a record, and isn't long. -/
def Good (q : Nat × List (List Int)) : Prop := q.2 ≠ [] ∧ (logB frameR q.2).length ≤ 69639
theorem addL_good {K : Kp} {Ls : Sg} {r : List Int} (h : ∀ q ∈ Ls, Good q) (hr : r.length ≤ 65536) : ∀ q ∈ addL K Ls r, Good q := by
  have hf := frame_len r hr
  unfold addL
  cases hg : Ls.getLast? with
  | none =>
    intro q hq
    simp only [List.mem_singleton] at hq
    subst hq
    exact ⟨by simp, by dsimp only; rw [logB_one]; omega⟩
  | some q0 =>
    dsimp only
    split
    · intro q hq
      rcases List.mem_append.1 hq with hq | hq
      · exact h q hq
      · simp only [List.mem_singleton] at hq
        subst hq
        exact ⟨by simp, by dsimp only; rw [logB_one]; omega⟩
    · rename_i hlt
      intro q hq
      rcases List.mem_append.1 hq with hq | hq
      · exact h q (List.dropLast_subset _ hq)
      · simp only [List.mem_singleton] at hq
        subst hq
        exact ⟨by simp, by dsimp only; rw [logB_app, logB_one, List.length_append]; omega⟩
/-- The log behind i records. -/
def ToAt (W wr : World) (d mb i : Nat) (m : Int) (p : Nat) (rs : List (List Int)) : Prop := ∃ (n : Nat) (x : DSt) (Ls : Sg) (A B : Nat → Prop), Se W wr d mb n x p dirX none Ls A B ∧ recsOf Ls = rs ∧ n ≤ i ∧ x.wn ≤ m ∧ openN none Ls ≤ i + 1 ∧ Ls.length ≤ i ∧ rs.length ≤ i ∧ ∀ q ∈ Ls, Good q
theorem ToAt.grown {W w w' : World} {d mb i p : Nat} {m : Int} {rs : List (List Int)} (h : ToAt W w d mb i m p rs) (hg : w.grownBy w' none) : ToAt W w' d mb i m p rs := by
  obtain ⟨n, x, Ls, A, B, h1, h2⟩ := h
  exact ⟨n, x, Ls, A, B, h1.grown hg, h2⟩
theorem ToAt.from_ {W w : World} {d mb i p : Nat} {m : Int} {rs : List (List Int)} (h : ToAt W w d mb i m p rs) : W.grownBy w none := by
  obtain ⟨n, x, Ls, A, B, h1, h2⟩ := h
  exact h1.from_
theorem to_append {W w : World} {d mb i p : Nat} {m : Int} {rs : List (List Int)} (h : ToAt W w d mb i m p rs) (a : Option Addr) (r : List Int) (L c : Nat) (hr : Rd w a r) (hL : r.length = L) (hnil : a = none → c = 0) (hz : L ≤ 65536) (hi : i < 1048576) (hm : m ≤ 999999900) :
    Calls Tryz.prog 17 #[.pointer (some ⟨p, 0, none⟩), .slice a L c] w fun e w' => e = .returned (.int .i64 0) ∧ ToAt W w' d mb (i + 1) (m + 2) p (rs ++ [r]) := by
  obtain ⟨n, x, Ls, A, B, h1, h2, h6, h7, h8, h9, h10, h11⟩ := h
  have had := log_add (rec := r) h1.log h1.calm (by omega) (by omega) (by omega)
  refine (s_append h1 dirX_ok a r L c (by omega) (by omega) (by omega) (by omega) hr hL hnil hz).mono ?_
  rintro e w' ⟨rfl, n', A', B', k1, k2, k3, k4⟩
  have hop : openN none (addL none Ls r) ≤ i + 1 + 1 := by
    rw [← had.op]
    have := rollX_le x dirX (openN none Ls)
    omega
  have := addL_len none Ls r
  exact ⟨rfl, n', _, _, A', B', k3, by rw [recsOf_add, h2], by omega, by omega, hop, by omega, by simp; omega, addL_good h11 (by omega)⟩
/-- The disk of a log: its segments, listed. -/
theorem se_list {W w : World} {d mb n : Nat} {x : DSt} {p : Nat} {Ls : Sg} {A B : Nat → Prop} (h : Se W w d mb n x p dirX none Ls A B) (hn : n ≤ 4194304) (w1 : World) (hg : w.grownBy w1 none) :
    Calls Tryz.prog 26 #[.pointer (some ⟨d, 0, none⟩), .string ⟨#[120, 47, 115]⟩] w1 fun e w' => ∃ a c, e = .returned (.slice a Ls.length c) ∧ SRd strE w' a (Ls.map fun q => segN dirX q.1) ∧ (∀ y, a = some y → w1.heap.size ≤ y.block) ∧ w1.grownBy w' none := by
  refine (x_list W.heap.size d mb n x B ⟨#[120, 47, 115]⟩ w1 (DV.kept h.at_.disk hg) h.calm.on hn).mono ?_
  rintro e w' ⟨a, c, l, rfl, hso, hg', hN, _⟩
  have hnm := h.log.folder.names
  have e0 : namesL dirX (cpNums none) false (Ls.map Prod.fst) = Ls.map fun q => segN dirX q.1 := by
    simp [namesL, cpNums, Function.comp_def]
  rw [e0] at hnm
  have hN2 : NamesOf x.V ⟨#[120, 47, 115]⟩ (Ls.map fun q => segN dirX q.1) := by
    refine ⟨hnm.1, hnm.2.1, fun s => ?_⟩
    constructor
    · intro hs
      refine ⟨((hnm.2.2 s).1 hs).1, ?_⟩
      obtain ⟨q, _, rfl⟩ := List.mem_map.1 hs
      exact seg_pre q.1
    · rintro ⟨s1, s2⟩
      exact (hnm.2.2 s).2 ⟨s1, hasPrefix_mid _ s2⟩
  have el := hN.uniq hN2
  have ell : l.length = Ls.length := by rw [el, List.length_map]
  rw [ell, el] at hso
  rw [ell]
  exact ⟨a, c, rfl, hso.rd, fun y hy => by subst hy; exact (hso.block y.block rfl).1, hg'⟩
/-- Something torn behind the last segment. -/
theorem torn_of {x : DSt} {Ls0 : Sg} {kl : Nat} {rl : List (List Int)} {syn : Nat} (h : Log x.V dirX none (Ls0 ++ [(kl, rl)])) (hV : x.V (segN dirX kl) = some (logB frameR rl, syn)) (fr : List Int) (k : Nat) (hfr : fr.length ≤ 65536) (hk : k < (frameR fr).length) :
    TornLog (setV x.V (segN dirX kl) (some (logB frameR rl ++ (frameR fr).take k, syn))) dirX none Ls0 (Ls0 ++ [(kl, rl)]) kl rl ((frameR fr).take k) syn := by
  have hw := h.whole (kl, rl) (by simp)
  have hne : ∀ q ∈ Ls0, q.1 ≠ kl := by
    intro q hq
    have h1 := h.folder.segr.1
    rw [List.map_append, List.pairwise_append] at h1
    have := h1.2.2 q.1 (List.mem_map.2 ⟨q, hq, rfl⟩) kl (by simp)
    omega
  refine ⟨rfl, ⟨h.folder.cpr, h.folder.segr, fun s => ?_⟩, rfl, Whole.other (fun q hq => h.whole q (List.mem_append_left _ hq)) hw.2.2 _ hne, setV_same _ _ _, FileRecs.torn rl fr k hw.2.1 hfr hk, h.above, h.big, hw.2.2, ?_⟩
  · rw [← h.folder.mem s]
    by_cases e : s = segN dirX kl
    · rw [e, setV_same, hV]
      simp
    · rw [setV_other _ _ e]
  · rw [setV_other _ _ (new_ne_seg dirX kl)]
    exact h.noNew
theorem recsOf_nil {Ls : Sg} (h : ∀ q ∈ Ls, Good q) (hr : recsOf Ls = []) : Ls = [] := by
  cases Ls with
  | nil => rfl
  | cons q Ls =>
    exfalso
    unfold recsOf at hr
    rw [List.flatMap_cons] at hr
    exact (h q (List.mem_cons_self ..)).1 (List.append_eq_nil_iff.1 hr).1
end Go.Proofs.YtekejnjaiccnbaaGreatDoor
