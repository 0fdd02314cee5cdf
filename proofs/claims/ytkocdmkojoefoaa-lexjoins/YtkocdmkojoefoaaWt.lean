/- LexTokens: the walk. -/
import Derived.Test.YtkocdmkojoefoaaAw
import Derived.Test.YtkocdmkojoefoaaSp
import Derived.Test.YtkocdmkojoefoaaRf
namespace Go.Proofs.Ytkocdmkojoefoaa
open Go.RowKit
set_option linter.unusedVariables false
set_option maxRecDepth 20000

theorem r_lex (s : ByteArray) (w : World) : Calls Try.prog 8 #[.string s] w fun e w' => LxOut (lexR s) w e w' := by
  unfold lexR
  by_cases h : 4096 < s.size
  · rw [if_pos h]
    have q0 : decide ((4096 : Int) < (s.size : Int)) = true := by simp; omega
    have q1 : (4096 : Int) < (s.size : Int) := by omega
    clear h
    go_enter Try.func8, Try.ntmps8
    go_wp2
    refine bodyPost_ret (v := .tuple #[.slice none 0 0, .int .i64 0, .int .i64 170]) (by simp [results, Try.results8, go_sem]) rfl ?_
    exact ⟨rfl, World.grownBy.refl _ _⟩
  · rw [if_neg h]
    exact r_lexR s _ w (by omega) rfl
theorem lex_len : ∀ (m at_ : Nat) (l : List Int) (ts : List Tok), l.length ≤ m → lexL at_ l = .ok ts → 1 ≤ ts.length ∧ ts.length ≤ l.length + 1 := by
  intro m
  induction m with
  | zero =>
    intro at_ l ts h e
    have : l = [] := List.eq_nil_of_length_eq_zero (by omega)
    subst this
    rw [lexL] at e
    cases e
    simp
  | succ m ih =>
    intro at_ l ts h e
    match l with
    | [] => rw [lexL] at e; cases e; simp
    | c :: r =>
      simp only [List.length_cons] at h ⊢
      rw [lexL] at e
      split at e
      · have := ih _ r ts (by omega) e
        omega
      · split at e
        · cases e
        · cases h2 : lexL (at_ + (tokR (c :: r)).1.2.2.2) (r.drop ((tokR (c :: r)).1.2.2.2 - 1)) with
          | bad p d => rw [h2] at e; cases e
          | ok us =>
            rw [h2] at e
            cases e
            have := ih _ (r.drop ((tokR (c :: r)).1.2.2.2 - 1)) us (by rw [List.length_drop]; omega) h2
            rw [List.length_drop] at this
            simp only [List.length_cons]
            omega
theorem lexR_len {s : ByteArray} {ts : List Tok} (h : lexR s = .ok ts) : 1 ≤ ts.length ∧ ts.length ≤ 4097 ∧ s.size ≤ 4096 := by
  unfold lexR at h
  by_cases hs : 4096 < s.size
  · rw [if_pos hs] at h; cases h
  · rw [if_neg hs] at h
    have := lex_len _ 0 (sInts s) ts (Nat.le_refl _) h
    rw [sInts_len] at this
    omega
set_option maxHeartbeats 4000000 in
theorem tokens_walk (s : ByteArray) (w : World) : Calls Try.prog 3 #[.string s] w fun e w' => e = .returned (.bool true) ∧ w.grownBy w' none := by
  have HF := f_lex s
  have HR := r_lex s
  cases hR : lexR s with
  | bad p c =>
    rw [hR] at HF HR
    have HF2 : Hid (∀ w, Calls Try.prog 9 #[.string s] w fun e w' => e = .returned (.tuple #[.slice none 0 0, .int .i64 (p : Int), .int .i64 c]) ∧ w.grownBy w' none) := HF
    have HR2 : Hid (∀ w, Calls Try.prog 8 #[.string s] w fun e w' => e = .returned (.tuple #[.slice none 0 0, .int .i64 (p : Int), .int .i64 c]) ∧ w.grownBy w' none) := HR
    have HS : Hid (∀ w, Calls Try.prog 10 #[.slice none 0 0, .slice none 0 0] w fun e w' => e = .returned (.bool true) ∧ w.grownBy w' none) := fun w => tsame none none [] [] 0 0 0 0 w (SRd.nil _ _) (SRd.nil _ _) rfl rfl (by omega)
    clear HF HR hR
    go_enter Try.func3, Try.ntmps3
    go_wp2_with fail
    refine (HR2.out _).mono ?_
    rintro e w1 ⟨rfl, hg1⟩
    have G1 := hid hg1
    clear hg1
    go_wp2_with fail
    refine (HF2.out _).mono ?_
    rintro e w2 ⟨rfl, hg2⟩
    have G2 := hid (G1.out.trans hg2)
    clear hg2 G1
    go_wp2_with fail
    refine (HF2.out _).mono ?_
    rintro e w3 ⟨rfl, hg3⟩
    have G3 := hid (G2.out.trans hg3)
    clear hg3 G2
    go_wp2_with fail
    refine (HS.out _).mono ?_
    rintro e w4 ⟨rfl, hg4⟩
    have G4 := hid (G3.out.trans hg4)
    clear hg4 G3
    go_wp2_with fail
    refine (tspoil_nil _).mono ?_
    rintro e w5 ⟨rfl, hg5⟩
    have G5 := hid (G4.out.trans hg5)
    clear hg5 G4
    go_wp2_with fail
    refine (HS.out _).mono ?_
    rintro e w6 ⟨rfl, hg6⟩
    have G6 := hid (G5.out.trans hg6)
    clear hg6 G5
    go_wp2_with fail
    refine (f_awake _).mono ?_
    rintro e w7 ⟨rfl, hg7⟩
    have G7 := hid (G6.out.trans hg7)
    clear hg7 G6
    go_wp2
    go_ret
    exact ⟨rfl, G7.out⟩
  | ok ts =>
    rw [hR] at HF HR
    obtain ⟨hl1, hl2, hl3⟩ := lexR_len hR
    have hne : ts ≠ [] := fun e => by rw [e] at hl1; simp at hl1
    have HF2 : Hid (∀ w, Calls Try.prog 9 #[.string s] w fun e w' => ∃ g c, e = .returned (.tuple #[.slice (some ⟨g, 0, none⟩) ts.length c, .int .i64 0, .int .i64 0]) ∧ SOwn tokE 32 w' w.heap.size (.slice (some ⟨g, 0, none⟩) ts.length c) ts.length ts ∧ w.grownBy w' none) := fun w => (HF w).mono fun e w' h => lx_slice h hne
    have HR2 : Hid (∀ w, Calls Try.prog 8 #[.string s] w fun e w' => ∃ g c, e = .returned (.tuple #[.slice (some ⟨g, 0, none⟩) ts.length c, .int .i64 0, .int .i64 0]) ∧ SOwn tokE 32 w' w.heap.size (.slice (some ⟨g, 0, none⟩) ts.length c) ts.length ts ∧ w.grownBy w' none) := fun w => (HR w).mono fun e w' h => lx_slice h hne
    have HS : Hid (∀ a b c d w, SRd tokE w a ts → SRd tokE w b ts → Calls Try.prog 10 #[.slice a ts.length c, .slice b ts.length d] w fun e w' => e = .returned (.bool true) ∧ w.grownBy w' none) := fun a b c d w h1 h2 => (tsame a b ts ts _ _ c d w h1 h2 rfl rfl (by omega)).mono fun e w' ⟨h3, h4⟩ => ⟨by rw [h3, decide_eq_true rfl], h4⟩
    have HSP : Hid (∀ g base c w, SOwn tokE 32 w base (.slice (some ⟨g, 0, none⟩) ts.length c) ts.length ts → Calls Try.prog 11 #[.slice (some ⟨g, 0, none⟩) ts.length c] w fun e w' => e = .returned (.tuple #[]) ∧ w.grownBy w' (some g)) := fun g base c w h => t_spoil g base _ c ts w h (by omega)
    clear HF HR hR hl1 hl3 hne
    generalize ts.length = n at HF2 HR2 HS HSP hl2
    go_enter Try.func3, Try.ntmps3
    go_wp2_with fail
    refine (HR2.out _).mono ?_
    rintro e w1 ⟨ga, ca, rfl, ho1, hg1⟩
    have G1 := hid hg1
    have BW0 : Hid (w.heap.size ≤ w1.heap.size) := hg1.size
    have OA1 := hid ho1
    clear hg1 ho1
    go_wp2_with fail
    refine (HF2.out _).mono ?_
    rintro e w2 ⟨gx, cx, rfl, ho2, hg2⟩
    have G2 := hid (G1.out.trans hg2)
    have OA2 := hid (SOwn.kept OA1.out hg2 (Classical.em _))
    have OX2 := hid ho2
    have B1 : Hid (ga < w1.heap.size) := (SOwn.block OA1.out ga rfl).2
    have B2 : Hid (w1.heap.size ≤ gx ∧ gx < w2.heap.size) := SOwn.block ho2 gx rfl
    clear hg2 ho2 G1 OA1
    go_wp2_with fail
    refine (HF2.out _).mono ?_
    rintro e w3 ⟨gy, cy, rfl, ho3, hg3⟩
    have G3 := hid (G2.out.trans hg3)
    have OA3 := hid (SOwn.kept OA2.out hg3 (Classical.em _))
    have OX3 := hid (SOwn.kept OX2.out hg3 (Classical.em _))
    have OY3 := hid ho3
    have B3 : Hid (w2.heap.size ≤ gy ∧ gy < w3.heap.size) := SOwn.block ho3 gy rfl
    clear hg3 ho3 G2 OA2 OX2
    go_wp2_with fail
    refine (HS.out _ _ _ _ _ (SOwn.rd OX3.out) (SOwn.rd OA3.out)).mono ?_
    rintro e w4 ⟨rfl, hg4⟩
    have G4 := hid (G3.out.trans hg4)
    have OA4 := hid (SOwn.kept OA3.out hg4 (Classical.em _))
    have OX4 := hid (SOwn.kept OX3.out hg4 (Classical.em _))
    have OY4 := hid (SOwn.kept OY3.out hg4 (Classical.em _))
    have BW := BW0
    clear hg4 G3 OA3 OX3 OY3
    go_wp2_with fail
    refine (HSP.out _ _ _ _ OX4.out).mono ?_
    rintro e w5 ⟨rfl, hg5⟩
    have G5 : Hid (w.grownBy w5 none) := gb_trans G4.out hg5 (fun k hk => .inl (by cases hk; have := BW.out; have := B2.out.1; omega))
    have OA5 := hid (SOwn.kept OA4.out hg5 (.inr (by simp [Value.ownBlock]; have := B1.out; have := B2.out; omega)))
    have OY5 := hid (SOwn.kept OY4.out hg5 (.inr (by simp [Value.ownBlock]; have := B3.out; have := B2.out; omega)))
    clear hg5 G4 OA4 OX4 OY4
    go_wp2_with fail
    refine (HS.out _ _ _ _ _ (SOwn.rd OY5.out) (SOwn.rd OA5.out)).mono ?_
    rintro e w6 ⟨rfl, hg6⟩
    have G6 := hid (G5.out.trans hg6)
    clear hg6 G5 OA5 OY5
    go_wp2_with fail
    refine (f_awake _).mono ?_
    rintro e w7 ⟨rfl, hg7⟩
    have G7 := hid (G6.out.trans hg7)
    clear hg7 G6
    go_wp2
    go_ret
    exact ⟨rfl, G7.out⟩
end Go.Proofs.Ytkocdmkojoefoaa
