/- The document's own Text. -/
import Derived.Test.YtailaehpgmpaaaaRquote
namespace Go.Proofs.Ytailaehpgmpaaaa
open Go.RowKit
set_option linter.unusedVariables false

/-- The text of the first k labels, not yet shut. -/
def textAt (ls : List Lab) : Nat → ByteArray
  | 0 => ⟨#[123]⟩
  | k + 1 => (if 0 < k then textAt ls k ++ ⟨#[44]⟩ else textAt ls k) ++ (ls.getD k (⟨#[]⟩, ⟨#[]⟩)).1 ++ ⟨#[61]⟩ ++ quoteR (ls.getD k (⟨#[]⟩, ⟨#[]⟩)).2
def labText (ls : List Lab) : ByteArray := textAt ls ls.length ++ ⟨#[125]⟩
theorem textAt_mono (ls : List Lab) (k : Nat) : (textAt ls k).size ≤ (textAt ls (k + 1)).size := by
  rw [textAt]
  split <;> simp only [ByteArray.size_append] <;> omega
theorem textAt_le (ls : List Lab) : ∀ (d k : Nat), (textAt ls k).size ≤ (textAt ls (k + d)).size := by
  intro d
  induction d with
  | zero => intro k; exact Nat.le_refl _
  | succ d ih => intro k; exact Nat.le_trans (ih k) (textAt_mono ls (k + d))


/-- Text, as its steps go. -/
structure Steps (ls : List Lab) (L : Nat) (TX : Nat → ByteArray) (R : ByteArray) : Prop where
  first : TX 0 = ⟨#[123]⟩
  step : ∀ (k : Nat) (p : Lab), ls[k]? = some p → TX (k + 1) = (if 0 < k then TX k ++ ⟨#[44]⟩ else TX k) ++ p.1 ++ ⟨#[61]⟩ ++ quoteR p.2
  last : TX L ++ ⟨#[125]⟩ = R
  size : ∀ k, k ≤ L → (TX k).size + 1 ≤ 9000000000000000000
theorem steps_text (ls : List Lab) (hB : (labText ls).size ≤ 9000000000000000000) : Steps ls ls.length (textAt ls) (labText ls) := by
  refine ⟨rfl, fun k p h => ?_, rfl, fun k hk => ?_⟩
  · rw [textAt, List.getD_eq_getElem?_getD, h]
    rfl
  · have h1 := textAt_le ls (ls.length - k) k
    rw [show k + (ls.length - k) = ls.length by omega] at h1
    have h2 : (labText ls).size = (textAt ls ls.length).size + 1 := by unfold labText; rw [ByteArray.size_append]; rfl
    omega

set_option maxHeartbeats 1000000 in
theorem text_walk (a : Option Addr) (ls : List Lab) (L c : Nat) (TX : Nat → ByteArray) (R : ByteArray) (w : World) (hx : SRd labE w a ls) (hL : ls.length = L) (hz : L ≤ 4398046511104) (hq : ∀ (k : Nat) (p : Lab), ls[k]? = some p → ∀ w, Calls Try.prog 53 #[.string p.2] w fun e w' => e = .returned (.string (quoteR p.2)) ∧ w.grownBy w' none) (hS : Steps ls L TX R) :
    Calls Try.prog 19 #[.slice a L c] w fun e w' => e = .returned (.string R) ∧ w.grownBy w' none := by
  have HX : Hid (SRd labE w a ls) := hx
  have HL : Hid (ls.length = L) := hL
  have HQ0 : Hid (∀ (k : Nat) (p : Lab), ls[k]? = some p → ∀ w, Calls Try.prog 53 #[.string p.2] w fun e w' => e = .returned (.string (quoteR p.2)) ∧ w.grownBy w' none) := hq
  have HS : Hid (Steps ls L TX R) := hS
  clear hx hL hq hS
  go_enter Try.func19, Try.ntmps19
  go_wp2
  go_loopw [3, 4] (fun t3 t4 wr => ∃ (k : Nat) (T : ByteArray), k ≤ L ∧ t4 = .int .i64 k ∧ t3 = .string T ∧ T = TX k ∧ w.grownBy wr none) (fun _ t4 _ => L - (intOf t4).toNat)
  case atStart => exact ⟨0, _, Nat.zero_le _, rfl, rfl, HS.out.first.symm, World.grownBy.refl _ _⟩
  case round =>
    obtain ⟨k, T, hk, rfl, rfl, hT, hg⟩ := hrel
    have HG : Hid (w.grownBy wr none) := hg
    have HTT : Hid (T = TX k) := hT
    clear hg hT
    by_cases hlt : k < L
    · have hl := HL.out
      obtain ⟨b, off, rfl, hc⟩ := HX.out.at (by omega)
      obtain ⟨⟨s1, s2⟩, ex⟩ : ∃ x, ls[k]? = some x := ⟨_, List.getElem?_eq_getElem (by omega)⟩
      have a0 : wr.cell? ⟨b, off + k * 2, none⟩ = some (.string s1) := HG.out.cell (hc k _ 0 _ ex rfl) (by simp)
      have a1 : wr.cell? ⟨b, off + k * 2 + 1, none⟩ = some (.string s2) := by rw [Nat.add_assoc]; exact HG.out.cell (hc k _ 1 _ ex rfl) (by simp)
      have HQ : Hid (∀ w, Calls Try.prog 53 #[.string s2] w fun e w' => e = .returned (.string (quoteR s2)) ∧ w.grownBy w' none) := HQ0.out k _ ex
      have HT : Hid (TX (k + 1) = (if 0 < k then T ++ ⟨#[44]⟩ else T) ++ s1 ++ ⟨#[61]⟩ ++ quoteR s2) := by have h := HS.out.step k _ ex; rw [← HTT.out] at h; exact h
      have hsz := HS.out.size (k + 1) (by omega)
      rw [HT.out] at hsz
      have hki : (k : Int) < (L : Int) := by omega
      generalize quoteR s2 = q at HQ HT hsz
      by_cases h0 : 0 < k
      · rw [if_pos h0] at HT hsz
        simp only [ByteArray.size_append] at hsz
        have z44 : (⟨#[44]⟩ : ByteArray).size = 1 := rfl
        have z61 : (⟨#[61]⟩ : ByteArray).size = 1 := rfl
        rw [z44, z61] at hsz
        have p1 : ∀ w, (Op.stringOp .add T ⟨#[44]⟩).run Try.prog w = .ok (.string (T ++ ⟨#[44]⟩)) w := fun w => by exact run_string_add_sum w T _ (by rw [z44]; omega)
        have p2 : ∀ w, (Op.stringOp .add (T ++ ⟨#[44]⟩) s1).run Try.prog w = .ok (.string (T ++ ⟨#[44]⟩ ++ s1)) w := fun w => by exact run_string_add_sum w _ _ (by simp only [ByteArray.size_append]; rw [z44]; omega)
        have p3 : ∀ w, (Op.stringOp .add (T ++ ⟨#[44]⟩ ++ s1) ⟨#[61]⟩).run Try.prog w = .ok (.string (T ++ ⟨#[44]⟩ ++ s1 ++ ⟨#[61]⟩)) w := fun w => by exact run_string_add_sum w _ _ (by simp only [ByteArray.size_append]; rw [z44, z61]; omega)
        have p4 : ∀ w, (Op.stringOp .add (T ++ ⟨#[44]⟩ ++ s1 ++ ⟨#[61]⟩) q).run Try.prog w = .ok (.string (T ++ ⟨#[44]⟩ ++ s1 ++ ⟨#[61]⟩ ++ q)) w := fun w => by exact run_string_add_sum w _ _ (by simp only [ByteArray.size_append]; rw [z44, z61]; omega)
        obtain ⟨T1, e1⟩ : ∃ T1, T ++ ⟨#[44]⟩ = T1 := ⟨_, rfl⟩
        rw [e1] at p1 p2 p3 p4 HT
        obtain ⟨T2, e2⟩ : ∃ T2, T1 ++ s1 = T2 := ⟨_, rfl⟩
        rw [e2] at p2 p3 p4 HT
        obtain ⟨T3, e3⟩ : ∃ T3, T2 ++ ⟨#[61]⟩ = T3 := ⟨_, rfl⟩
        rw [e3] at p3 p4 HT
        obtain ⟨T4, e4⟩ : ∃ T4, T3 ++ q = T4 := ⟨_, rfl⟩
        rw [e4] at p4 HT
        have h0' : 0 < k := h0
        clear hc ex hl h0 hsz e1 e2 e3 e4 z44 z61
        go_wp2
        refine wp_region_held_drew (S := fun w' => wr.grownBy w' none) (by kernel_rfl) (gb_drew (World.grownBy.refl wr none)) (fun hSS => ?_)
        refine draw_takeS 0 (v := ?_) rfl (by kernel_rfl) (by kernel_rfl) (by kernel_rfl) (fun _ _ _ h => h) (by rfl) hSS ?_ ?_
        rotate_left
        · intro w hS; have c0 := hS.cell a0 (by simp); have c1 := hS.cell a1 (by simp); go_simp; try with_reducible rfl
        try simp only [Act.put, List.setIfInBounds_toArray, List.set_cons_zero, List.set_cons_succ]
        refine draw_takeS 1 (v := ?_) rfl (by kernel_rfl) (by kernel_rfl) (by kernel_rfl) (fun _ _ _ h => h) (by rfl) hSS ?_ ?_
        rotate_left
        · intro w hS; have c0 := hS.cell a0 (by simp); have c1 := hS.cell a1 (by simp); go_simp; try with_reducible rfl
        try simp only [Act.put, List.setIfInBounds_toArray, List.set_cons_zero, List.set_cons_succ]
        refine draw_takeS 2 (v := ?_) rfl (by kernel_rfl) (by kernel_rfl) (by kernel_rfl) (fun _ _ _ h => h) (by rfl) hSS ?_ ?_
        rotate_left
        · intro w hS; have c0 := hS.cell a0 (by simp); have c1 := hS.cell a1 (by simp); go_simp; try with_reducible rfl
        try simp only [Act.put, List.setIfInBounds_toArray, List.set_cons_zero, List.set_cons_succ]
        refine draw_takeS 3 (v := ?_) rfl (by kernel_rfl) (by kernel_rfl) (by kernel_rfl) (fun _ _ _ h => h) (by rfl) hSS ?_ ?_
        rotate_left
        · intro w hS; have c0 := hS.cell a0 (by simp); have c1 := hS.cell a1 (by simp); go_simp; try with_reducible rfl
        try simp only [Act.put, List.setIfInBounds_toArray, List.set_cons_zero, List.set_cons_succ]
        refine draw_takeS 4 (v := ?_) rfl (by kernel_rfl) (by kernel_rfl) (by kernel_rfl) (fun _ _ _ h => h) (by rfl) hSS ?_ ?_
        rotate_left
        · intro w hS; have c0 := hS.cell a0 (by simp); have c1 := hS.cell a1 (by simp); go_simp; try with_reducible rfl
        try simp only [Act.put, List.setIfInBounds_toArray, List.set_cons_zero, List.set_cons_succ]
        refine draw_takeS 5 (v := ?_) rfl (by kernel_rfl) (by kernel_rfl) (by kernel_rfl) (fun _ _ _ h => h) (by rfl) hSS ?_ ?_
        rotate_left
        · intro w hS; have c0 := hS.cell a0 (by simp); have c1 := hS.cell a1 (by simp); go_simp; try with_reducible rfl
        try simp only [Act.put, List.setIfInBounds_toArray, List.set_cons_zero, List.set_cons_succ]
        refine draw_takeS 6 (v := ?_) rfl (by kernel_rfl) (by kernel_rfl) (by kernel_rfl) (fun _ _ _ h => h) (by rfl) hSS ?_ ?_
        rotate_left
        · intro w hS; have c0 := hS.cell a0 (by simp); have c1 := hS.cell a1 (by simp); go_simp; try with_reducible rfl
        try simp only [Act.put, List.setIfInBounds_toArray, List.set_cons_zero, List.set_cons_succ]
        refine draw_takeS 7 (v := ?_) rfl (by kernel_rfl) (by kernel_rfl) (by kernel_rfl) (fun _ _ _ h => h) (by rfl) hSS ?_ ?_
        rotate_left
        · intro w hS; have c0 := hS.cell a0 (by simp); have c1 := hS.cell a1 (by simp); go_simp; try with_reducible rfl
        try simp only [Act.put, List.setIfInBounds_toArray, List.set_cons_zero, List.set_cons_succ]
        refine draw_takeS 8 (v := ?_) rfl (by kernel_rfl) (by kernel_rfl) (by kernel_rfl) (fun _ _ _ h => h) (by rfl) hSS ?_ ?_
        rotate_left
        · intro w hS; have c0 := hS.cell a0 (by simp); have c1 := hS.cell a1 (by simp); go_simp; try with_reducible rfl
        try simp only [Act.put, List.setIfInBounds_toArray, List.set_cons_zero, List.set_cons_succ]
        refine draw_takeS 9 (v := ?_) rfl (by kernel_rfl) (by kernel_rfl) (by kernel_rfl) (fun _ _ _ h => h) (by rfl) hSS ?_ ?_
        rotate_left
        · intro w hS; have c0 := hS.cell a0 (by simp); have c1 := hS.cell a1 (by simp); go_simp; try with_reducible rfl
        try simp only [Act.put, List.setIfInBounds_toArray, List.set_cons_zero, List.set_cons_succ]
        refine draw_takeS 10 (v := ?_) rfl (by kernel_rfl) (by kernel_rfl) (by kernel_rfl) (fun _ _ _ h => h) (by rfl) hSS ?_ ?_
        rotate_left
        · intro w hS; have c0 := hS.cell a0 (by simp); have c1 := hS.cell a1 (by simp); go_simp; try with_reducible rfl
        try simp only [Act.put, List.setIfInBounds_toArray, List.set_cons_zero, List.set_cons_succ]
        refine draw_takeS 11 (v := ?_) rfl (by kernel_rfl) (by kernel_rfl) (by kernel_rfl) (fun _ _ _ h => h) (by rfl) hSS ?_ ?_
        rotate_left
        · intro w hS; have c0 := hS.cell a0 (by simp); have c1 := hS.cell a1 (by simp); go_simp; try with_reducible rfl
        try simp only [Act.put, List.setIfInBounds_toArray, List.set_cons_zero, List.set_cons_succ]
        refine draw_takeS 12 (v := ?_) rfl (by kernel_rfl) (by kernel_rfl) (by kernel_rfl) (fun _ _ _ h => h) (by rfl) hSS ?_ ?_
        rotate_left
        · intro w hS; have c0 := hS.cell a0 (by simp); have c1 := hS.cell a1 (by simp); go_simp; try with_reducible rfl
        try simp only [Act.put, List.setIfInBounds_toArray, List.set_cons_zero, List.set_cons_succ]
        refine draw_oneS 13 rfl (by kernel_rfl) (by rfl) (fun K hK => ?_)
        go_simp
        refine (HQ.out _).mono ?_
        rintro e w2 ⟨rfl, hg2⟩
        have hSS2 := hSS.trans hg2
        clear hSS hg2
        have hSS := hSS2
        clear hSS2
        refine hK.out _ _ hSS ?_
        clear hK K
        try simp only [Act.put, List.setIfInBounds_toArray, List.set_cons_zero, List.set_cons_succ]
        refine draw_takeS 14 (v := ?_) rfl (by kernel_rfl) (by kernel_rfl) (by kernel_rfl) (fun _ _ _ h => h) (by rfl) hSS ?_ ?_
        rotate_left
        · intro w hS; go_simp; try with_reducible rfl
        try simp only [Act.put, List.setIfInBounds_toArray, List.set_cons_zero, List.set_cons_succ]
        refine draw_takeS 15 (v := ?_) rfl (by kernel_rfl) (by kernel_rfl) (by kernel_rfl) (fun _ _ _ h => h) (by rfl) hSS ?_ ?_
        rotate_left
        · intro w hS; go_simp; try with_reducible rfl
        try simp only [Act.put, List.setIfInBounds_toArray, List.set_cons_zero, List.set_cons_succ]
        refine wpAnyH_done (by kernel_rfl) ?_ _
        go_wp2
        go_roundw
        case rel => exact ⟨k + 1, T4, by omega, by go_num, rfl, HT.out.symm, HG.out.trans hSS⟩
        case measure => simp [intOf]; omega
      · rw [if_neg h0] at HT hsz
        simp only [ByteArray.size_append] at hsz
        have z61 : (⟨#[61]⟩ : ByteArray).size = 1 := rfl
        rw [z61] at hsz
        have p2 : ∀ w, (Op.stringOp .add T s1).run Try.prog w = .ok (.string (T ++ s1)) w := fun w => by exact run_string_add_sum w _ _ (by omega)
        have p3 : ∀ w, (Op.stringOp .add (T ++ s1) ⟨#[61]⟩).run Try.prog w = .ok (.string (T ++ s1 ++ ⟨#[61]⟩)) w := fun w => by exact run_string_add_sum w _ _ (by simp only [ByteArray.size_append]; rw [z61]; omega)
        have p4 : ∀ w, (Op.stringOp .add (T ++ s1 ++ ⟨#[61]⟩) q).run Try.prog w = .ok (.string (T ++ s1 ++ ⟨#[61]⟩ ++ q)) w := fun w => by exact run_string_add_sum w _ _ (by simp only [ByteArray.size_append]; rw [z61]; omega)
        obtain ⟨T2, e2⟩ : ∃ T2, T ++ s1 = T2 := ⟨_, rfl⟩
        rw [e2] at p2 p3 p4 HT
        obtain ⟨T3, e3⟩ : ∃ T3, T2 ++ ⟨#[61]⟩ = T3 := ⟨_, rfl⟩
        rw [e3] at p3 p4 HT
        obtain ⟨T4, e4⟩ : ∃ T4, T3 ++ q = T4 := ⟨_, rfl⟩
        rw [e4] at p4 HT
        have h0' : ¬ 0 < k := h0
        clear hc ex hl h0 hsz e2 e3 e4 z61
        go_wp2
        refine wp_region_held_drew (S := fun w' => wr.grownBy w' none) (by kernel_rfl) (gb_drew (World.grownBy.refl wr none)) (fun hSS => ?_)
        refine draw_takeS 0 (v := ?_) rfl (by kernel_rfl) (by kernel_rfl) (by kernel_rfl) (fun _ _ _ h => h) (by rfl) hSS ?_ ?_
        rotate_left
        · intro w hS; have c0 := hS.cell a0 (by simp); have c1 := hS.cell a1 (by simp); go_simp; try with_reducible rfl
        try simp only [Act.put, List.setIfInBounds_toArray, List.set_cons_zero, List.set_cons_succ]
        refine draw_takeS 1 (v := ?_) rfl (by kernel_rfl) (by kernel_rfl) (by kernel_rfl) (fun _ _ _ h => h) (by rfl) hSS ?_ ?_
        rotate_left
        · intro w hS; have c0 := hS.cell a0 (by simp); have c1 := hS.cell a1 (by simp); go_simp; try with_reducible rfl
        try simp only [Act.put, List.setIfInBounds_toArray, List.set_cons_zero, List.set_cons_succ]
        refine draw_takeS 2 (v := ?_) rfl (by kernel_rfl) (by kernel_rfl) (by kernel_rfl) (fun _ _ _ h => h) (by rfl) hSS ?_ ?_
        rotate_left
        · intro w hS; have c0 := hS.cell a0 (by simp); have c1 := hS.cell a1 (by simp); go_simp; try with_reducible rfl
        try simp only [Act.put, List.setIfInBounds_toArray, List.set_cons_zero, List.set_cons_succ]
        refine draw_takeS 3 (v := ?_) rfl (by kernel_rfl) (by kernel_rfl) (by kernel_rfl) (fun _ _ _ h => h) (by rfl) hSS ?_ ?_
        rotate_left
        · intro w hS; have c0 := hS.cell a0 (by simp); have c1 := hS.cell a1 (by simp); go_simp; try with_reducible rfl
        try simp only [Act.put, List.setIfInBounds_toArray, List.set_cons_zero, List.set_cons_succ]
        refine draw_takeS 4 (v := ?_) rfl (by kernel_rfl) (by kernel_rfl) (by kernel_rfl) (fun _ _ _ h => h) (by rfl) hSS ?_ ?_
        rotate_left
        · intro w hS; have c0 := hS.cell a0 (by simp); have c1 := hS.cell a1 (by simp); go_simp; try with_reducible rfl
        try simp only [Act.put, List.setIfInBounds_toArray, List.set_cons_zero, List.set_cons_succ]
        refine draw_takeS 5 (v := ?_) rfl (by kernel_rfl) (by kernel_rfl) (by kernel_rfl) (fun _ _ _ h => h) (by rfl) hSS ?_ ?_
        rotate_left
        · intro w hS; have c0 := hS.cell a0 (by simp); have c1 := hS.cell a1 (by simp); go_simp; try with_reducible rfl
        try simp only [Act.put, List.setIfInBounds_toArray, List.set_cons_zero, List.set_cons_succ]
        refine draw_takeS 6 (v := ?_) rfl (by kernel_rfl) (by kernel_rfl) (by kernel_rfl) (fun _ _ _ h => h) (by rfl) hSS ?_ ?_
        rotate_left
        · intro w hS; have c0 := hS.cell a0 (by simp); have c1 := hS.cell a1 (by simp); go_simp; try with_reducible rfl
        try simp only [Act.put, List.setIfInBounds_toArray, List.set_cons_zero, List.set_cons_succ]
        refine draw_takeS 7 (v := ?_) rfl (by kernel_rfl) (by kernel_rfl) (by kernel_rfl) (fun _ _ _ h => h) (by rfl) hSS ?_ ?_
        rotate_left
        · intro w hS; have c0 := hS.cell a0 (by simp); have c1 := hS.cell a1 (by simp); go_simp; try with_reducible rfl
        try simp only [Act.put, List.setIfInBounds_toArray, List.set_cons_zero, List.set_cons_succ]
        refine draw_takeS 8 (v := ?_) rfl (by kernel_rfl) (by kernel_rfl) (by kernel_rfl) (fun _ _ _ h => h) (by rfl) hSS ?_ ?_
        rotate_left
        · intro w hS; have c0 := hS.cell a0 (by simp); have c1 := hS.cell a1 (by simp); go_simp; try with_reducible rfl
        try simp only [Act.put, List.setIfInBounds_toArray, List.set_cons_zero, List.set_cons_succ]
        refine draw_takeS 9 (v := ?_) rfl (by kernel_rfl) (by kernel_rfl) (by kernel_rfl) (fun _ _ _ h => h) (by rfl) hSS ?_ ?_
        rotate_left
        · intro w hS; have c0 := hS.cell a0 (by simp); have c1 := hS.cell a1 (by simp); go_simp; try with_reducible rfl
        try simp only [Act.put, List.setIfInBounds_toArray, List.set_cons_zero, List.set_cons_succ]
        refine draw_takeS 10 (v := ?_) rfl (by kernel_rfl) (by kernel_rfl) (by kernel_rfl) (fun _ _ _ h => h) (by rfl) hSS ?_ ?_
        rotate_left
        · intro w hS; have c0 := hS.cell a0 (by simp); have c1 := hS.cell a1 (by simp); go_simp; try with_reducible rfl
        try simp only [Act.put, List.setIfInBounds_toArray, List.set_cons_zero, List.set_cons_succ]
        refine draw_takeS 11 (v := ?_) rfl (by kernel_rfl) (by kernel_rfl) (by kernel_rfl) (fun _ _ _ h => h) (by rfl) hSS ?_ ?_
        rotate_left
        · intro w hS; have c0 := hS.cell a0 (by simp); have c1 := hS.cell a1 (by simp); go_simp; try with_reducible rfl
        try simp only [Act.put, List.setIfInBounds_toArray, List.set_cons_zero, List.set_cons_succ]
        refine draw_takeS 12 (v := ?_) rfl (by kernel_rfl) (by kernel_rfl) (by kernel_rfl) (fun _ _ _ h => h) (by rfl) hSS ?_ ?_
        rotate_left
        · intro w hS; have c0 := hS.cell a0 (by simp); have c1 := hS.cell a1 (by simp); go_simp; try with_reducible rfl
        try simp only [Act.put, List.setIfInBounds_toArray, List.set_cons_zero, List.set_cons_succ]
        refine draw_oneS 13 rfl (by kernel_rfl) (by rfl) (fun K hK => ?_)
        go_simp
        refine (HQ.out _).mono ?_
        rintro e w2 ⟨rfl, hg2⟩
        have hSS2 := hSS.trans hg2
        clear hSS hg2
        have hSS := hSS2
        clear hSS2
        refine hK.out _ _ hSS ?_
        clear hK K
        try simp only [Act.put, List.setIfInBounds_toArray, List.set_cons_zero, List.set_cons_succ]
        refine draw_takeS 14 (v := ?_) rfl (by kernel_rfl) (by kernel_rfl) (by kernel_rfl) (fun _ _ _ h => h) (by rfl) hSS ?_ ?_
        rotate_left
        · intro w hS; go_simp; try with_reducible rfl
        try simp only [Act.put, List.setIfInBounds_toArray, List.set_cons_zero, List.set_cons_succ]
        refine draw_takeS 15 (v := ?_) rfl (by kernel_rfl) (by kernel_rfl) (by kernel_rfl) (fun _ _ _ h => h) (by rfl) hSS ?_ ?_
        rotate_left
        · intro w hS; go_simp; try with_reducible rfl
        try simp only [Act.put, List.setIfInBounds_toArray, List.set_cons_zero, List.set_cons_succ]
        refine wpAnyH_done (by kernel_rfl) ?_ _
        go_wp2
        go_roundw
        case rel => exact ⟨k + 1, T4, by omega, by go_num, rfl, HT.out.symm, HG.out.trans hSS⟩
        case measure => simp [intOf]; omega
    · obtain rfl : k = L := by omega
      have hki : ¬ (k : Int) < (k : Int) := by omega
      have hsz := HS.out.size k (Nat.le_refl _)
      rw [← HTT.out] at hsz
      have p5 : ∀ w, (Op.stringOp .add T ⟨#[125]⟩).run Try.prog w = .ok (.string R) w := fun w => by
        rw [run_string_add_sum w T ⟨#[125]⟩ (by show _ + 1 ≤ _; omega), HTT.out, HS.out.last]
      clear hsz
      go_wp2
      go_ret
      exact ⟨rfl, HG.out⟩
theorem r_text (a : Option Addr) (ls : List Lab) (L c : Nat) (w : World) (hx : SRd labE w a ls) (hL : ls.length = L) (hz : L ≤ 4398046511104) (hq : ∀ p ∈ ls, p.2.size ≤ 70368744177000) (hB : (labText ls).size ≤ 9000000000000000000) :
    Calls Try.prog 19 #[.slice a L c] w fun e w' => e = .returned (.string (labText ls)) ∧ w.grownBy w' none := by
  have hS := steps_text ls hB
  rw [hL] at hS
  exact text_walk a ls L c _ _ w hx hL hz (fun k p h w => r_quote p.2 w (hq p (List.mem_of_getElem? h))) hS
end Go.Proofs.Ytailaehpgmpaaaa
