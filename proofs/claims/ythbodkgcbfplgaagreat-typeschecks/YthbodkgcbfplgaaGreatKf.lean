/- Package types: texts and groups of a node. -/
import Derived.Test.YthbodkgcbfplgaaGreatZf
import Derived.Test.YthbodkgcbfplgaaGreatZk
namespace Go.Proofs.YthbodkgcbfplgaaGreat
open Go.RowKit
set_option linter.unusedVariables false
set_option linter.unusedSimpArgs false
set_option maxRecDepth 20000

theorem f_isNumber (s : ByteArray) (w : World) : Calls Tryz.prog 67 #[.string s] w fun e w' => e = .returned (.bool (isNumT s)) ∧ w.grownBy w' none := by
  have HP := hid (f_parse s w)
  unfold isNumT
  cases hp : parseR s with
  | bad p c =>
    rw [hp] at HP
    have HQ : Hid (Calls Tryz.prog 12 #[.string s] w fun e w' => e = .returned (.tuple #[.slice none 0 0, .int .i64 p, .int .i64 c]) ∧ w.grownBy w' none) := HP.out
    clear hp HP
    go_enter Tryz.func67, Tryz.ntmps67
    go_wp2_with fail
    refine HQ.out.mono ?_
    rintro e w1 ⟨rfl, g1⟩
    have G1 := hid g1
    clear g1
    go_wp2
    go_ret
    exact ⟨rfl, G1.out⟩
  | ok ns =>
    rw [hp] at HP
    obtain ⟨hf, hk, hl⟩ := parse_nodes hp
    have h0 : 0 < ns.length := by
      cases ns with
      | nil => cases hk
      | cons x r => simp
    have HQ : Hid (Calls Tryz.prog 12 #[.string s] w fun e w' => ∃ g c Q, e = .returned (.tuple #[.slice (some ⟨g, 0, none⟩) ns.length c, .int .i64 0, .int .i64 0]) ∧ SRd ndE w' (some ⟨g, 0, none⟩) Q ∧ Q.map (·.1) = ns ∧ w.grownBy w' none) := HP.out.mono fun e w' h2 => by
      obtain ⟨v, Q, rfl, hnd, hq, hg⟩ := h2
      have hl : Q.length = ns.length := by rw [← hq, List.length_map]
      obtain ⟨g, c, rfl, hr⟩ := hnd.some (by omega)
      rw [hl]
      exact ⟨g, c, Q, rfl, hr, hq, hg⟩
    clear hp HP hf hk
    cases ns with
    | nil => simp at h0
    | cons x r =>
      cases r with
      | nil =>
        show Calls Tryz.prog 67 #[.string s] w fun e w' => e = .returned (.bool (decide (x.text = s))) ∧ w.grownBy w' none
        have HE : Hid ((x.text.toList == s.toList) = decide (x.text = s)) := str_eq _ _
        have HQ2 : Hid (Calls Tryz.prog 12 #[.string s] w fun e w' => ∃ g c Q, e = .returned (.tuple #[.slice (some ⟨g, 0, none⟩) 1 c, .int .i64 0, .int .i64 0]) ∧ SRd ndE w' (some ⟨g, 0, none⟩) Q ∧ Q.map (·.1) = [x] ∧ w.grownBy w' none) := HQ.out
        clear HQ h0 hl
        go_enter Tryz.func67, Tryz.ntmps67
        go_wp2_with fail
        refine HQ2.out.mono ?_
        rintro e w1 ⟨g, c, Q, rfl, hr, hq, g1⟩
        have G1 := hid g1
        obtain ⟨q, hq0, hqx⟩ := row_of (i := 0) hq rfl
        obtain ⟨-, -, d2, -⟩ := nd_cells (i := 0) hr hq0
        rw [hqx] at d2
        simp only [Nat.zero_mul, Nat.zero_add, Nat.add_zero] at d2
        clear g1 hr hq hq0 hqx
        go_wp2
        go_ret
        exact ⟨ret_bool (by rw [← HE.out]), G1.out⟩
      | cons y r2 =>
        have h2 : ¬ (((x :: y :: r2).length : Int) = 1) := by simp only [List.length_cons]; omega
        generalize (x :: y :: r2).length = N at HQ h2
        have q0 : ((N : Int) == 1) = false := by simpa using h2
        clear h0 hl h2
        go_enter Tryz.func67, Tryz.ntmps67
        go_wp2_with fail
        refine HQ.out.mono ?_
        rintro e w1 ⟨g, c, Q, rfl, hr, hq, g1⟩
        have G1 := hid g1
        clear g1 hr hq
        go_wp2
        go_ret
        exact ⟨rfl, G1.out⟩
theorem f_takesText (f : Fo) (s : ByteArray) (w : World) : Calls Tryz.prog 50 #[.agg (foA f), .string s] w fun e w' => e = .returned (.bool (textB f s)) ∧ w.grownBy w' none := by
  have G0 := hid (World.grownBy_alloc w (.cells (foA f) 83) none)
  have HN : Hid (∀ w, Calls Tryz.prog 67 #[.string s] w fun e w' => e = .returned (.bool (isNumT s)) ∧ w.grownBy w' none) := fun w => f_isNumber s w
  obtain ⟨b1, b2, b3, o, wi, ba, gr, pa⟩ := f
  unfold textB
  generalize isNumT s = t at HN ⊢
  unfold foA at *
  cases b1 with
  | true =>
    go_enter Tryz.func50, Tryz.ntmps50
    go_wp2_with fail
    refine (HN.out _).mono ?_
    rintro e w1 ⟨rfl, g1⟩
    have G1 := hid (G0.out.trans g1)
    clear g1
    go_wp2
    go_ret
    exact ⟨rfl, G1.out⟩
  | false =>
    have HE : Hid ((s.toList == (⟨#[]⟩ : ByteArray).toList) = decide (s = ⟨#[]⟩)) := str_eq _ _
    go_enter Tryz.func50, Tryz.ntmps50
    go_wp2
    go_ret
    exact ⟨ret_bool (by show _ = decide (s = ⟨#[]⟩); rw [← HE.out]; have e : (⟨#[]⟩ : ByteArray).toList = [] := (by decide +kernel); rw [e]; cases s.toList <;> rfl), G0.out⟩
theorem f_noName (s : ByteArray) (w : World) : Calls Tryz.prog 69 #[.string s] w fun e w' => e = .returned (.bool (!nameB s)) ∧ w = w' := by
  have HN : Hid (∀ w, Calls Tryz.prog 71 #[.string s] w fun e w' => e = .returned (.bool (nameB s)) ∧ w = w') := fun w => f_ofLabel s w
  generalize nameB s = b at HN ⊢
  go_enter Tryz.func69, Tryz.ntmps69
  go_wp2_with fail
  refine (HN.out _).mono ?_
  rintro e w1 ⟨rfl, rfl⟩
  go_wp2
  go_ret
  exact ⟨rfl, rfl⟩
theorem f_indexN (a : Option Addr) (c : Nat) (l : List ByteArray) (w : World) (h : SRd strE w a l) (hl : l.length ≤ 9223372036854775807) :
    Calls Tryz.prog 82 #[.slice a l.length c, .func (.func 69) #[] #[]] w fun e w' => ∃ r : Int, e = .returned (.int .i64 r) ∧ Hid (decide (0 ≤ r) = !l.all nameB) ∧ w' = w := by
  have H := hid h
  clear h
  go_enter Tryz.func82, Tryz.ntmps82
  go_wp2
  go_loopw [8] (fun t8 wr => ∃ k : Nat, k ≤ l.length ∧ t8 = .int .i64 (k : Int) ∧ wr = w ∧ (l.take k).all nameB = true) (fun t8 _ => l.length - (intOf t8).toNat)
  case atStart => exact ⟨0, Nat.zero_le _, rfl, rfl, by simp⟩
  case round =>
    obtain ⟨k, hk, rfl, rfl, hj⟩ := hrel
    have HJ := hid hj
    clear hj
    by_cases hlt : k < l.length
    · have hki : (k : Int) < (l.length : Int) := by omega
      obtain ⟨x, hx⟩ : ∃ x, l[k]? = some x := ⟨_, List.getElem?_eq_getElem hlt⟩
      obtain ⟨bb, oo, ea, _⟩ := H.out.at (by omega)
      have hc := str_cell (by rw [← ea]; exact H.out) hx
      have HF := hid (f_noName x)
      have HT : Hid ((l.take (k + 1)).all nameB = ((l.take k).all nameB && nameB x)) := by
        show _ = _
        rw [List.take_add_one, hx]
        simp
      have HM : Hid (l.all nameB = true → nameB x = true) := fun h => by
        rw [List.all_eq_true] at h
        exact h x (List.mem_of_getElem? hx)
      subst ea
      clear hx
      cases hb : nameB x with
      | true =>
        rw [hb] at HF
        have HN : Hid ((l.take (k + 1)).all nameB = true) := by show _ = _; rw [HT.out, HJ.out, hb]; rfl
        clear hb
        go_wp2_with fail
        refine (HF.out _).mono ?_
        rintro e w2 ⟨rfl, rfl⟩
        go_wp2
        go_roundw
        case rel => exact ⟨k + 1, by omega, by go_num, by simp, HN.out⟩
        case measure => simp [intOf]; omega
      | false =>
        rw [hb] at HF
        have HN : Hid (l.all nameB = false) := by
          show _ = _
          rw [Bool.eq_false_iff]
          intro h
          rw [HM.out h] at hb
          cases hb
        clear hb
        go_wp2_with fail
        refine (HF.out _).mono ?_
        rintro e w2 ⟨rfl, rfl⟩
        go_wp2
        go_ret
        exact ⟨k, rfl, by show _ = _; rw [HN.out, decide_eq_true (by omega)]; rfl, rfl⟩
    · have hki : ¬ (k : Int) < (l.length : Int) := by omega
      have HN : Hid (l.all nameB = true) := by
        show _ = _
        have := HJ.out
        rw [List.take_of_length_le (by omega)] at this
        exact this
      go_wp2
      go_ret
      exact ⟨-1, rfl, by show _ = _; rw [HN.out]; rfl, rfl⟩
theorem f_contains2 (a : Option Addr) (c : Nat) (l : List ByteArray) (w : World) (h : SRd strE w a l) (hl : l.length ≤ 9223372036854775807) :
    Calls Tryz.prog 68 #[.slice a l.length c, .func (.func 69) #[] #[]] w fun e w' => e = .returned (.bool (!l.all nameB)) ∧ w' = w := by
  have HI := hid (f_indexN a c l w h hl)
  clear h
  go_enter Tryz.func68, Tryz.ntmps68
  go_wp2_with fail
  refine HI.out.mono ?_
  rintro e w1 ⟨r, rfl, hr, rfl⟩
  go_wp2
  go_ret
  exact ⟨ret_bool (by rw [← hr.out]), rfl⟩
theorem f_takesGroup (f : Fo) (g : Int) (a : Option Addr) (c : Nat) (l : List ByteArray) (w : World) (h : SRd strE w a l) (hl : l.length ≤ 9223372036854775807) :
    Calls Tryz.prog 51 #[.agg (foA f), .int .i64 g, .slice a l.length c] w fun e w' => e = .returned (.bool (grpB f g l)) ∧ w.grownBy w' none := by
  have g0 := World.grownBy_alloc w (.cells (foA f) 83) none
  have G0 := hid g0
  have HC : Hid (∀ W, w.grownBy W none → Calls Tryz.prog 68 #[.slice a l.length c, .func (.func 69) #[] #[]] W fun e w' => e = .returned (.bool (!l.all nameB)) ∧ w' = W) := fun W hg => f_contains2 a c l W (h.grown hg (by simp)) hl
  have HH : Hid (∀ W, Calls Tryz.prog 49 #[.agg (spA f.groups), .int .i64 g] W fun e w' => e = .returned (.bool (inB f.groups g)) ∧ W.grownBy w' none) := fun W => f_has _ _ W
  obtain ⟨b1, b2, b3, o, wi, ba, gr, pa⟩ := f
  unfold grpB
  by_cases hg : g = 0
  · rw [if_pos hg]
    have q0 : (g == 0) = true := by simp [hg]
    have HE : Hid (((l.length : Int) == 0) = decide (l = [])) := by
      show _ = _
      cases l with
      | nil => rfl
      | cons z r => rw [decide_eq_false (by simp)]; simp only [List.length_cons]; simp; omega
    clear hg h g0
    unfold foA at *
    go_enter Tryz.func51, Tryz.ntmps51
    go_wp2
    go_ret
    exact ⟨ret_bool (by rw [← HE.out]), G0.out⟩
  · rw [if_neg hg]
    have q0 : (g == 0) = false := by simp [hg]
    simp only at HH
    generalize l.all nameB = t at HC ⊢
    show Calls Tryz.prog 51 _ w fun e w' => e = .returned (.bool (inB gr g && t)) ∧ w.grownBy w' none
    generalize inB gr g = b at HH ⊢
    clear hg h g0
    unfold foA at *
    unfold spA at HH
    cases b with
    | false =>
      go_enter Tryz.func51, Tryz.ntmps51
      go_wp2_with fail
      refine (HH.out _).mono ?_
      rintro e w1 ⟨rfl, g1⟩
      have G1 := hid (G0.out.trans g1)
      clear g1
      go_wp2
      go_ret
      exact ⟨rfl, G1.out⟩
    | true =>
      go_enter Tryz.func51, Tryz.ntmps51
      go_wp2_with fail
      refine (HH.out _).mono ?_
      rintro e w1 ⟨rfl, g1⟩
      have G1 := hid (G0.out.trans g1)
      clear g1
      go_wp2_with fail
      refine (HC.out _ G1.out).mono ?_
      rintro e w2 ⟨rfl, rfl⟩
      go_wp2
      go_ret
      exact ⟨ret_bool (by simp), G1.out⟩
end Go.Proofs.YthbodkgcbfplgaaGreat
