/- A pattern of two alternatives is like what one of them is like; two behind one another like what can be cut so; a star at both ends finds a text anywhere. -/
import Derived.Test.YtbncglhgllialaaDoorKmat
import Derived.Laws.Concat
namespace Go.Proofs.YtbncglhgllialaaDoor
open Go.ChangeShapes Go.WideShapes Go.ChangeAt Go.RowKit
set_option linter.unusedVariables false

theorem sInts_app (a b : ByteArray) : sInts (a ++ b) = sInts a ++ sInts b := by
  unfold sInts
  rw [ByteArray.data_append, Array.toList_append, List.map_append]
theorem sInts_inj {a b : ByteArray} (h : sInts a = sInts b) : a = b := by
  unfold sInts at h
  have h2 : a.data.toList = b.data.toList := by
    refine List.map_inj_right (fun x y e => ?_) |>.1 h
    exact UInt8.toNat_inj.1 (by exact_mod_cast e)
  cases a; cases b
  simp only [ByteArray.mk.injEq]
  exact Array.toList_inj.1 h2
def Plain (s : ByteArray) (n : Nat) : Prop := ∀ i, i < n → byteAt s i ≠ 42 ∧ byteAt s i ≠ 124
theorem Plain.mem {s : ByteArray} (h : Plain s s.size) : ∀ c ∈ sInts s, c ≠ 42 ∧ c ≠ 124 := by
  intro c hc
  obtain ⟨i, hi, rfl⟩ := List.mem_iff_getElem.1 hc
  rw [sInts_len] at hi
  have := h i hi
  unfold byteAt at this
  rwa [List.getD_eq_getElem?_getD, List.getElem?_eq_getElem (by rw [sInts_len]; exact hi), Option.getD_some] at this
theorem Plain.next {s : ByteArray} {i : Nat} (h : Plain s i) (h1 : byteAt s i ≠ 42) (h2 : byteAt s i ≠ 124) : Plain s (i + 1) := fun j hj => by
  by_cases e : j = i
  · subst e; exact ⟨h1, h2⟩
  · exact h j (by omega)
theorem like_two (p q s : ByteArray) : likeS (p ++ ⟨#[124]⟩ ++ q) s = (likeS p s || likeS q s) := by
  unfold likeS
  rw [sInts_app, sInts_app, List.append_assoc]
  exact like_or _ _ _
theorem alts_two (p q : ByteArray) (hp : p.size ≤ 140737488351232) (hq : q.size ≤ 140737488351232) : ∀ a ∈ alts (sInts (p ++ ⟨#[124]⟩ ++ q)), a.length ≤ 140737488356000 := by
  intro a ha
  rw [sInts_app, sInts_app, List.append_assoc] at ha
  have e : sInts ⟨#[124]⟩ ++ sInts q = 124 :: sInts q := rfl
  rw [e, alts_app] at ha
  rcases List.mem_append.1 ha with h | h
  · exact small_alts p (by omega) a h
  · exact small_alts q (by omega) a h
theorem star_ints : sInts ⟨#[42]⟩ = [42] := rfl
theorem plain_like {s : ByteArray} (h : Plain s s.size) (a b : ByteArray) : likeS s s = true ∧ likeS ⟨#[42]⟩ s = true ∧ likeS (⟨#[42]⟩ ++ s ++ ⟨#[42]⟩) (a ++ s ++ b) = true ∧ likeS (s ++ ⟨#[42]⟩) (s ++ b) = true ∧ likeS (⟨#[42]⟩ ++ s) (a ++ s) = true ∧ (¬ s = a → likeS s a = false) := by
  have hm := h.mem
  have h1 : ∀ c ∈ sInts s, c ≠ 42 := fun c hc => (hm c hc).1
  have h2 : ∀ c ∈ sInts s, c ≠ 124 := fun c hc => (hm c hc).2
  unfold likeS
  simp only [sInts_app, star_ints]
  refine ⟨?_, ?_, ?_, ?_, ?_, ?_⟩
  · rw [like_plain h2, glob_self h1]; simp
  · rw [like_plain (by simp)]; exact glob_all _
  · rw [like_plain (by intro c hc; simp at hc; rcases hc with rfl | hc | rfl <;> first | decide | exact h2 c hc)]
    simpa using glob_amid h1 (sInts a) (sInts b)
  · rw [like_plain (by intro c hc; simp at hc; rcases hc with hc | rfl <;> first | decide | exact h2 c hc)]
    exact glob_ahead h1 (sInts b)
  · rw [like_plain (by intro c hc; simp at hc; rcases hc with rfl | hc <;> first | decide | exact h2 c hc)]
    exact glob_behind h1 (sInts a)
  · intro hne
    rw [like_plain h2, glob_self h1]
    simp only [decide_eq_false_iff_not]
    exact fun e => hne (sInts_inj e)

set_option maxHeartbeats 4000000 in
theorem matchParts_walk (p q a s b : ByteArray) (W : World) (hp : p.size ≤ 1048576) (hq : q.size ≤ 1048576) (ha : a.size ≤ 1048576) (hs : s.size ≤ 1048576) (hb : b.size ≤ 1048576) (hm : Mx W) :
    Calls Tryd.prog 5 #[.string p, .string q, .string a, .string s, .string b] W fun e w' => e = .returned (.bool true) ∧ Below W.heap.size W w' := by
  obtain ⟨x, ex⟩ : ∃ x, likeS p s = x := ⟨_, rfl⟩
  obtain ⟨y, ey⟩ : ∃ y, likeS q s = y := ⟨_, rfl⟩
  have z42 : (⟨#[42]⟩ : ByteArray).size = 1 := rfl
  have z124 : (⟨#[124]⟩ : ByteArray).size = 1 := rfl
  have H1 : Hid (∀ w, Mx w → Calls Tryd.prog 16 #[.string (p ++ ⟨#[124]⟩ ++ q), .string s] w fun e w' => e = .returned (.bool (x || y)) ∧ w.grownBy w' none) := fun w mw => f_like _ s _ w (by simp only [ByteArray.size_append]; rw [z124]; omega) (by omega) mw (by rw [like_two, ex, ey])
  have H2 : Hid (∀ w, Mx w → Calls Tryd.prog 16 #[.string p, .string s] w fun e w' => e = .returned (.bool x) ∧ w.grownBy w' none) := fun w mw => f_like p s x w (by omega) (by omega) mw ex
  have H3 : Hid (∀ w, Mx w → Calls Tryd.prog 16 #[.string q, .string s] w fun e w' => e = .returned (.bool y) ∧ w.grownBy w' none) := fun w mw => f_like q s y w (by omega) (by omega) mw ey
  have HA : Hid (∀ w, Mx w → Calls Tryd.prog 15 #[] w fun e w' => e = .returned (.bool true) ∧ w.grownBy w' none) := awake_mat
  have c1 : ∀ w, (Op.stringOp .add p ⟨#[124]⟩).run Tryd.prog w = .ok (.string (p ++ ⟨#[124]⟩)) w := fun w => by exact run_string_add_sum w _ _ (by rw [z124]; omega)
  have c2 : ∀ w, (Op.stringOp .add (p ++ ⟨#[124]⟩) q).run Tryd.prog w = .ok (.string (p ++ ⟨#[124]⟩ ++ q)) w := fun w => by exact run_string_add_sum w _ _ (by simp only [ByteArray.size_append]; rw [z124]; omega)
  have C3 : Hid (∀ w, (Op.stringOp .add ⟨#[42]⟩ s).run Tryd.prog w = .ok (.string (⟨#[42]⟩ ++ s)) w) := fun w => by exact run_string_add_sum w _ _ (by rw [z42]; omega)
  have C4 : Hid (∀ w, (Op.stringOp .add (⟨#[42]⟩ ++ s) ⟨#[42]⟩).run Tryd.prog w = .ok (.string (⟨#[42]⟩ ++ s ++ ⟨#[42]⟩)) w) := fun w => by exact run_string_add_sum w _ _ (by simp only [ByteArray.size_append]; rw [z42]; omega)
  have C5 : Hid (∀ w, (Op.stringOp .add a s).run Tryd.prog w = .ok (.string (a ++ s)) w) := fun w => by exact run_string_add_sum w _ _ (by omega)
  have C6 : Hid (∀ w, (Op.stringOp .add (a ++ s) b).run Tryd.prog w = .ok (.string (a ++ s ++ b)) w) := fun w => by exact run_string_add_sum w _ _ (by simp only [ByteArray.size_append]; omega)
  have C7 : Hid (∀ w, (Op.stringOp .add s ⟨#[42]⟩).run Tryd.prog w = .ok (.string (s ++ ⟨#[42]⟩)) w) := fun w => by exact run_string_add_sum w _ _ (by rw [z42]; omega)
  have C8 : Hid (∀ w, (Op.stringOp .add s b).run Tryd.prog w = .ok (.string (s ++ b)) w) := fun w => by exact run_string_add_sum w _ _ (by omega)
  have HL : Hid (∀ (u v : ByteArray) (r : Bool) (w : World), Mx w → u.size ≤ 1048580 → v.size ≤ 5000000 → likeS u v = r → Calls Tryd.prog 16 #[.string u, .string v] w fun e w' => e = .returned (.bool r) ∧ w.grownBy w' none) := fun u v r w mw hu hv e => f_like u v r w (by omega) (by omega) mw e
  have HZ : Hid (s.size ≤ 1048576 ∧ a.size ≤ 1048576 ∧ b.size ≤ 1048576) := ⟨hs, ha, hb⟩
  have hs2 : (s.size : Int) ≤ 1048576 := by omega
  clear hp hq ha hb ex ey z42 z124
  have qy : (y != y) = false := by simp
  go_enter Tryd.func5, Tryd.ntmps5
  cases x
  case' false =>
    rw [Bool.false_or] at H1
    go_wp2_with fail
    refine (H1.out _ hm).mono ?_
    rintro e w1 ⟨rfl, hg1⟩
    have HG1 : Hid (W.grownBy w1 none) := hg1
    clear hg1 H1
    go_wp2_with fail
    refine (H2.out _ (hm.grown HG1.out)).mono ?_
    rintro e w2 ⟨rfl, hg2⟩
    have HG2 : Hid (W.grownBy w2 none) := HG1.out.trans hg2
    clear hg2 H2 HG1
    go_wp2_with fail
    refine (H3.out _ (hm.grown HG2.out)).mono ?_
    rintro e w3 ⟨rfl, hg3⟩
    have HG3 : Hid (W.grownBy w3 none) := HG2.out.trans hg3
    clear hg3 H3 HG2
    go_wp2
  case' true =>
    rw [Bool.true_or] at H1
    go_wp2_with fail
    refine (H1.out _ hm).mono ?_
    rintro e w1 ⟨rfl, hg1⟩
    have HG1 : Hid (W.grownBy w1 none) := hg1
    clear hg1 H1
    go_wp2_with fail
    refine (H2.out _ (hm.grown HG1.out)).mono ?_
    rintro e w3 ⟨rfl, hg2⟩
    have HG3 : Hid (W.grownBy w3 none) := HG1.out.trans hg2
    clear hg2 H2 HG1
    go_wp2
  all_goals (
    clear c1 c2
    go_loopw [11] (fun t11 wr => ∃ i : Nat, i ≤ s.size ∧ t11 = .int .i64 i ∧ W.grownBy wr none ∧ Plain s i) (fun t11 _ => s.size - (intOf t11).toNat)
    case atStart => exact ⟨0, Nat.zero_le _, rfl, HG3.out, fun i h => absurd h (Nat.not_lt_zero _)⟩
    case round =>
      obtain ⟨i, hi, rfl, hg, hpl⟩ := hrel
      have HG : Hid (W.grownBy wr none) := hg
      have HP : Hid (Plain s i) := hpl
      clear hg hpl HG3
      by_cases hlt : i < s.size
      · have hidx := idx9 s i hlt
        obtain ⟨c, ec⟩ : ∃ c, byteAt s i = c := ⟨_, rfl⟩
        rw [ec] at hidx
        by_cases h1 : c = 42
        · have q1 : (c == 42) = true := by simpa using h1
          clear h1 ec
          go_wp2_with fail
          refine (HA.out _ (hm.grown HG.out)).mono ?_
          rintro e w4 ⟨rfl, hg4⟩
          have HG4 : Hid (W.grownBy w4 none) := HG.out.trans hg4
          clear hg4 HA
          go_wp2
          go_ret
          exact ⟨rfl, gb_below HG4.out⟩
        · have q1 : (c == 42) = false := by simpa using h1
          by_cases h2 : c = 124
          · have q2 : (c == 124) = true := by simpa using h2
            clear h1 h2 ec
            go_wp2_with fail
            refine (HA.out _ (hm.grown HG.out)).mono ?_
            rintro e w4 ⟨rfl, hg4⟩
            have HG4 : Hid (W.grownBy w4 none) := HG.out.trans hg4
            clear hg4 HA
            go_wp2
            go_ret
            exact ⟨rfl, gb_below HG4.out⟩
          · have q2 : (c == 124) = false := by simpa using h2
            have HN : Hid (Plain s (i + 1)) := HP.out.next (by rw [ec]; exact h1) (by rw [ec]; exact h2)
            clear h1 h2 ec
            go_wp2
            go_roundw
            case rel => exact ⟨i + 1, by omega, by go_num, HG.out, HN.out⟩
            case measure => simp [intOf]; omega
      · obtain rfl : i = s.size := by omega
        have HF : Hid (_ ∧ _) := plain_like HP.out a b
        have z42 : (⟨#[42]⟩ : ByteArray).size = 1 := rfl
        have D1 : Hid (∀ w, Mx w → Calls Tryd.prog 16 #[.string s, .string s] w fun e w' => e = .returned (.bool true) ∧ w.grownBy w' none) := fun w mw => HL.out _ _ _ w mw (by omega) (by omega) HF.out.1
        have D2 : Hid (∀ w, Mx w → Calls Tryd.prog 16 #[.string ⟨#[42]⟩, .string s] w fun e w' => e = .returned (.bool true) ∧ w.grownBy w' none) := fun w mw => HL.out _ _ _ w mw (by rw [z42]; omega) (by omega) HF.out.2.1
        have D3 : Hid (∀ w, Mx w → Calls Tryd.prog 16 #[.string (⟨#[42]⟩ ++ s ++ ⟨#[42]⟩), .string (a ++ s ++ b)] w fun e w' => e = .returned (.bool true) ∧ w.grownBy w' none) := fun w mw => HL.out _ _ _ w mw (by simp only [ByteArray.size_append]; rw [z42]; omega) (by have := HZ.out; simp only [ByteArray.size_append]; omega) HF.out.2.2.1
        have D4 : Hid (∀ w, Mx w → Calls Tryd.prog 16 #[.string (s ++ ⟨#[42]⟩), .string (s ++ b)] w fun e w' => e = .returned (.bool true) ∧ w.grownBy w' none) := fun w mw => HL.out _ _ _ w mw (by simp only [ByteArray.size_append]; rw [z42]; omega) (by have := HZ.out; simp only [ByteArray.size_append]; omega) HF.out.2.2.2.1
        have D5 : Hid (∀ w, Mx w → Calls Tryd.prog 16 #[.string (⟨#[42]⟩ ++ s), .string (a ++ s)] w fun e w' => e = .returned (.bool true) ∧ w.grownBy w' none) := fun w mw => HL.out _ _ _ w mw (by simp only [ByteArray.size_append]; rw [z42]; omega) (by have := HZ.out; simp only [ByteArray.size_append]; omega) HF.out.2.2.2.2.1
        have D6 : Hid (¬ s = a → ∀ w, Mx w → Calls Tryd.prog 16 #[.string s, .string a] w fun e w' => e = .returned (.bool false) ∧ w.grownBy w' none) := fun hne w mw => HL.out _ _ _ w mw (by omega) (by have := HZ.out; omega) (HF.out.2.2.2.2.2 hne)
        have c3 := C3.out
        have c4 := C4.out
        have c5 := C5.out
        have c6 := C6.out
        have c7 := C7.out
        have c8 := C8.out
        have qs := str_eq s a
        clear HF HL HZ HP z42 C3 C4 C5 C6 C7 C8
        go_wp2_with fail
        refine (D1.out _ (hm.grown HG.out)).mono ?_
        rintro e w4 ⟨rfl, hg4⟩
        have HG4 : Hid (W.grownBy w4 none) := HG.out.trans hg4
        clear hg4 D1 HG
        go_wp2_with fail
        refine (D2.out _ (hm.grown HG4.out)).mono ?_
        rintro e w5 ⟨rfl, hg5⟩
        have HG5 : Hid (W.grownBy w5 none) := HG4.out.trans hg5
        clear hg5 D2 HG4
        go_wp2_with fail
        refine (D3.out _ (hm.grown HG5.out)).mono ?_
        rintro e w6 ⟨rfl, hg6⟩
        have HG6 : Hid (W.grownBy w6 none) := HG5.out.trans hg6
        clear hg6 D3 HG5
        go_wp2_with fail
        refine (D4.out _ (hm.grown HG6.out)).mono ?_
        rintro e w7 ⟨rfl, hg7⟩
        have HG7 : Hid (W.grownBy w7 none) := HG6.out.trans hg7
        clear hg7 D4 HG6
        go_wp2_with fail
        refine (D5.out _ (hm.grown HG7.out)).mono ?_
        rintro e w8 ⟨rfl, hg8⟩
        have HG8 : Hid (W.grownBy w8 none) := HG7.out.trans hg8
        clear hg8 D5 HG7
        by_cases hsa : s = a
        · have qs1 : (s.toList == a.toList) = true := by rw [qs]; simpa using hsa
          clear hsa qs D6
          go_wp2_with fail
          refine (HA.out _ (hm.grown HG8.out)).mono ?_
          rintro e w9 ⟨rfl, hg9⟩
          have HG9 : Hid (W.grownBy w9 none) := HG8.out.trans hg9
          clear hg9 HA
          go_wp2
          go_ret
          exact ⟨rfl, gb_below HG9.out⟩
        · have qs1 : (s.toList == a.toList) = false := by rw [qs]; simpa using hsa
          have D7 := D6.out hsa
          clear hsa qs D6
          go_wp2_with fail
          refine (D7 _ (hm.grown HG8.out)).mono ?_
          rintro e w9 ⟨rfl, hg9⟩
          have HG9 : Hid (W.grownBy w9 none) := HG8.out.trans hg9
          clear hg9 D7
          go_wp2_with fail
          refine (HA.out _ (hm.grown HG9.out)).mono ?_
          rintro e w10 ⟨rfl, hg10⟩
          have HG10 : Hid (W.grownBy w10 none) := HG9.out.trans hg10
          clear hg10 HA
          go_wp2
          go_ret
          exact ⟨rfl, gb_below HG10.out⟩)
end Go.Proofs.YtbncglhgllialaaDoor
