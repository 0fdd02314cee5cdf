/- Package obj: keys; an object's bytes, laid. -/
import Derived.Test.YtlmddmfoodejmaaOe
namespace Go.Proofs.Ytlmddmfoodejmaa
open Go.RowKit Go.Maps
set_option linter.unusedVariables false
set_option maxRecDepth 20000

theorem o_isKey (s : ByteArray) (hs : (s.size : Int) ≤ 9223372036854775807) (w : World) :
    Calls Try.prog 40 #[.string s] w fun e w' => e = .returned (.bool (keyB s)) ∧ w = w' := by
  have HN := d_isName s hs w
  have HO := Try.strings_HasPrefix s ⟨#[111, 47]⟩ w
  have HT := Try.strings_HasPrefix s ⟨#[116, 47]⟩ w
  obtain ⟨b1, hb1⟩ : ∃ b, b = nameB s := ⟨_, rfl⟩
  obtain ⟨b2, hb2⟩ : ∃ b, b = decide (s.size ≤ 56) := ⟨_, rfl⟩
  obtain ⟨b3, hb3⟩ : ∃ b, b = Lib.hasPrefix s.data.toList [111, 47] := ⟨_, rfl⟩
  obtain ⟨b4, hb4⟩ : ∃ b, b = Lib.hasPrefix s.data.toList [116, 47] := ⟨_, rfl⟩
  have hk : keyB s = (b1 && b2 && !b3 && !b4) := by rw [hb1, hb2, hb3, hb4]; rfl
  have q1 : decide ((s.size : Int) ≤ 56) = b2 := by rw [hb2]; simp; omega
  rw [hk]
  have HN : Hid (Calls Try.prog 54 #[.string s] w fun e w' => e = .returned (.bool b1) ∧ w = w') := by rw [hb1]; exact HN
  have HO : Hid (Calls Try.prog 34 #[.string s, .string ⟨#[111, 47]⟩] w fun e w' => e = .returned (.bool b3) ∧ w' = w) := by rw [hb3]; exact HO
  have HT : Hid (Calls Try.prog 34 #[.string s, .string ⟨#[116, 47]⟩] w fun e w' => e = .returned (.bool b4) ∧ w' = w) := by rw [hb4]; exact HT
  clear hb1 hb2 hb3 hb4 hk
  cases b1 with
  | false =>
    go_enter Try.func40, Try.ntmps40
    go_wp2_with fail
    refine HN.out.mono ?_
    rintro e w1 ⟨rfl, rfl⟩
    go_wp2
    go_ret
    exact ⟨rfl, rfl⟩
  | true =>
    cases b2 with
    | false =>
      go_enter Try.func40, Try.ntmps40
      go_wp2_with fail
      refine HN.out.mono ?_
      rintro e w1 ⟨rfl, rfl⟩
      go_wp2
      go_ret
      exact ⟨rfl, rfl⟩
    | true =>
      cases b3 with
      | true =>
        go_enter Try.func40, Try.ntmps40
        go_wp2_with fail
        refine HN.out.mono ?_
        rintro e w1 ⟨rfl, rfl⟩
        go_wp2_with fail
        refine HO.out.mono ?_
        rintro e w1 ⟨rfl, rfl⟩
        go_wp2
        go_ret
        exact ⟨rfl, rfl⟩
      | false =>
        go_enter Try.func40, Try.ntmps40
        go_wp2_with fail
        refine HN.out.mono ?_
        rintro e w1 ⟨rfl, rfl⟩
        go_wp2_with fail
        refine HO.out.mono ?_
        rintro e w1 ⟨rfl, rfl⟩
        go_wp2_with fail
        refine HT.out.mono ?_
        rintro e w1 ⟨rfl, rfl⟩
        go_wp2
        go_ret
        exact ⟨ret_bool (by cases b4 <;> rfl), rfl⟩
set_option maxHeartbeats 4000000 in
theorem o_lay (g : Nat) (v : Option Addr) (N c : Nat) (d : List Int) (w : World) (hr : Rd w v d) (hN : d.length = N) (hnil : v = none → c = 0) (hz : N ≤ 1048576) (hg2 : g < 18446744073709551616) :
    Calls Try.prog 42 #[.agg #[.int .u64 (g : Int), .slice v N c]] w fun e w' => ∃ b M C, e = .returned (.slice (some ⟨b, 0, none⟩) M C) ∧ Own w' w.heap.size b M C (objB g d) ∧ w.grownBy w' none := by
  have hel := enc_len g hg2
  have hfl := frame_enc_len g hg2
  obtain ⟨W1, eW1⟩ : ∃ W1, W1 = w.alloc (.cells #[.int .u64 (g : Int), .slice v N c] 66) := ⟨_, rfl⟩
  have HG1 : Hid (w.grownBy W1 none) := by show w.grownBy W1 none; rw [eW1]; exact World.grownBy_alloc w _ none
  have HB : Hid (ObjAt W1 w.heap.size (.int .u64 (g : Int)) (.slice v N c)) := by show ObjAt _ _ _ _; rw [eW1]; exact ObjAt.new w _ _
  have HPU : Hid (∀ w1, Calls Try.prog 58 #[.slice none 0 0, .int .u64 (g : Int)] w1 fun e w' => ∃ g1 c1 N1, e = .returned (.slice (some ⟨g1, 0, none⟩) N1 c1) ∧ Own w' w1.heap.size g1 N1 c1 (enc g) ∧ w1.grownBy w' none) := fun w1 => by
    have := f_putuint none [] 0 0 (g : Int) w1 ⟨.inl rfl, by simp⟩ rfl (fun _ => rfl) (by omega) (by omega)
    rw [Int.toNat_natCast, List.nil_append] at this
    exact this
  have HFR : Hid (∀ (w1 w2 : World) g1 N1 c1, Own w2 w1.heap.size g1 N1 c1 (enc g) → Calls Try.prog 57 #[.slice (some ⟨g1, 0, none⟩) N1 c1] w2 fun e w' => ∃ g2 c2 N2, e = .returned (.tuple #[.slice (some ⟨g2, 0, none⟩) N2 c2, .int .i64 0]) ∧ Own w' w2.heap.size g2 N2 c2 (frameR (enc g)) ∧ w2.grownBy w' none) := fun w1 w2 g1 N1 c1 ho =>
    frm_short (some ⟨g1, 0, none⟩) (enc g) N1 c1 w2 ho.rd ho.len (by simp) (by have := ho.len; omega)
  have HJ : Hid (∀ (w2 w3 : World) g2 N2 c2 t, w.grownBy w2 none → w2.grownBy w3 none → Own w3 w2.heap.size g2 N2 c2 (frameR (enc g)) → Calls Try.prog 59 #[.slice (some ⟨w3.heap.size, 0, none⟩) 2 2] (w3.alloc (.cells #[.slice (some ⟨g2, 0, none⟩) N2 c2, .slice v N c] t)) fun e w' => ∃ b M C, e = .returned (.slice (some ⟨b, 0, none⟩) M C) ∧ Own w' w.heap.size b M C (objB g d) ∧ w.grownBy w' none) := fun w2 w3 g2 N2 c2 t hg hg' ho => by
    have hl := ho.len
    have hpos : 1 ≤ N2 := by
      have h1 := enc_len_pos (enc g).length
      rw [← hl, frameR]
      simp only [List.length_append]
      omega
    refine (g_join [⟨some ⟨g2, 0, none⟩, N2, c2, frameR (enc g)⟩, ⟨v, N, c, d⟩] 2 w3 t _ rfl rfl (by omega) ?_ (by simp [total]; omega) (by simp [total]; omega)).mono ?_
    · intro p hp
      simp only [List.mem_cons, List.mem_nil_iff, or_false] at hp
      rcases hp with rfl | rfl
      · exact ⟨ho.rd, ho.len, by simp⟩
      · exact ⟨hr.grown (hg.trans hg') (by simp), hN, hnil⟩
    · rintro e w' ⟨b, C, M, rfl, ho', hg''⟩
      have hw := (hg.trans hg').size
      refine ⟨b, M, C, rfl, ?_, (hg.trans hg').trans hg''⟩
      have : joined [⟨some ⟨g2, 0, none⟩, N2, c2, frameR (enc g)⟩, ⟨v, N, c, d⟩] = objB g d := by simp [joined, objB]
      rw [this] at ho'
      exact ho'.base hw
  have c0 := HB.out.c0
  clear hr hN hnil hel hfl
  go_enter Try.func42, Try.ntmps42
  go_wp2_with fail
  rw [← eW1]
  clear eW1
  refine (HPU.out _).mono ?_
  rintro e w1 ⟨g1, c1, N1, rfl, ho, hg⟩
  have HF := HFR.out _ _ _ _ _ ho
  have HG2 : Hid (W1.grownBy w1 none) := hg
  clear ho hg
  go_wp2_with fail
  refine HF.mono ?_
  rintro e w2 ⟨g2, c2, N2, rfl, ho, hg⟩
  have HC := HJ.out w1 w2 g2 N2 c2 22 (HG1.out.trans HG2.out) hg ho
  have d1 := (HB.out.grown (HG2.out.trans hg)).c1
  clear ho hg HF HFR HPU
  go_wp2_with fail
  refine HC.mono ?_
  rintro e w3 ⟨b, M, C, rfl, ho, hg⟩
  have HO : Hid (Own w3 w.heap.size b M C (objB g d) ∧ w.grownBy w3 none) := ⟨ho, hg⟩
  clear ho hg HC
  go_wp2
  go_ret
  exact ⟨b, M, C, rfl, HO.out.1, HO.out.2⟩
end Go.Proofs.Ytlmddmfoodejmaa
