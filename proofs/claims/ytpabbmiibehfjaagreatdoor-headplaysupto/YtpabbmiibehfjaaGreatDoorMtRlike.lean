/- The document's own Like. -/
import Derived.Test.YtpabbmiibehfjaaGreatDoorMtRone
namespace Go.Proofs.YtpabbmiibehfjaaGreatDoor.Mt
open Go.RowKit
set_option linter.unusedVariables false

/-- From place f on it is to be seen; up to i no alternative ends. -/
structure LikeAt (P S : List Int) (B f i : Nat) (R : Bool) : Prop where
  le : f ≤ i
  inn : i ≤ P.length
  plain : ∀ j, f ≤ j → j < i → P[j]? ≠ some 124
  rest : likeL (P.drop f) S = R
  size : ∀ a ∈ alts (P.drop f), a.length ≤ B
def piece (P : List Int) (f i : Nat) : List Int := (P.drop f).take (i - f)
theorem piece_plain {P S : List Int} {B f i : Nat} {R : Bool} (h : LikeAt P S B f i R) : ∀ c ∈ piece P f i, c ≠ 124 := by
  intro c hc e
  subst e
  unfold piece at hc
  obtain ⟨t, ht⟩ := List.mem_iff_getElem?.1 hc
  rw [List.getElem?_take] at ht
  split at ht
  · rw [List.getElem?_drop] at ht
    exact h.plain (f + t) (by omega) (by omega) ht
  · simp at ht
theorem LikeAt.next {P S : List Int} {B f i : Nat} {R : Bool} (h : LikeAt P S B f i R) (hi : i < P.length) (hc : P[i]? ≠ some 124) : LikeAt P S B f (i + 1) R :=
  ⟨by have := h.le; omega, by omega, fun j h1 h2 => by
    by_cases e : j = i
    · rw [e]; exact hc
    · exact h.plain j h1 (by omega), h.rest, h.size⟩
theorem drop_cut {P : List Int} {f i : Nat} (hf : f ≤ i) (hc : P[i]? = some 124) : P.drop f = piece P f i ++ 124 :: P.drop (i + 1) := by
  unfold piece
  obtain ⟨h1, h2⟩ := List.getElem?_eq_some_iff.1 hc
  have e : P.drop i = 124 :: P.drop (i + 1) := by rw [List.drop_eq_getElem_cons h1, h2]
  rw [← e, show P.drop i = (P.drop f).drop (i - f) by rw [List.drop_drop]; congr 1; omega, List.take_append_drop]
theorem LikeAt.cut {P S : List Int} {B f i : Nat} {R : Bool} (h : LikeAt P S B f i R) (hc : P[i]? = some 124) : (glob (piece P f i) S || likeL (P.drop (i + 1)) S) = R ∧ (piece P f i).length ≤ B ∧ ∀ a ∈ alts (P.drop (i + 1)), a.length ≤ B := by
  have e := drop_cut h.le hc
  have hp := piece_plain h
  have hr := h.rest
  have hs := h.size
  rw [e] at hr hs
  rw [like_or, like_plain hp] at hr
  rw [alts_app, alts_plain hp] at hs
  exact ⟨hr, hs _ (by simp), fun a ha => hs a (by simp [ha])⟩
theorem LikeAt.last {P S : List Int} {B f : Nat} {R : Bool} (h : LikeAt P S B f P.length R) : glob (piece P f P.length) S = R ∧ (piece P f P.length).length ≤ B := by
  have hp := piece_plain h
  have e : P.drop f = piece P f P.length := by unfold piece; rw [List.take_of_length_le (by rw [List.length_drop]; omega)]
  have hr := h.rest
  have hs := h.size
  rw [e] at hr hs
  rw [like_plain hp] at hr
  rw [alts_plain hp] at hs
  exact ⟨hr, hs _ (by simp)⟩
theorem extract_ints (p : ByteArray) (f i : Nat) : sInts (p.extract f i) = piece (sInts p) f i := by
  unfold piece sInts
  rw [← List.map_drop, ← List.map_take, ByteArray.data_extract, Array.toList_extract]
theorem slice_text (p : ByteArray) (f i : Nat) (h1 : f ≤ i) (h2 : i ≤ p.size) (w : World) : (Instr.slice 9 (.string p) (some (.int .i64 (f : Int))) (some (.int .i64 (i : Int))) none).run Tryz.prog w = .ok (.string (p.extract f i)) w := by
  rw [run_slice_string_if w 9 p .i64 .i64 (f : Int) (i : Int) Tryz.underlying9, if_pos (by omega), if_pos (by omega)]
  simp

/-- Where Like stands: on its way, or behind all. -/
def LikeState (P S : List Int) (B n f i : Nat) (R : Bool) : Prop := (i ≤ n ∧ LikeAt P S B f i R) ∨ (i = n + 1 ∧ f = n + 1 ∧ R = false)
set_option maxHeartbeats 1000000 in
theorem r_like (p s : ByteArray) (R : Bool) (w : World) (hp : p.size ≤ 4611686018427387000) (hz : ∀ a ∈ alts (sInts p), a.length ≤ 140737488356000) (hs : s.size ≤ 4611686018427387000) (hR : likeL (sInts p) (sInts s) = R) :
    Calls Tryz.prog 83 #[.string p, .string s] w fun e w' => e = .returned (.bool R) ∧ w.grownBy w' none := by
  obtain ⟨P, eP⟩ : ∃ P, P = sInts p := ⟨_, rfl⟩
  obtain ⟨S, eS⟩ : ∃ S, S = sInts s := ⟨_, rfl⟩
  have HPl : Hid (P.length = p.size) := by show _ = _; rw [eP, sInts_len]
  have HPa : Hid (∀ i, i < p.size → P[i]? = some (byteAt p i)) := fun i h => by rw [eP]; exact sInts_at p i h
  have HOne : Hid (∀ f i w, (piece P f i).length ≤ 140737488356000 → Calls Tryz.prog 94 #[.string (p.extract f i), .string s] w fun e w' => e = .returned (.bool (glob (piece P f i) S)) ∧ w.grownBy w' none) := fun f i w h => by
    refine r_one _ s _ w ?_ hs ?_
    · rw [← sInts_len, extract_ints, ← eP]; exact h
    · rw [extract_ints, ← eP, ← eS]
  have H0 : Hid (LikeState P S 140737488356000 p.size 0 0 R) := .inl ⟨Nat.zero_le _, ⟨Nat.le_refl _, Nat.zero_le _, fun j h1 h2 => by omega, by rw [List.drop_zero, eP, eS]; exact hR, by rw [List.drop_zero, eP]; exact hz⟩⟩
  clear hR hz eP eS
  go_enter Tryz.func83, Tryz.ntmps83
  go_wp2
  go_loopw [5, 6] (fun t5 t6 wr => ∃ f i : Nat, i ≤ p.size + 1 ∧ t5 = .int .i64 f ∧ t6 = .int .i64 i ∧ w.grownBy wr none ∧ LikeState P S 140737488356000 p.size f i R) (fun _ t6 _ => p.size + 1 - (intOf t6).toNat)
  case atStart => exact ⟨0, 0, by omega, rfl, rfl, World.grownBy.refl _ _, H0.out⟩
  case round =>
    obtain ⟨f, i, hi, rfl, rfl, hg, hst⟩ := hrel
    have HG : Hid (w.grownBy wr none) := hg
    clear hg H0
    rcases hst with ⟨hle, hl⟩ | ⟨rfl, rfl, rfl⟩
    · have HL : Hid (LikeAt P S 140737488356000 f i R) := hl
      have hfi := hl.le
      have hii : (i : Int) ≤ (p.size : Int) := by omega
      have hsl := slice_text p f i hfi hle
      clear hl
      by_cases hlt : i < p.size
      · have hidx := idx9 p i hlt
        have hne : ((i : Int) == (p.size : Int)) = false := by simp; omega
        have hPi := HPa.out i hlt
        have HPi : Hid (P[i]? = some (byteAt p i)) := hPi
        generalize byteAt p i = c at hidx HPi hPi
        by_cases hc : c = 124
        · have q1 : (c == 124) = true := by simpa using hc
          subst hc
          have HCut : Hid (_ ∧ _) := HL.out.cut HPi.out
          have HC := HOne.out f i wr HCut.out.2.1
          generalize hgb : glob (piece P f i) S = b at HC
          have HB : Hid (glob (piece P f i) S = b) := hgb
          clear hgb hPi
          cases b with
          | true =>
            have HS : Hid (true = R) := by have h := HCut.out.1; rw [HB.out, Bool.true_or] at h; exact h
            clear HCut
            go_wp2_with fail
            refine HC.mono ?_
            rintro e w1 ⟨rfl, hg1⟩
            have HG1 : Hid (w.grownBy w1 none) := HG.out.trans hg1
            clear hg1
            go_wp2
            go_ret
            exact ⟨ret_bool HS.out, HG1.out⟩
          | false =>
            have HS : Hid (LikeState P S 140737488356000 p.size (i + 1) (i + 1) R) := by
              have h := HCut.out.1
              rw [HB.out, Bool.false_or] at h
              exact .inl ⟨by omega, ⟨Nat.le_refl _, by have := HPl.out; omega, fun j h1 h2 => by omega, h, HCut.out.2.2⟩⟩
            clear HCut
            go_wp2_with fail
            refine HC.mono ?_
            rintro e w1 ⟨rfl, hg1⟩
            have HG1 : Hid (w.grownBy w1 none) := HG.out.trans hg1
            clear hg1
            go_wp2
            go_roundw
            case rel => exact ⟨i + 1, i + 1, by omega, by go_num, by go_num, HG1.out, HS.out⟩
            case measure => simp [intOf]; omega
        · have q1 : (c == 124) = false := by simpa using hc
          have HS : Hid (LikeState P S 140737488356000 p.size f (i + 1) R) := .inl ⟨by omega, HL.out.next (by have := HPl.out; omega) (by rw [HPi.out]; simpa using hc)⟩
          clear hc hPi
          go_wp2
          go_roundw
          case rel => exact ⟨f, i + 1, by omega, rfl, by go_num, HG.out, HS.out⟩
          case measure => simp [intOf]; omega
      · obtain rfl : i = p.size := by omega
        have hne : ((p.size : Int) == (p.size : Int)) = true := by simp
        have HCut : Hid (glob (piece P f p.size) S = R ∧ (piece P f p.size).length ≤ 140737488356000) := by
          have h := HL.out
          rw [← HPl.out] at h ⊢
          exact h.last
        have HC := HOne.out f p.size wr HCut.out.2
        rw [HCut.out.1] at HC
        clear HCut
        cases R with
        | true =>
          go_wp2_with fail
          refine HC.mono ?_
          rintro e w1 ⟨rfl, hg1⟩
          have HG1 : Hid (w.grownBy w1 none) := HG.out.trans hg1
          clear hg1
          go_wp2
          go_ret
          exact ⟨rfl, HG1.out⟩
        | false =>
          have HS : Hid (LikeState P S 140737488356000 p.size (p.size + 1) (p.size + 1) false) := .inr ⟨rfl, rfl, rfl⟩
          go_wp2_with fail
          refine HC.mono ?_
          rintro e w1 ⟨rfl, hg1⟩
          have HG1 : Hid (w.grownBy w1 none) := HG.out.trans hg1
          clear hg1
          go_wp2
          go_roundw
          case rel => exact ⟨p.size + 1, p.size + 1, by omega, by go_num, by go_num, HG1.out, HS.out⟩
          case measure => simp [intOf]
    · have hii : ¬ ((p.size + 1 : Nat) : Int) ≤ (p.size : Int) := by omega
      have hd : decide (((p.size + 1 : Nat) : Int) ≤ (p.size : Int)) = false := by simp; omega
      go_wp2
      go_ret
      exact ⟨rfl, HG.out⟩
end Go.Proofs.YtpabbmiibehfjaaGreatDoor.Mt
