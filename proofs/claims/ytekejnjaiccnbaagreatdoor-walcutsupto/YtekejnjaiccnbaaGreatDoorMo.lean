/- Several texts in one: Cback, Cpre, Dput, Dtext. -/
import Derived.Test.YtekejnjaiccnbaaGreatDoorMj
import Derived.Test.YtekejnjaiccnbaaGreatDoorMl
import Derived.Lib.SlBytesRow
import Derived.Deep.RegionHeld3
import Derived.Test.YtekejnjaiccnbaaGreatDoorMn
import Derived.Test.YtekejnjaiccnbaaGreatDoorMm
import Derived.Lib.ConvBytes
/- Numbers' bytes are read back, and there is one form of each. -/
namespace Go.Proofs.YtekejnjaiccnbaaGreatDoor

theorem getD_app (xs ys : List Int) (i : Nat) : (xs ++ ys).getD (xs.length + i) 0 = ys.getD i 0 := by
  simp [List.getD_eq_getElem?_getD, List.getElem?_append_right]

theorem pow7 (i : Nat) : (2 : Int) ^ (7 * (i + 1)) = 2 ^ (7 * i) * 128 := by
  rw [show 7 * (i + 1) = 7 * i + 7 by omega, Int.pow_add]; rfl

/-- What stands from place p + i on is u's bytes: it is read. -/
theorem ud_enc (zs ys : List Int) (p : Nat) : ∀ (m i u : Nat) (a : Int), 9 - i = m → i ≤ 9 → (zs.drop (p + i) = enc u ++ ys) → (0 < i → 0 < u) → (u : Int) * 2 ^ (7 * i) < 18446744073709551616 →
    ud zs p (10 - i) i a = (a + u * 2 ^ (7 * i), ((p + i + (enc u).length : Nat) : Int), 0) := by
  intro m
  induction m with
  | zero =>
    intro i u a hm hi hd hu hb
    obtain rfl : i = 9 := by omega
    have e : (2 : Int) ^ (7 * 9) = 9223372036854775808 := by simp
    rw [e] at hb
    have hu1 : u = 1 := by omega
    subst hu1
    rw [enc_small (by omega)] at hd ⊢
    have hlen : p + 9 < zs.length := by
      have h := congrArg List.length hd
      simp at h; omega
    have hg : zs.getD (p + 9) 0 = 1 := by
      have h := congrArg (fun l => l.getD 0 0) hd
      simpa [List.getD_eq_getElem?_getD] using h
    rw [show 10 - 9 = 0 + 1 from rfl, ud, if_neg (by omega), hg, if_neg (by omega), if_pos (by omega)]
    simp
  | succ m ih =>
    intro i u a hm hi hd hu hb
    have hp : (0 : Int) < 2 ^ (7 * i) := Int.pow_pos (by decide)
    have hlen : p + i < zs.length := by
      have h := congrArg List.length hd
      have := enc_len_pos u
      simp at h; omega
    rw [show 10 - i = (9 - i) + 1 by omega, ud, if_neg (by omega)]
    by_cases h : u < 128
    · rw [enc_small h] at hd ⊢
      have hg : zs.getD (p + i) 0 = u := by
        have h := congrArg (fun l => l.getD 0 0) hd
        simpa [List.getD_eq_getElem?_getD] using h
      rw [hg, if_neg (by omega), if_pos (by omega), show (u : Int) % 128 = u by omega]
      simp
    · rw [enc_big h] at hd ⊢
      have hg : zs.getD (p + i) 0 = ((u % 128 + 128 : Nat) : Int) := by
        have h := congrArg (fun l => l.getD 0 0) hd
        simpa [List.getD_eq_getElem?_getD] using h
      rw [hg, if_neg (by omega), if_neg (by omega)]
      have hd' : zs.drop (p + (i + 1)) = enc (u / 128) ++ ys := by
        have h := congrArg (List.drop 1) hd
        rw [List.drop_drop] at h
        simpa [Nat.add_assoc] using h
      have hmul : ((u / 128 : Nat) : Int) * 2 ^ (7 * (i + 1)) ≤ (u : Int) * 2 ^ (7 * i) := by
        rw [pow7, show ((u / 128 : Nat) : Int) * (2 ^ (7 * i) * 128) = ((u / 128 : Nat) : Int) * 128 * 2 ^ (7 * i) by rw [Int.mul_comm (2 ^ (7 * i)) 128, Int.mul_assoc]]
        exact Int.mul_le_mul_of_nonneg_right (by omega) (Int.le_of_lt hp)
      have := ih (i + 1) (u / 128) (a + ((u % 128 + 128 : Nat) : Int) % 128 * 2 ^ (7 * i)) (by omega) (by omega) hd' (fun _ => by omega) (by omega)
      rw [show 9 - i = 10 - (i + 1) by omega, this]
      have e1 : ((u % 128 + 128 : Nat) : Int) % 128 = ((u % 128 : Nat) : Int) := by omega
      rw [e1, pow7]
      have e2 : a + ((u % 128 : Nat) : Int) * 2 ^ (7 * i) + ((u / 128 : Nat) : Int) * (2 ^ (7 * i) * 128) = a + (u : Int) * 2 ^ (7 * i) := by
        have e3 : (u : Int) = ((u % 128 : Nat) : Int) + ((u / 128 : Nat) : Int) * 128 := by omega
        have e4 : (u : Int) * 2 ^ (7 * i) = ((u % 128 : Nat) : Int) * 2 ^ (7 * i) + ((u / 128 : Nat) : Int) * 128 * 2 ^ (7 * i) := by
          conv => lhs; rw [e3]
          rw [Int.add_mul]
        rw [e4, Int.mul_comm (2 ^ (7 * i)) 128, ← Int.mul_assoc]
        omega
      rw [e2]
      have e5 : p + (i + 1) + (enc (u / 128)).length = p + i + (((u % 128 + 128 : Nat) : Int) :: enc (u / 128)).length := by simp; omega
      rw [e5]
theorem uintR_enc (xs ys : List Int) (v : Nat) (hv : v < 18446744073709551616) : uintR (xs ++ (enc v ++ ys)) xs.length = ((v : Int), ((xs.length + (enc v).length : Nat) : Int), 0) := by
  unfold uintR
  rw [if_neg (by simp; omega)]
  have h := ud_enc (xs ++ (enc v ++ ys)) ys xs.length 9 0 v 0 rfl (by omega) (by simp) (by omega) (by simp; omega)
  simp only [Nat.add_zero, Nat.mul_zero, Int.pow_zero, Int.mul_one, Int.zero_add, Nat.sub_zero] at h
  rw [Int.toNat_natCast, h]

/-- What is read as a number is that number's bytes. -/
theorem ud_back (zs : List Int) (p : Nat) (hz : ∀ k, 0 ≤ zs.getD k 0 ∧ zs.getD k 0 ≤ 255) : ∀ (m i : Nat) (a r1 r2 : Int), 9 - i = m → i ≤ 9 → ud zs p (10 - i) i a = (r1, r2, 0) →
    ∃ u : Nat, r1 = a + u * 2 ^ (7 * i) ∧ (0 < i → 0 < u) ∧ r2 = ((p + i + (enc u).length : Nat) : Int) ∧ (zs.drop (p + i)).take (enc u).length = enc u := by
  intro m
  induction m with
  | zero =>
    intro i a r1 r2 hm hi h
    obtain rfl : i = 9 := by omega
    have hr : URel zs p 9 a r1 r2 0 := h
    have hl : p + 9 < zs.length := by
      by_cases hl : p + 9 < zs.length
      · exact hl
      · have := hr.over hi (by omega); omega
    by_cases hf : 9 = 9 ∧ 1 < zs.getD (p + 9) 0 ∨ 0 < 9 ∧ zs.getD (p + 9) 0 = 0
    · have := hr.form hi hl hf; omega
    · have hb := hz (p + 9)
      have hd := hr.done hi hl hf (by omega)
      have hc : zs.getD (p + 9) 0 = 1 := by omega
      refine ⟨1, by rw [← hd.1, hc]; rfl, fun _ => by omega, ?_, ?_⟩
      · rw [enc_small (by omega)]; simp; omega
      · rw [enc_small (by omega)]
        refine List.ext_getElem (by simp; omega) fun j h1 h2 => ?_
        simp at h2
        subst h2
        have : zs[p + 9] = 1 := by simpa [List.getD_eq_getElem?_getD, hl] using hc
        simpa using this
  | succ m ih =>
    intro i a r1 r2 hm hi h
    have hr : URel zs p i a r1 r2 0 := h
    have hl : p + i < zs.length := by
      by_cases hl : p + i < zs.length
      · exact hl
      · have := hr.over hi (by omega); omega
    by_cases hf : i = 9 ∧ 1 < zs.getD (p + i) 0 ∨ 0 < i ∧ zs.getD (p + i) 0 = 0
    · have := hr.form hi hl hf; omega
    · have hb := hz (p + i)
      have hcons : zs.drop (p + i) = zs.getD (p + i) 0 :: zs.drop (p + (i + 1)) := by
        rw [List.drop_eq_getElem_cons hl]
        simp [List.getD_eq_getElem?_getD, hl, Nat.add_assoc]
      by_cases hc : zs.getD (p + i) 0 < 128
      · have hd := hr.done hi hl hf hc
        obtain ⟨C, hC⟩ := Int.eq_ofNat_of_zero_le hb.1
        refine ⟨C, ?_, fun h0 => by omega, ?_, ?_⟩
        · rw [← hd.1, hC, show (C : Int) % 128 = C by omega]
        · rw [enc_small (by omega)]; simp; omega
        · rw [enc_small (by omega), hcons, hC]; simp
      · have hs := hr.step hi hl hf hc
        obtain ⟨u, e1, e2, e3, e4⟩ := ih (i + 1) _ r1 r2 (by omega) (by omega) hs
        obtain ⟨C, hC⟩ := Int.eq_ofNat_of_zero_le hb.1
        have hu := e2 (by omega)
        have hbig : ¬ (C % 128 + 128 * u) < 128 := by omega
        have ed : (C % 128 + 128 * u) / 128 = u := by omega
        have em : ((((C % 128 + 128 * u) % 128 + 128 : Nat)) : Int) = (C : Int) := by omega
        refine ⟨C % 128 + 128 * u, ?_, fun _ => by omega, ?_, ?_⟩
        · rw [e1, hC, pow7]
          have e5 : (C : Int) % 128 = ((C % 128 : Nat) : Int) := by omega
          have e6 : ((C % 128 + 128 * u : Nat) : Int) = ((C % 128 : Nat) : Int) + (u : Int) * 128 := by omega
          rw [e5, e6, Int.add_mul, Int.mul_comm (2 ^ (7 * i)) 128, ← Int.mul_assoc]
          omega
        · rw [enc_big hbig, ed, e3]; simp; omega
        · rw [enc_big hbig, ed, em, hcons, hC]
          simp only [List.length_cons, List.take_succ_cons]
          rw [e4]
theorem uintR_back (zs : List Int) (p : Nat) (r1 r2 : Int) (hz : ∀ k, 0 ≤ zs.getD k 0 ∧ zs.getD k 0 ≤ 255) (h : uintR zs p = (r1, r2, 0)) :
    ∃ u : Nat, r1 = u ∧ r2 = ((p + (enc u).length : Nat) : Int) ∧ (zs.drop p).take (enc u).length = enc u := by
  unfold uintR at h
  split at h
  · simp at h
  · rw [Int.toNat_natCast] at h
    obtain ⟨u, e1, _, e3, e4⟩ := ud_back zs p hz 9 0 0 r1 r2 rfl (by omega) h
    exact ⟨u, by simpa using e1, by simpa using e3, by simpa using e4⟩
end Go.Proofs.YtekejnjaiccnbaaGreatDoor

/- What the calls of package codec answer; the document's own Frame and Unframe. -/
namespace Go.Proofs.YtekejnjaiccnbaaGreatDoor
open Go.RowKit
set_option linter.unusedVariables false

/-- A slice of bytes in new memory, or none. -/
def Out (w w' : World) (a : Option Addr) (N c : Nat) (zs : List Int) : Prop := zs.length = N ∧ Rd w' a zs ∧ (a = none → c = 0) ∧ N ≤ c ∧ ∀ x, a = some x → w.heap.size ≤ x.block
theorem Out.nil (w w' : World) : Out w w' none 0 0 [] := ⟨rfl, ⟨.inl rfl, by simp⟩, fun _ => rfl, Nat.le_refl _, by simp⟩
theorem Own.out {w w' : World} {g N c : Nat} {zs : List Int} (h : Own w' w.heap.size g N c zs) : Out w w' (some ⟨g, 0, none⟩) N c zs := ⟨h.len, h.rd, by simp, h.cap.1, fun x hx => by cases hx; exact h.ge.1⟩
theorem Out.kept {w w' w2 : World} {row : Option Nat} {a : Option Addr} {N c : Nat} {zs : List Int} (h : Out w w' a N c zs) (hg : w'.grownBy w2 row) (hr : ∀ k, row = some k → k < w.heap.size) : Out w w2 a N c zs :=
  ⟨h.1, h.2.1.grown hg (fun x hx e => by have := h.2.2.2.2 x hx; have := hr x.block e.symm; omega), h.2.2.1, h.2.2.2.1, h.2.2.2.2⟩

def uframeR (zs : List Int) (p : Int) : List Int × Int × Int :=
  if (uintR zs p).2.2 ≠ 0 then ([], 0, (uintR zs p).2.2)
  else if 65536 < (uintR zs p).1 then ([], 0, 23)
  else if (zs.length : Int) - (uintR zs p).2.1 < (uintR zs p).1 + 4 then ([], 0, 20)
  else if four (sumR ((zs.drop ((uintR zs p).2.1.toNat + 4)).take (uintR zs p).1.toNat)) = (zs.drop (uintR zs p).2.1.toNat).take 4 then ((zs.drop ((uintR zs p).2.1.toNat + 4)).take (uintR zs p).1.toNat, (uintR zs p).2.1 + 4 + (uintR zs p).1, 0)
  else ([], 0, 22)

def fcode (zs : List Int) : Int := if 65536 < zs.length then 23 else 0
def flist (zs : List Int) : List Int := if 65536 < zs.length then [] else frameR zs
theorem rframe (a : Option Addr) (zs : List Int) (L cap : Nat) (F : List Int) (r : Int) (w : World) (hr : Rd w a zs) (hL : zs.length = L) (hnil : a = none → cap = 0) (hz : L ≤ 140737488355000) (hF : flist zs = F) (hc : fcode zs = r) :
    Calls Tryz.prog 80 #[.slice a L cap] w fun e w' => ∃ v N c, e = .returned (.tuple #[.slice v N c, .int .i64 r]) ∧ Out w w' v N c F ∧ w.grownBy w' none := by
  unfold flist at hF
  unfold fcode at hc
  by_cases h : 65536 < zs.length
  · rw [if_pos h] at hF hc
    subst hF hc
    refine (rframe_long a L cap w hz (by omega)).mono ?_
    rintro e w' ⟨rfl, rfl⟩
    exact ⟨none, 0, 0, rfl, Out.nil _ _, World.grownBy.refl _ _⟩
  · rw [if_neg h] at hF hc
    subst hF hc
    refine (rframe_short a zs L cap w hr hL hnil (by omega)).mono ?_
    rintro e w' ⟨g, c, N, rfl, ho, hg⟩
    exact ⟨_, _, c, rfl, ho.out, hg⟩
end Go.Proofs.YtekejnjaiccnbaaGreatDoor

/- The program's PutUint, PutInt, PutText, Frame. -/
namespace Go.Proofs.YtekejnjaiccnbaaGreatDoor
open Go.RowKit
set_option linter.unusedVariables false

theorem g_join (ps : List Piece) (k : Nat) (w : World) (t : TypeId) (arr : Array Value) (harr : arr = (ps.map Piece.val).toArray) (hk : ps.length = k) (hk8 : k ≤ 8) (hok : ∀ p ∈ ps, p.ok w) (hsz : total ps ≤ 140737488355328) (hpos : 0 < total ps) :
    Calls Tryz.prog 59 #[.slice (some ⟨w.heap.size, 0, none⟩) k k] (w.alloc (.cells arr t)) fun e w' => ∃ g c N, e = .returned (.slice (some ⟨g, 0, none⟩) N c) ∧ Own w' w.heap.size g N c (joined ps) ∧ w.grownBy w' none := by
  refine (g_concat w.heap.size ps k (w.alloc (.cells arr t)) hk hk8 ?_ ?_ hsz hpos).mono ?_
  · intro i p h
    rw [cell_of_row _ w.heap.size i arr t _ (heap_alloc_new w _), harr]
    simp [h]
  · intro p hp
    have h := hok p hp
    exact ⟨h.1.grown (World.grownBy_alloc w _ none) (by simp), h.2⟩
  · rintro e w' ⟨g, c, N, rfl, ho, hg⟩
    exact ⟨g, c, N, rfl, ho.base (le_alloc (Nat.le_refl _)), (World.grownBy_alloc w _ none).trans hg⟩

theorem conv_text (w : World) (s : ByteArray) : ∃ C w2, (convert 9 27 (.string s)).run Tryz.prog w = .ok (.slice (some ⟨w.heap.size, 0, none⟩) s.size C) w2 ∧ Rd w2 (some ⟨w.heap.size, 0, none⟩) (sInts s) ∧ w.grownBy w2 none := by
  refine ⟨_, _, Go.Lib.run_convert_string_bytes w 9 27 5 s Tryz.underlying9 Tryz.underlying27 Tryz.underlying5, ⟨.inr ⟨w.heap.size, 0, rfl, fun i hi => ?_⟩, sInts_byte s⟩, ?_⟩
  · rw [sInts_len] at hi
    rw [Nat.zero_add, Go.Lib.bytesWorld_cell w 5 s i hi]
    simp [sInts, List.getD_eq_getElem?_getD, hi]
  · exact ⟨rfl, rfl, rfl, by rw [Go.Lib.bytesWorld_size]; omega, fun k hk _ => Go.Lib.bytesWorld_at_old w 5 s k hk⟩

theorem g_four (c : Int) (w : World) (hc : 0 ≤ c ∧ c ≤ 4294967295) :
    Calls Tryz.prog 61 #[.int .u32 c] w fun e w' => ∃ g, e = .returned (.slice (some ⟨g, 0, none⟩) 4 4) ∧ Own w' w.heap.size g 4 4 (four c) ∧ w.grownBy w' none := by
  go_enter Tryz.func61, Tryz.ntmps61
  go_wp2
  go_ret
  refine ⟨w.heap.size, rfl, ?_, World.grownBy_alloc w _ _⟩
  exact Own.ofBlock (heap_alloc_new w _) (Nat.le_refl _) rfl (by decide) (four_byte c hc)

theorem frm_long (a : Option Addr) (L cap : Nat) (w : World) (hz : L ≤ 140737488355000) (h : 65536 < L) :
    Calls Tryz.prog 25 #[.slice a L cap] w fun e w' => e = .returned (.tuple #[.slice none 0 0, .int .i64 23]) ∧ w = w' := by
  have hd : decide ((65536 : Int) < (L : Int)) = true := by simp; omega
  go_enter Tryz.func25, Tryz.ntmps25
  go_wp2
  go_ret2
  exact ⟨rfl, rfl⟩

set_option maxHeartbeats 400000 in
theorem frm_short (a : Option Addr) (zs : List Int) (L cap : Nat) (w : World) (hr : Rd w a zs) (hL : zs.length = L) (hnil : a = none → cap = 0) (h : L ≤ 65536) :
    Calls Tryz.prog 25 #[.slice a L cap] w fun e w' => ∃ g c N, e = .returned (.tuple #[.slice (some ⟨g, 0, none⟩) N c, .int .i64 0]) ∧ Own w' w.heap.size g N c (frameR zs) ∧ w.grownBy w' none := by
  have hd : decide ((65536 : Int) < (L : Int)) = false := by simp; omega
  have HC := g_number (L : Int) w (by omega)
  rw [Int.toNat_natCast] at HC
  have HY : Hid ((enc L).length ≤ 10 ∧ 1 ≤ (enc L).length) := ⟨enc_len L (by omega), enc_len_pos _⟩
  have hF : frameR zs = enc L ++ four (sumR zs) ++ zs := by rw [frameR, hL]
  rw [hF]
  have hRb := sumR_bd zs hr.2
  have HS : Hid (∀ w1, w.grownBy w1 none → Calls Tryz.prog 62 #[.slice a L cap] w1 fun e w' => e = .returned (.int .u32 (sumR zs)) ∧ w1.grownBy w' none) := fun w1 hg => f_sum a zs L cap _ w1 (hr.grown hg (by simp)) hL (by omega) rfl
  generalize sumR zs = R at HS hRb ⊢
  generalize enc L = Y at HC HY ⊢
  have HJ : Hid (∀ g1 c1 N1 w1 g2 w2, Own w1 w.heap.size g1 N1 c1 Y → w.grownBy w1 none → w1.grownBy w2 none → Rd w2 (some ⟨g2, 0, none⟩) (four R) → ∀ t, Calls Tryz.prog 59 #[.slice (some ⟨w2.heap.size, 0, none⟩) 3 3] (w2.alloc (.cells #[.slice (some ⟨g1, 0, none⟩) N1 c1, .slice (some ⟨g2, 0, none⟩) 4 4, .slice a L cap] t)) fun e w' => ∃ g c N, e = .returned (.slice (some ⟨g, 0, none⟩) N c) ∧ Own w' w.heap.size g N c (Y ++ four R ++ zs) ∧ w.grownBy w' none) := by
    intro g1 c1 N1 w1 g2 w2 ho hg hg12 hrd t
    have hl := ho.len
    have hy := HY.out
    have hgg := hg.trans hg12
    refine (g_join [⟨some ⟨g1, 0, none⟩, N1, c1, Y⟩, ⟨some ⟨g2, 0, none⟩, 4, 4, four R⟩, ⟨a, L, cap, zs⟩] 3 w2 t _ rfl rfl (by omega) ?_ (by simp [total]; omega) (by simp [total]; omega)).mono ?_
    · intro p hp
      simp only [List.mem_cons, List.mem_nil_iff, or_false] at hp
      rcases hp with rfl | rfl | rfl
      · exact ⟨ho.rd.grown hg12 (by simp), ho.len, by simp⟩
      · exact ⟨hrd, rfl, by simp⟩
      · exact ⟨hr.grown hgg (by simp), hL, hnil⟩
    · rintro e w' ⟨g, c, N, rfl, ho', hg'⟩
      refine ⟨g, c, N, rfl, ?_, hgg.trans hg'⟩
      have := ho'.base hgg.size
      simpa [joined] using this
  have HRb : Hid (0 ≤ R ∧ R ≤ 4294967295) := hRb
  clear hr hL hnil HY hF hRb
  go_enter Tryz.func25, Tryz.ntmps25
  go_wp2_with fail
  refine HC.mono ?_
  rintro e w1 ⟨g1, c1, N1, rfl, ho1, hg1⟩
  have HO1 : Hid (Own w1 w.heap.size g1 N1 c1 Y) := ho1
  have HG1 : Hid (w.grownBy w1 none) := hg1
  clear ho1 hg1
  go_wp2_with fail
  refine (HS.out w1 HG1.out).mono ?_
  rintro e w2 ⟨rfl, hg2⟩
  have HG2 : Hid (w1.grownBy w2 none) := hg2
  clear hg2
  go_wp2_with fail
  refine (g_four R w2 HRb.out).mono ?_
  rintro e w3 ⟨g3, rfl, ho3, hg3⟩
  have HG3 : Hid (w1.grownBy w3 none) := HG2.out.trans hg3
  have HO3 : Hid (Rd w3 (some ⟨g3, 0, none⟩) (four R)) := ho3.rd
  clear ho3 hg3
  go_wp2_with (go_at_call 59; refine (HJ.out _ _ _ _ _ _ HO1.out HG1.out HG3.out HO3.out _).mono ?_; rintro e w4 ⟨g4, c4, N4, rfl, ho4, hg4⟩)
  go_ret2
  exact ⟨g4, c4, N4, rfl, ho4, hg4⟩

theorem f_frame (a : Option Addr) (zs : List Int) (L cap : Nat) (F : List Int) (r : Int) (w : World) (hr : Rd w a zs) (hL : zs.length = L) (hnil : a = none → cap = 0) (hz : L ≤ 140737488355000) (hF : flist zs = F) (hc : fcode zs = r) :
    Calls Tryz.prog 25 #[.slice a L cap] w fun e w' => ∃ v N c, e = .returned (.tuple #[.slice v N c, .int .i64 r]) ∧ Out w w' v N c F ∧ w.grownBy w' none := by
  unfold flist at hF
  unfold fcode at hc
  by_cases h : 65536 < zs.length
  · rw [if_pos h] at hF hc
    subst hF hc
    refine (frm_long a L cap w hz (by omega)).mono ?_
    rintro e w' ⟨rfl, rfl⟩
    exact ⟨none, 0, 0, rfl, Out.nil _ _, World.grownBy.refl _ _⟩
  · rw [if_neg h] at hF hc
    subst hF hc
    refine (frm_short a zs L cap w hr hL hnil (by omega)).mono ?_
    rintro e w' ⟨g, c, N, rfl, ho, hg⟩
    exact ⟨_, _, c, rfl, ho.out, hg⟩
end Go.Proofs.YtekejnjaiccnbaaGreatDoor

/- The program's readers: text, record; Text, Unframe. -/
namespace Go.Proofs.YtekejnjaiccnbaaGreatDoor
open Go.RowKit
set_option linter.unusedVariables false

theorem str_empty : strOfNums [] = ⟨#[]⟩ := rfl

theorem textR_err {zs : List Int} {p r2 r3 : Int} {s : ByteArray} (h : textR zs p = (s, r2, r3)) (h3 : r3 ≠ 0) : s = ⟨#[]⟩ ∧ r2 = 0 := by
  unfold textR at h
  split at h
  · split at h
    · simp only [Prod.mk.injEq] at h
      exact ⟨h.1.symm, h.2.1.symm⟩
    · simp only [Prod.mk.injEq] at h
      exact absurd h.2.2.symm h3
  · simp only [Prod.mk.injEq] at h
    exact ⟨h.1.symm, h.2.1.symm⟩
theorem fresh_ne {w : World} {a : Option Addr} {zs : List Int} {L : Nat} (hr : Rd w a zs) (hL : zs.length = L) : 0 < L → ∀ x, a = some x → x.block ≠ w.heap.size := by
  intro h0 x hx
  obtain ⟨b, off, e, hc⟩ := hr.at (by omega)
  rw [e] at hx
  cases hx
  have := World.block_lt_of_cell? w _ (hc 0 (by omega))
  simp only at this
  intro e
  simp only at e
  omega

end Go.Proofs.YtekejnjaiccnbaaGreatDoor

