/- Several texts in one: Dtab, Cback, Cpre, Dput, Dtext, Drec, Cface, Cx, Wm. -/
import Derived.Test.YtgpgkpciajajcaaGreatDoorGah
import Derived.Test.YtgpgkpciajajcaaGreatDoorGag
import Derived.Lib.SlBytesRow
import Derived.Deep.RegionHeld3
import Derived.Lib.ConvBytes
import Derived.Lib.SliceRun
import Derived.Laws.BitsAllLaws
import Derived.Laws.Bits64
import Derived.Test.YtgpgkpciajajcaaGreatDoorGac
/- The program's Sum, by its table. -/
namespace Go.Proofs.YtgpgkpciajajcaaGreatDoor
open Go.RowKit
set_option linter.unusedVariables false

theorem stepsN_lt (k : Nat) : ∀ c, c < 2 ^ 32 → stepsN k c < 2 ^ 32 := by
  induction k with
  | zero => intro c h; exact h
  | succ k ih => intro c h; exact ih _ (stepN_lt c h)
theorem crcB_tab (c z : Int) (Q : Nat) (hc : 0 ≤ c ∧ c ≤ 4294967295) (hz : 0 ≤ z ∧ z ≤ 255) (hq : bits .xor .u8 (c % 256) z = (Q : Int)) : bits .xor .u32 (c / 256) (crcN 8 (Q : Int)) = crcB c z := by
  obtain ⟨C, rfl⟩ := Int.eq_ofNat_of_zero_le hc.1
  obtain ⟨Z, rfl⟩ := Int.eq_ofNat_of_zero_le hz.1
  have e1 : ((C : Int) % 256) = ((C % 256 : Nat) : Int) := by omega
  have e2 : ((C : Int) / 256) = ((C / 256 : Nat) : Int) := by omega
  rw [e1, u8_xor _ _ (by omega) (by omega) (by omega) (by omega)] at hq
  have hQ : C % 256 ^^^ Z = Q := by
    have := hq
    simp only [Int.toNat_natCast] at this
    exact_mod_cast this
  have hQ8 : Q < 256 := by rw [← hQ]; exact Nat.xor_lt_two_pow (n := 8) (by omega) (by omega)
  rw [crcB_nat C Z (by omega) (by omega), steps8, crcN_nat 8 Q (by omega), e2]
  have m1 : (C ^^^ Z) % 256 = Q := by
    rw [← hQ]
    have := Nat.xor_mod_two_pow (a := C) (b := Z) (n := 8)
    rw [show (2 : Nat) ^ 8 = 256 by decide] at this
    rw [this, Nat.mod_eq_of_lt (by omega : Z < 256)]
  have m2 : (C ^^^ Z) / 256 = C / 256 := by
    have := Nat.xor_div_two_pow (a := C) (b := Z) (n := 8)
    rw [show (2 : Nat) ^ 8 = 256 by decide] at this
    rw [this, Nat.div_eq_of_lt (by omega : Z < 256), Nat.xor_zero]
  have hs := stepsN_lt 8 Q (by omega)
  rw [m1, m2, u32_xor _ _ (by omega) (by omega) (by omega) (by omega)]
  simp only [Int.toNat_natCast]
  rw [Nat.xor_comm]

theorem tabs_at {Q : Nat} (h : Q < 256) : tabs.toArray[Q]? = some (.int .u32 (crcN 8 (Q : Int))) := by
  simp [tabs, tab, h]

set_option maxRecDepth 100000 in
set_option maxHeartbeats 1000000 in
theorem g_table (a : Option Addr) (zs : List Int) (L cap : Nat) (R : Int) (w : World) (hr : Rd w a zs) (hL : zs.length = L) (hz : (L : Int) ≤ 140737488355328) (hR : sumR zs = R) :
    Calls Tryz.prog 158 #[.slice a L cap, .agg tabs.toArray] w fun e w' => e = .returned (.int .u32 R) ∧ w.grownBy w' none := by
  have HA : Hid (∀ Q, Q < 256 → (w.alloc (.cells tabs.toArray 181)).cell? ⟨w.heap.size, Q, none⟩ = some (.int .u32 (crcN 8 (Q : Int)))) := fun Q h => by
    rw [cell_of_row _ w.heap.size Q tabs.toArray 181 _ (heap_alloc_new w _)]
    exact tabs_at h
  have HR : Hid (Rd (w.alloc (.cells tabs.toArray 181)) a zs) := hr.grown (World.grownBy_alloc w _ none) (by simp)
  have HG : Hid (w.grownBy (w.alloc (.cells tabs.toArray 181)) none) := World.grownBy_alloc w _ none
  generalize tabs.toArray = T at HA HR HG ⊢
  have HL : Hid (zs.length = L) := hL
  have HS : Hid (sumR zs = R) := hR
  have u54 := under54
  clear hr hL hR
  go_enter Tryz.func158, Tryz.ntmps158
  go_wp2
  obtain ⟨w1, ew1⟩ : ∃ w1, w1 = w.alloc (.cells T 181) := ⟨_, rfl⟩
  rw [← ew1] at HA HR HG ⊢
  clear ew1
  go_loop [5, 10] (fun t5 t10 => ∃ (j : Nat) (c : Int), j ≤ L ∧ SumAt zs j c ∧ t5 = .int .u32 c ∧ t10 = .int .i64 j) (fun _ t10 => L - (intOf t10).toNat)
  case atStart => exact ⟨0, 4294967295, Nat.zero_le _, rfl, rfl, rfl⟩
  case round =>
    obtain ⟨j, c, hj, hs, rfl, rfl⟩ := hrel
    have HJ : Hid (SumAt zs j c) := hs
    have hcb := hs.bd HR.out.2
    clear hs
    by_cases hlt : j < L
    · have hl := HL.out
      obtain ⟨b, off, rfl, hc⟩ := HR.out.at (by omega)
      have hcell := hc j (by omega)
      have hby := HR.out.byte j
      have HN : Hid (SumAt zs (j + 1) (crcB c (zs.getD j 0))) := HJ.out.next (by omega)
      obtain ⟨z, ez⟩ : ∃ z, z = zs.getD j 0 := ⟨_, rfl⟩
      rw [← ez] at hcell hby HN
      obtain ⟨Q, hQ⟩ := Int.eq_ofNat_of_zero_le (bits_lo_u8 .xor (c % 256) z)
      have hQ8 : Q < 256 := by have := bits_hi_u8 .xor (c % 256) z; omega
      have hcell2 := HA.out Q hQ8
      have HX : Hid (bits .xor .u32 (c / 256) (crcN 8 (Q : Int)) = crcB c z) := crcB_tab c z Q hcb hby hQ
      obtain ⟨r, er⟩ : ∃ r, r = crcN 8 (Q : Int) := ⟨_, rfl⟩
      rw [← er] at hcell2 HX
      have hrb : 0 ≤ r ∧ r ≤ 4294967295 := by rw [er]; exact crcN_bd 8 _ (by omega)
      clear hc ez hl HJ er
      go_wp2
      go_round
      case rel => exact ⟨j + 1, _, by omega, by rw [HX.out]; exact HN.out, rfl, by go_num⟩
      case measure => simp [intOf]; omega
    · have HE : Hid (bits .xor .u32 c 4294967295 = R) := by
        have h1 := HJ.out
        unfold SumAt at h1
        rw [List.take_of_length_le (by have := HL.out; omega)] at h1
        show _ = _
        rw [h1]; exact HS.out
      go_wp2
      go_ret
      exact ⟨ret_int HE.out, HG.out⟩

theorem f_sum (a : Option Addr) (zs : List Int) (L cap : Nat) (R : Int) (w : World) (hr : Rd w a zs) (hL : zs.length = L) (hz : (L : Int) ≤ 140737488355000) (hR : sumR zs = R) :
    Calls Tryz.prog 131 #[.slice a L cap] w fun e w' => e = .returned (.int .u32 R) ∧ w.grownBy w' none := by
  by_cases h : L < 256
  · have HC := g_plain a zs L cap R w hr hL (by omega) hR
    have hd : decide ((L : Int) < 256) = true := by simp; omega
    clear hr hL hR
    go_enter Tryz.func131, Tryz.ntmps131
    go_wp2_with fail
    refine HC.mono ?_
    rintro e w1 ⟨rfl, rfl⟩
    go_wp2
    go_ret
    exact ⟨rfl, World.grownBy.refl _ _⟩
  · have HS : Hid (Calls Tryz.prog 159 #[] w fun e w' => e = .returned (.agg tabs.toArray) ∧ w.grownBy w' none) := g_sums w
    have HT : Hid (∀ w1, w.grownBy w1 none → Calls Tryz.prog 158 #[.slice a L cap, .agg tabs.toArray] w1 fun e w' => e = .returned (.int .u32 R) ∧ w1.grownBy w' none) := fun w1 hg => g_table a zs L cap R w1 (hr.grown hg (by simp)) hL (by omega) hR
    generalize tabs.toArray = T at HS HT
    have hd : decide ((L : Int) < 256) = false := by simp; omega
    clear hr hL hR
    go_enter Tryz.func131, Tryz.ntmps131
    go_wp2_with fail
    refine HS.out.mono ?_
    rintro e w1 ⟨rfl, hg1⟩
    have HG1 : Hid (w.grownBy w1 none) := hg1
    have HC := HT.out w1 hg1
    clear hg1
    go_wp2_with fail
    refine HC.mono ?_
    rintro e w2 ⟨rfl, hg2⟩
    have HG2 : Hid (w1.grownBy w2 none) := hg2
    clear hg2
    go_wp2
    go_ret
    exact ⟨rfl, HG1.out.trans HG2.out⟩
end Go.Proofs.YtgpgkpciajajcaaGreatDoor

/- Numbers' bytes are read back, and there is one form of each. -/
namespace Go.Proofs.YtgpgkpciajajcaaGreatDoor

theorem pow7 (i : Nat) : (2 : Int) ^ (7 * (i + 1)) = 2 ^ (7 * i) * 128 := by
  rw [show 7 * (i + 1) = 7 * i + 7 by omega, Int.pow_add]; rfl

/-- What stands from place p + i on is u's bytes: it is read. -/
theorem ud_enc (zs ys : List Int) (p : Nat) : ∀ (m i u : Nat) (a : Int), 9 - i = m → i ≤ 9 → (zs.drop (p + i) = enc u ++ ys) → (0 < i → 0 < u) → (u : Int) * 2 ^ (7 * i) < 18446744073709551616 →
    ud zs p (10 - i) i a = (a + u * 2 ^ (7 * i), ((p + i + (enc u).length : Nat) : Int), 0) := by
  intro m
  induction m with
  | zero =>
    intro i u a hm hi hd hu hb
    obtain rfl : i = 9 := by omega
    have e : (2 : Int) ^ (7 * 9) = 9223372036854775808 := by simp
    rw [e] at hb
    have hu1 : u = 1 := by omega
    subst hu1
    rw [enc_small (by omega)] at hd ⊢
    have hlen : p + 9 < zs.length := by
      have h := congrArg List.length hd
      simp at h; omega
    have hg : zs.getD (p + 9) 0 = 1 := by
      have h := congrArg (fun l => l.getD 0 0) hd
      simpa [List.getD_eq_getElem?_getD] using h
    rw [show 10 - 9 = 0 + 1 from rfl, ud, if_neg (by omega), hg, if_neg (by omega), if_pos (by omega)]
    simp
  | succ m ih =>
    intro i u a hm hi hd hu hb
    have hp : (0 : Int) < 2 ^ (7 * i) := Int.pow_pos (by decide)
    have hlen : p + i < zs.length := by
      have h := congrArg List.length hd
      have := enc_len_pos u
      simp at h; omega
    rw [show 10 - i = (9 - i) + 1 by omega, ud, if_neg (by omega)]
    by_cases h : u < 128
    · rw [enc_small h] at hd ⊢
      have hg : zs.getD (p + i) 0 = u := by
        have h := congrArg (fun l => l.getD 0 0) hd
        simpa [List.getD_eq_getElem?_getD] using h
      rw [hg, if_neg (by omega), if_pos (by omega), show (u : Int) % 128 = u by omega]
      simp
    · rw [enc_big h] at hd ⊢
      have hg : zs.getD (p + i) 0 = ((u % 128 + 128 : Nat) : Int) := by
        have h := congrArg (fun l => l.getD 0 0) hd
        simpa [List.getD_eq_getElem?_getD] using h
      rw [hg, if_neg (by omega), if_neg (by omega)]
      have hd' : zs.drop (p + (i + 1)) = enc (u / 128) ++ ys := by
        have h := congrArg (List.drop 1) hd
        rw [List.drop_drop] at h
        simpa [Nat.add_assoc] using h
      have hmul : ((u / 128 : Nat) : Int) * 2 ^ (7 * (i + 1)) ≤ (u : Int) * 2 ^ (7 * i) := by
        rw [pow7, show ((u / 128 : Nat) : Int) * (2 ^ (7 * i) * 128) = ((u / 128 : Nat) : Int) * 128 * 2 ^ (7 * i) by rw [Int.mul_comm (2 ^ (7 * i)) 128, Int.mul_assoc]]
        exact Int.mul_le_mul_of_nonneg_right (by omega) (Int.le_of_lt hp)
      have := ih (i + 1) (u / 128) (a + ((u % 128 + 128 : Nat) : Int) % 128 * 2 ^ (7 * i)) (by omega) (by omega) hd' (fun _ => by omega) (by omega)
      rw [show 9 - i = 10 - (i + 1) by omega, this]
      have e1 : ((u % 128 + 128 : Nat) : Int) % 128 = ((u % 128 : Nat) : Int) := by omega
      rw [e1, pow7]
      have e2 : a + ((u % 128 : Nat) : Int) * 2 ^ (7 * i) + ((u / 128 : Nat) : Int) * (2 ^ (7 * i) * 128) = a + (u : Int) * 2 ^ (7 * i) := by
        have e3 : (u : Int) = ((u % 128 : Nat) : Int) + ((u / 128 : Nat) : Int) * 128 := by omega
        have e4 : (u : Int) * 2 ^ (7 * i) = ((u % 128 : Nat) : Int) * 2 ^ (7 * i) + ((u / 128 : Nat) : Int) * 128 * 2 ^ (7 * i) := by
          conv => lhs; rw [e3]
          rw [Int.add_mul]
        rw [e4, Int.mul_comm (2 ^ (7 * i)) 128, ← Int.mul_assoc]
        omega
      rw [e2]
      have e5 : p + (i + 1) + (enc (u / 128)).length = p + i + (((u % 128 + 128 : Nat) : Int) :: enc (u / 128)).length := by simp; omega
      rw [e5]
theorem uintR_enc (xs ys : List Int) (v : Nat) (hv : v < 18446744073709551616) : uintR (xs ++ (enc v ++ ys)) xs.length = ((v : Int), ((xs.length + (enc v).length : Nat) : Int), 0) := by
  unfold uintR
  rw [if_neg (by simp; omega)]
  have h := ud_enc (xs ++ (enc v ++ ys)) ys xs.length 9 0 v 0 rfl (by omega) (by simp) (by omega) (by simp; omega)
  simp only [Nat.add_zero, Nat.mul_zero, Int.pow_zero, Int.mul_one, Int.zero_add, Nat.sub_zero] at h
  rw [Int.toNat_natCast, h]

end Go.Proofs.YtgpgkpciajajcaaGreatDoor

/- What the calls of package codec answer; the document's own Frame and Unframe. -/
namespace Go.Proofs.YtgpgkpciajajcaaGreatDoor
open Go.RowKit
set_option linter.unusedVariables false

/-- A slice of bytes in new memory, or none. -/
def Out (w w' : World) (a : Option Addr) (N c : Nat) (zs : List Int) : Prop := zs.length = N ∧ Rd w' a zs ∧ (a = none → c = 0) ∧ N ≤ c ∧ ∀ x, a = some x → w.heap.size ≤ x.block
theorem Out.nil (w w' : World) : Out w w' none 0 0 [] := ⟨rfl, ⟨.inl rfl, by simp⟩, fun _ => rfl, Nat.le_refl _, by simp⟩
theorem Own.out {w w' : World} {g N c : Nat} {zs : List Int} (h : Own w' w.heap.size g N c zs) : Out w w' (some ⟨g, 0, none⟩) N c zs := ⟨h.len, h.rd, by simp, h.cap.1, fun x hx => by cases hx; exact h.ge.1⟩
theorem Out.kept {w w' w2 : World} {row : Option Nat} {a : Option Addr} {N c : Nat} {zs : List Int} (h : Out w w' a N c zs) (hg : w'.grownBy w2 row) (hr : ∀ k, row = some k → k < w.heap.size) : Out w w2 a N c zs :=
  ⟨h.1, h.2.1.grown hg (fun x hx e => by have := h.2.2.2.2 x hx; have := hr x.block e.symm; omega), h.2.2.1, h.2.2.2.1, h.2.2.2.2⟩

def uframeR (zs : List Int) (p : Int) : List Int × Int × Int :=
  if (uintR zs p).2.2 ≠ 0 then ([], 0, (uintR zs p).2.2)
  else if 65536 < (uintR zs p).1 then ([], 0, 23)
  else if (zs.length : Int) - (uintR zs p).2.1 < (uintR zs p).1 + 4 then ([], 0, 20)
  else if four (sumR ((zs.drop ((uintR zs p).2.1.toNat + 4)).take (uintR zs p).1.toNat)) = (zs.drop (uintR zs p).2.1.toNat).take 4 then ((zs.drop ((uintR zs p).2.1.toNat + 4)).take (uintR zs p).1.toNat, (uintR zs p).2.1 + 4 + (uintR zs p).1, 0)
  else ([], 0, 22)

def fcode (zs : List Int) : Int := if 65536 < zs.length then 23 else 0
def flist (zs : List Int) : List Int := if 65536 < zs.length then [] else frameR zs
end Go.Proofs.YtgpgkpciajajcaaGreatDoor

/- The program's PutUint, PutInt, PutText, Frame. -/
namespace Go.Proofs.YtgpgkpciajajcaaGreatDoor
open Go.RowKit
set_option linter.unusedVariables false

theorem g_join (ps : List Piece) (k : Nat) (w : World) (t : TypeId) (arr : Array Value) (harr : arr = (ps.map Piece.val).toArray) (hk : ps.length = k) (hk8 : k ≤ 8) (hok : ∀ p ∈ ps, p.ok w) (hsz : total ps ≤ 140737488355328) (hpos : 0 < total ps) :
    Calls Tryz.prog 70 #[.slice (some ⟨w.heap.size, 0, none⟩) k k] (w.alloc (.cells arr t)) fun e w' => ∃ g c N, e = .returned (.slice (some ⟨g, 0, none⟩) N c) ∧ Own w' w.heap.size g N c (joined ps) ∧ w.grownBy w' none := by
  refine (g_concat w.heap.size ps k (w.alloc (.cells arr t)) hk hk8 ?_ ?_ hsz hpos).mono ?_
  · intro i p h
    rw [cell_of_row _ w.heap.size i arr t _ (heap_alloc_new w _), harr]
    simp [h]
  · intro p hp
    have h := hok p hp
    exact ⟨h.1.grown (World.grownBy_alloc w _ none) (by simp), h.2⟩
  · rintro e w' ⟨g, c, N, rfl, ho, hg⟩
    exact ⟨g, c, N, rfl, ho.base (le_alloc (Nat.le_refl _)), (World.grownBy_alloc w _ none).trans hg⟩

theorem conv_text (w : World) (s : ByteArray) : ∃ C w2, (convert 9 37 (.string s)).run Tryz.prog w = .ok (.slice (some ⟨w.heap.size, 0, none⟩) s.size C) w2 ∧ Rd w2 (some ⟨w.heap.size, 0, none⟩) (sInts s) ∧ w.grownBy w2 none := by
  refine ⟨_, _, Go.Lib.run_convert_string_bytes w 9 37 5 s Tryz.underlying9 Tryz.underlying37 Tryz.underlying5, ⟨.inr ⟨w.heap.size, 0, rfl, fun i hi => ?_⟩, sInts_byte s⟩, ?_⟩
  · rw [sInts_len] at hi
    rw [Nat.zero_add, Go.Lib.bytesWorld_cell w 5 s i hi]
    simp [sInts, List.getD_eq_getElem?_getD, hi]
  · exact ⟨rfl, rfl, rfl, by rw [Go.Lib.bytesWorld_size]; omega, fun k hk _ => Go.Lib.bytesWorld_at_old w 5 s k hk⟩

theorem g_four (c : Int) (w : World) (hc : 0 ≤ c ∧ c ≤ 4294967295) :
    Calls Tryz.prog 130 #[.int .u32 c] w fun e w' => ∃ g, e = .returned (.slice (some ⟨g, 0, none⟩) 4 4) ∧ Own w' w.heap.size g 4 4 (four c) ∧ w.grownBy w' none := by
  go_enter Tryz.func130, Tryz.ntmps130
  go_wp2
  go_ret
  refine ⟨w.heap.size, rfl, ?_, World.grownBy_alloc w _ _⟩
  exact Own.ofBlock (heap_alloc_new w _) (Nat.le_refl _) rfl (by decide) (four_byte c hc)

theorem frm_long (a : Option Addr) (L cap : Nat) (w : World) (hz : L ≤ 140737488355000) (h : 65536 < L) :
    Calls Tryz.prog 96 #[.slice a L cap] w fun e w' => e = .returned (.tuple #[.slice none 0 0, .int .i64 23]) ∧ w = w' := by
  have hd : decide ((65536 : Int) < (L : Int)) = true := by simp; omega
  go_enter Tryz.func96, Tryz.ntmps96
  go_wp2
  go_ret2
  exact ⟨rfl, rfl⟩

set_option maxHeartbeats 400000 in
theorem frm_short (a : Option Addr) (zs : List Int) (L cap : Nat) (w : World) (hr : Rd w a zs) (hL : zs.length = L) (hnil : a = none → cap = 0) (h : L ≤ 65536) :
    Calls Tryz.prog 96 #[.slice a L cap] w fun e w' => ∃ g c N, e = .returned (.tuple #[.slice (some ⟨g, 0, none⟩) N c, .int .i64 0]) ∧ Own w' w.heap.size g N c (frameR zs) ∧ w.grownBy w' none := by
  have hd : decide ((65536 : Int) < (L : Int)) = false := by simp; omega
  have HC := g_number (L : Int) w (by omega)
  rw [Int.toNat_natCast] at HC
  have HY : Hid ((enc L).length ≤ 10 ∧ 1 ≤ (enc L).length) := ⟨enc_len L (by omega), enc_len_pos _⟩
  have hF : frameR zs = enc L ++ four (sumR zs) ++ zs := by rw [frameR, hL]
  rw [hF]
  have hRb := sumR_bd zs hr.2
  have HS : Hid (∀ w1, w.grownBy w1 none → Calls Tryz.prog 131 #[.slice a L cap] w1 fun e w' => e = .returned (.int .u32 (sumR zs)) ∧ w1.grownBy w' none) := fun w1 hg => f_sum a zs L cap _ w1 (hr.grown hg (by simp)) hL (by omega) rfl
  generalize sumR zs = R at HS hRb ⊢
  generalize enc L = Y at HC HY ⊢
  have HJ : Hid (∀ g1 c1 N1 w1 g2 w2, Own w1 w.heap.size g1 N1 c1 Y → w.grownBy w1 none → w1.grownBy w2 none → Rd w2 (some ⟨g2, 0, none⟩) (four R) → ∀ t, Calls Tryz.prog 70 #[.slice (some ⟨w2.heap.size, 0, none⟩) 3 3] (w2.alloc (.cells #[.slice (some ⟨g1, 0, none⟩) N1 c1, .slice (some ⟨g2, 0, none⟩) 4 4, .slice a L cap] t)) fun e w' => ∃ g c N, e = .returned (.slice (some ⟨g, 0, none⟩) N c) ∧ Own w' w.heap.size g N c (Y ++ four R ++ zs) ∧ w.grownBy w' none) := by
    intro g1 c1 N1 w1 g2 w2 ho hg hg12 hrd t
    have hl := ho.len
    have hy := HY.out
    have hgg := hg.trans hg12
    refine (g_join [⟨some ⟨g1, 0, none⟩, N1, c1, Y⟩, ⟨some ⟨g2, 0, none⟩, 4, 4, four R⟩, ⟨a, L, cap, zs⟩] 3 w2 t _ rfl rfl (by omega) ?_ (by simp [total]; omega) (by simp [total]; omega)).mono ?_
    · intro p hp
      simp only [List.mem_cons, List.mem_nil_iff, or_false] at hp
      rcases hp with rfl | rfl | rfl
      · exact ⟨ho.rd.grown hg12 (by simp), ho.len, by simp⟩
      · exact ⟨hrd, rfl, by simp⟩
      · exact ⟨hr.grown hgg (by simp), hL, hnil⟩
    · rintro e w' ⟨g, c, N, rfl, ho', hg'⟩
      refine ⟨g, c, N, rfl, ?_, hgg.trans hg'⟩
      have := ho'.base hgg.size
      simpa [joined] using this
  have HRb : Hid (0 ≤ R ∧ R ≤ 4294967295) := hRb
  clear hr hL hnil HY hF hRb
  go_enter Tryz.func96, Tryz.ntmps96
  go_wp2_with fail
  refine HC.mono ?_
  rintro e w1 ⟨g1, c1, N1, rfl, ho1, hg1⟩
  have HO1 : Hid (Own w1 w.heap.size g1 N1 c1 Y) := ho1
  have HG1 : Hid (w.grownBy w1 none) := hg1
  clear ho1 hg1
  go_wp2_with fail
  refine (HS.out w1 HG1.out).mono ?_
  rintro e w2 ⟨rfl, hg2⟩
  have HG2 : Hid (w1.grownBy w2 none) := hg2
  clear hg2
  go_wp2_with fail
  refine (g_four R w2 HRb.out).mono ?_
  rintro e w3 ⟨g3, rfl, ho3, hg3⟩
  have HG3 : Hid (w1.grownBy w3 none) := HG2.out.trans hg3
  have HO3 : Hid (Rd w3 (some ⟨g3, 0, none⟩) (four R)) := ho3.rd
  clear ho3 hg3
  go_wp2_with (go_at_call 70; refine (HJ.out _ _ _ _ _ _ HO1.out HG1.out HG3.out HO3.out _).mono ?_; rintro e w4 ⟨g4, c4, N4, rfl, ho4, hg4⟩)
  go_ret2
  exact ⟨g4, c4, N4, rfl, ho4, hg4⟩

theorem f_frame (a : Option Addr) (zs : List Int) (L cap : Nat) (F : List Int) (r : Int) (w : World) (hr : Rd w a zs) (hL : zs.length = L) (hnil : a = none → cap = 0) (hz : L ≤ 140737488355000) (hF : flist zs = F) (hc : fcode zs = r) :
    Calls Tryz.prog 96 #[.slice a L cap] w fun e w' => ∃ v N c, e = .returned (.tuple #[.slice v N c, .int .i64 r]) ∧ Out w w' v N c F ∧ w.grownBy w' none := by
  unfold flist at hF
  unfold fcode at hc
  by_cases h : 65536 < zs.length
  · rw [if_pos h] at hF hc
    subst hF hc
    refine (frm_long a L cap w hz (by omega)).mono ?_
    rintro e w' ⟨rfl, rfl⟩
    exact ⟨none, 0, 0, rfl, Out.nil _ _, World.grownBy.refl _ _⟩
  · rw [if_neg h] at hF hc
    subst hF hc
    refine (frm_short a zs L cap w hr hL hnil (by omega)).mono ?_
    rintro e w' ⟨g, c, N, rfl, ho, hg⟩
    exact ⟨_, _, c, rfl, ho.out, hg⟩
end Go.Proofs.YtgpgkpciajajcaaGreatDoor

/- The program's readers: text, record; Text, Unframe. -/
namespace Go.Proofs.YtgpgkpciajajcaaGreatDoor
open Go.RowKit
set_option linter.unusedVariables false

theorem textR_err {zs : List Int} {p r2 r3 : Int} {s : ByteArray} (h : textR zs p = (s, r2, r3)) (h3 : r3 ≠ 0) : s = ⟨#[]⟩ ∧ r2 = 0 := by
  unfold textR at h
  split at h
  · split at h
    · simp only [Prod.mk.injEq] at h
      exact ⟨h.1.symm, h.2.1.symm⟩
    · simp only [Prod.mk.injEq] at h
      exact absurd h.2.2.symm h3
  · simp only [Prod.mk.injEq] at h
    exact ⟨h.1.symm, h.2.1.symm⟩
theorem fresh_ne {w : World} {a : Option Addr} {zs : List Int} {L : Nat} (hr : Rd w a zs) (hL : zs.length = L) : 0 < L → ∀ x, a = some x → x.block ≠ w.heap.size := by
  intro h0 x hx
  obtain ⟨b, off, e, hc⟩ := hr.at (by omega)
  rw [e] at hx
  cases hx
  have := World.block_lt_of_cell? w _ (hc 0 (by omega))
  simp only at this
  intro e
  simp only at e
  omega

end Go.Proofs.YtgpgkpciajajcaaGreatDoor

/- The program's readers: record; Unframe. -/
namespace Go.Proofs.YtgpgkpciajajcaaGreatDoor
open Go.RowKit
set_option linter.unusedVariables false

theorem g_equal (a b : Option Addr) (xs ys : List Int) (L M c d : Nat) (R : Bool) (w : World) (hx : Rd w a xs) (hy : Rd w b ys) (hL : xs.length = L) (hM : ys.length = M) (hR : decide (xs = ys) = R) :
    Calls Tryz.prog 221 #[.slice a L c, .slice b M d] w fun e w' => e = .returned (.bool R) ∧ w = w' := by
  have h1 := conv_rd w a xs L c hx hL
  have h2 := conv_rd w b ys M d hy hM
  obtain ⟨s, hs⟩ : ∃ s, s = strOfNums xs := ⟨_, rfl⟩
  obtain ⟨t, ht⟩ : ∃ t, t = strOfNums ys := ⟨_, rfl⟩
  have HE : Hid ((s.toList == t.toList) = R) := by
    subst hs ht hR
    show _ = _
    rw [Bool.eq_iff_iff]
    simp only [beq_iff_eq, decide_eq_true_eq]
    constructor
    · intro h
      refine strOfNums_inj hx.2 hy.2 ?_
      rw [← ByteArray.toList_eq, ← ByteArray.toList_eq]; exact h
    · intro h; rw [h]
  rw [← hs] at h1
  rw [← ht] at h2
  clear hs ht hx hy hL hM hR
  go_enter Tryz.func221, Tryz.ntmps221
  go_wp2
  go_ret
  exact ⟨ret_bool HE.out, rfl⟩

theorem g_clone (ad : Addr) (xs : List Int) (n c : Nat) (w : World) (hr : Rd w (some ad) xs) (hn : xs.length = n) (hz : n ≤ 140737488355000) :
    Calls Tryz.prog 222 #[.slice (some ad) n c] w fun e w' => ∃ g c', e = .returned (.slice (some ⟨g, 0, none⟩) n c') ∧ Own w' w.heap.size g n c' xs ∧ w.grownBy w' none := by
  have HR : Hid (Rd w (some ad) xs) := hr
  have HN : Hid (xs.length = n) := hn
  have heq : ∀ w, (binOp .eql 37 (.slice (some ad) n c) (.slice none 0 0)).run Tryz.prog w = .ok (.bool false) w := fun w => Lib.run_eql_slice_nil w 37 5 (some ad) n c 0 0 Tryz.underlying37
  clear hr hn
  go_enter Tryz.func222, Tryz.ntmps222
  go_wp2_with (at_builtin; refine wpList_append_rd rfl (.tmp 5) (.tmp 6) rfl w.heap.size w.heap.size 0 0 [] rfl (own_empty w) (some ad) xs n c rfl HN.out (HR.out.grown (World.grownBy_alloc w _ none) (by simp)) (by simp) (by omega) ?_; intro g1 c1 w1 ho1 hg1)
  go_ret
  refine ⟨g1, c1, by simp, ?_, gb_trans (World.grownBy_alloc w _ none) hg1 (fun i hi => .inl (by simp at hi; omega))⟩
  rw [List.nil_append, Nat.zero_add] at ho1
  exact ho1

theorem elem27 : Tryz.prog.elem 37 = 5 := by simp [Program.elem, Tryz.underlying37]
theorem sz5 (w : World) : (sizeOf 5).run Tryz.prog w = .ok 1 w := by
  obtain ⟨i0, hi, _, hz1, _⟩ := info_parts info5
  simp [sizeOf, typeInfo, hi, hz1]
theorem head4 (w : World) (b o M C : Nat) (h : 4 ≤ C) : (Instr.slice 37 (.slice (some ⟨b, o, none⟩) M C) none (some (.int .i64 4)) none).run Tryz.prog w = .ok (.slice (some ⟨b, o, none⟩) 4 C) w := by
  rw [run_slice_h w 37 _ M C (by rw [elem27]; exact Tryz.underlying37) .i64 4 (by omega) (by omega), elem27, sz5]
  have : (4 : Int).toNat = 4 := rfl
  simp [Result.andThen, sliced, this, Addr.add]
theorem tail4 (w : World) (b o n C : Nat) (h : 4 + n ≤ C) : (Instr.slice 37 (.slice (some ⟨b, o, none⟩) (4 + n) C) (some (.int .i64 4)) none none).run Tryz.prog w = .ok (.slice (some (if C = 4 then ⟨b, o, none⟩ else ⟨b, o + 4, none⟩)) n (C - 4)) w := by
  rw [run_slice_l w 37 _ (4 + n) C (by rw [elem27]; exact Tryz.underlying37) .i64 4 (by omega) (by omega), elem27, sz5]
  have : (4 : Int).toNat = 4 := rfl
  have e : 4 + n - 4 = n := by omega
  by_cases hc : C = 4
  · simp [Result.andThen, sliced, this, e, hc]
  · simp [Result.andThen, sliced, this, e, hc, Addr.add]

/-- The method record: what it answers, and where the reader stands then. -/
def RecPost (w : World) (r : Nat) (a : Option Addr) (L cap : Nat) (rec : List Int) (r2 r3 : Int) (e : Ending) (w' : World) : Prop :=
  ∃ v N c, e = .returned (.tuple #[.slice v N c, .int .i64 r3]) ∧ Out w w' v N c rec ∧ w.grownBy w' (some r) ∧ (r3 = 0 → At w' r a L cap r2)

set_option maxHeartbeats 400000 in
theorem rec_early (r : Nat) (a : Option Addr) (zs : List Int) (L cap : Nat) (p u1 u2 u3 r3 : Int) (w : World) (h : At w r a L cap p) (hr : Rd w a zs) (hL : zs.length = L) (hcap : L ≤ cap) (hz : (L : Int) ≤ 140737488355000) (hU : uintR zs p = (u1, u2, u3))
    (hR : u3 ≠ 0 ∧ r3 = u3 ∨ u3 = 0 ∧ 65536 < u1 ∧ r3 = 23 ∨ u3 = 0 ∧ u1 ≤ 65536 ∧ (L : Int) - u2 < u1 + 4 ∧ r3 = 20) :
    Calls Tryz.prog 214 #[.pointer (some ⟨r, 0, none⟩)] w fun e w' => e = .returned (.tuple #[.slice none 0 0, .int .i64 r3]) ∧ w.grownBy w' (some r) := by
  have HC := g_num r a zs L cap p u1 u2 u3 w h hr hL hcap hz hU
  rcases hR with ⟨h3, rfl⟩ | ⟨rfl, h1, rfl⟩ | ⟨rfl, h1, h2, rfl⟩
  · have e3 : (r3 != 0) = true := by simpa using h3
    clear hr hL hU h3 h
    go_enter Tryz.func214, Tryz.ntmps214
    go_wp2_with fail
    refine HC.mono ?_
    rintro e w' ⟨rfl, hg, _⟩
    have HG : Hid (w.grownBy w' (some r)) := hg
    clear hg
    go_wp2
    go_ret2
    exact ⟨rfl, HG.out⟩
  · have hok := uintR_ok hr.byte hU
    have hub : 0 ≤ u1 ∧ u1 ≤ 18446744073709551615 := by omega
    have hd : decide (65536 < u1) = true := by simpa using h1
    clear hr hL hU hok h1 h
    go_enter Tryz.func214, Tryz.ntmps214
    go_wp2_with fail
    refine HC.mono ?_
    rintro e w' ⟨rfl, hg, _⟩
    have HG : Hid (w.grownBy w' (some r)) := hg
    clear hg
    go_wp2
    go_ret2
    exact ⟨rfl, HG.out⟩
  · have hok := uintR_ok hr.byte hU
    have hub : 0 ≤ u1 ∧ u1 ≤ 65536 := by omega
    obtain ⟨k, rfl⟩ := Int.eq_ofNat_of_zero_le (show 0 ≤ u2 by omega)
    have hd : decide (65536 < u1) = false := by simp; omega
    have HN : Hid (∀ w1, At w1 r a L cap k → Calls Tryz.prog 175 #[.pointer (some ⟨r, 0, none⟩), .int .u64 (4 + u1)] w1 fun e w' => e = .returned (.tuple #[.slice none 0 0, .int .i64 20]) ∧ w1.grownBy w' none) := fun w1 ha => next_end r a L cap k (4 + u1) w1 ha hz (by omega) (by omega) (by omega)
    clear hr hL hU hok h1 h2 h
    go_enter Tryz.func214, Tryz.ntmps214
    go_wp2_with fail
    refine HC.mono ?_
    rintro e w1 ⟨rfl, hg, ha⟩
    have HG : Hid (w.grownBy w1 (some r)) := hg
    have HA : Hid (At w1 r a L cap k) := (show At w1 r a L cap k by simpa using ha)
    clear hg ha
    go_wp2_with fail
    refine (HN.out w1 HA.out).mono ?_
    rintro e w2 ⟨rfl, hg2⟩
    have HG2 : Hid (w.grownBy w2 (some r)) := gb_trans HG.out hg2 (by simp)
    clear hg2
    go_wp2
    go_ret2
    exact ⟨rfl, HG2.out⟩

set_option maxHeartbeats 1000000 in
theorem rec_late (r : Nat) (a : Option Addr) (zs : List Int) (L cap : Nat) (p : Int) (n k : Nat) (rec : List Int) (ok : Bool) (w : World) (h : At w r a L cap p) (hr : Rd w a zs) (hne : 0 < L → ∀ x, a = some x → x.block ≠ r) (hL : zs.length = L) (hcap : L ≤ cap) (hz : (L : Int) ≤ 140737488355000) (hU : uintR zs p = ((n : Int), (k : Int), 0))
    (hn : n ≤ 65536) (hk : k + 4 + n ≤ L) (hrec : (zs.drop (k + 4)).take n = rec) (hok : decide ((zs.drop k).take 4 = four (sumR rec)) = ok) :
    Calls Tryz.prog 214 #[.pointer (some ⟨r, 0, none⟩)] w fun e w' => w.grownBy w' (some r) ∧ (ok = false ∧ e = .returned (.tuple #[.slice none 0 0, .int .i64 22]) ∨ ok = true ∧ ∃ g c, e = .returned (.tuple #[.slice (some ⟨g, 0, none⟩) n c, .int .i64 0]) ∧ Own w' w.heap.size g n c rec ∧ At w' r a L cap ((k : Int) + 4 + n)) := by
  have HC := g_num r a zs L cap p n k 0 w h hr hL hcap hz hU
  have HRG : Hid (∀ w1, w.grownBy w1 (some r) → Rd w1 a zs) := fun w1 hg => hr.grown hg (fun x hx e => hne (by omega) x hx (Option.some.inj e))
  have HN : Hid (∀ w1, At w1 r a L cap k → w.grownBy w1 (some r) → Calls Tryz.prog 175 #[.pointer (some ⟨r, 0, none⟩), .int .u64 (4 + (n : Int))] w1 fun e w' => ∃ v, e = .returned (.tuple #[.slice v (4 + n) (cap - k), .int .i64 0]) ∧ Rd w' v ((zs.drop k).take (4 + n)) ∧ w1.grownBy w' (some r) ∧ At w' r a L cap ((k : Int) + 4 + n)) := by
    intro w1 ha hg
    have h := next_ok r a zs L cap k (4 + n) w1 ha (HRG.out w1 hg) (hne (by omega)) hL hcap hz (by omega)
    rw [show ((4 + n : Nat) : Int) = 4 + (n : Int) by omega, show ((k + (4 + n) : Nat) : Int) = (k : Int) + 4 + n by omega] at h
    exact h
  have hX1 : ((zs.drop k).take (4 + n)).take 4 = (zs.drop k).take 4 := by rw [List.take_take, show min 4 (4 + n) = 4 by omega]
  have hX2 : ((zs.drop k).take (4 + n)).drop 4 = rec := by
    rw [List.drop_take, List.drop_drop, show 4 + n - 4 = n by omega, ← hrec]
  have hXl : ((zs.drop k).take (4 + n)).length = 4 + n := by rw [List.length_take, List.length_drop]; omega
  rw [← hX1] at hok
  generalize (zs.drop k).take (4 + n) = X at HN hX1 hX2 hXl hok
  have HX2 : Hid (X.drop 4 = rec) := hX2
  have HXl : Hid (X.length = 4 + n) := hXl
  have HOK : Hid (decide (X.take 4 = four (sumR rec)) = ok) := hok
  have hrl : rec.length = n := by rw [← hX2, List.length_drop]; omega
  have HRL : Hid (rec.length = n) := hrl
  have hd : decide ((65536 : Int) < (n : Int)) = false := by simp; omega
  have hCC : 4 + n ≤ cap - k := by omega
  obtain ⟨C, hC⟩ : ∃ C, cap - k = C := ⟨_, rfl⟩
  rw [hC] at HN hCC
  clear hr hU hX1 hX2 hok hL hrec hne HRG hXl hC hrl h hk
  go_enter Tryz.func214, Tryz.ntmps214
  go_wp2_with fail
  refine HC.mono ?_
  rintro e w1 ⟨rfl, hg, ha⟩
  have HG : Hid (w.grownBy w1 (some r)) := hg
  have HA : Hid (At w1 r a L cap k) := (show At w1 r a L cap k by simpa using ha)
  clear hg ha
  go_wp2_with fail
  refine (HN.out w1 HA.out HG.out).mono ?_
  rintro e w2 ⟨v, rfl, hrd, hg2, ha2⟩
  have HG2 : Hid (w.grownBy w2 (some r)) := gb_trans HG.out hg2 (fun k hk => .inr hk)
  have HA2 : Hid (At w2 r a L cap ((k : Int) + 4 + n)) := ha2
  obtain ⟨b, o, rfl, hc⟩ := hrd.at (by have := HXl.out; omega)
  have HT : Hid (Rd w2 (some ⟨b, o, none⟩) (X.take 4)) := by
    have h := (rd_window hc hrd.2 0 4 (by have := HXl.out; omega)).1
    rwa [Nat.add_zero, List.drop_zero] at h
  have HD : Hid (Rd w2 (some (if C = 4 then ⟨b, o, none⟩ else ⟨b, o + 4, none⟩)) rec) := by
    show Rd _ _ _
    have hx := HXl.out
    by_cases h4 : C = 4
    · have h0 : rec = [] := List.eq_nil_of_length_eq_zero (by have := HRL.out; omega)
      rw [h0]
      exact ⟨.inl rfl, by simp⟩
    · rw [if_neg h4, ← HX2.out]
      have h := (rd_window hc hrd.2 4 n (by omega)).1
      rwa [List.take_of_length_le (by rw [List.length_drop]; omega)] at h
  have hh4 := fun W => head4 W b o (4 + n) C (by omega)
  have ht4 := fun W => tail4 W b o n C hCC
  generalize (if C = 4 then (⟨b, o, none⟩ : Addr) else ⟨b, o + 4, none⟩) = ad at HD ht4
  clear hg2 ha2 hrd hc HG HA
  go_wp2
  go_quiet (fail)
  obtain ⟨w3, ew⟩ : ∃ w3, w3 = w2.drewN nq := ⟨_, rfl⟩
  rw [← ew]
  have HG3 : Hid (w.grownBy w3 (some r)) := by show World.grownBy _ _ _; rw [ew]; exact gb_drewR HG2.out _
  have HA3 : Hid (At w3 r a L cap ((k : Int) + 4 + n)) := by show At _ _ _ _ _ _; rw [ew]; exact HA2.out
  have HT3 : Hid (Rd w3 (some ⟨b, o, none⟩) (X.take 4)) := by show Rd _ _ _; rw [ew]; exact HT.out
  have HD3 : Hid (Rd w3 (some ad) rec) := by show Rd _ _ _; rw [ew]; exact HD.out
  clear ew HG2 HA2 HT HD hh4 ht4
  have HS := f_sum (some ad) rec n (C - 4) (sumR rec) w3 HD3.out HRL.out (by omega) rfl
  have HSb : Hid (0 ≤ sumR rec ∧ sumR rec ≤ 4294967295) := sumR_bd rec HD3.out.2
  generalize sumR rec = S at HS HSb HOK
  go_wp2_with fail
  refine HS.mono ?_
  rintro e w4 ⟨rfl, hg4⟩
  have HG4 : Hid (w3.grownBy w4 none) := hg4
  clear hg4
  go_wp2_with fail
  refine (g_four S w4 HSb.out).mono ?_
  rintro e w5 ⟨g5, rfl, ho5, hg5⟩
  have HG5 : Hid (w3.grownBy w5 none) := HG4.out.trans hg5
  have HE := g_equal (some ⟨b, o, none⟩) (some ⟨g5, 0, none⟩) (X.take 4) (four S) 4 4 C 4 ok w5 (HT3.out.grown HG5.out (by simp)) ho5.rd (by rw [List.length_take]; have := HXl.out; omega) rfl HOK.out
  clear hg5 ho5 HG4
  go_wp2_with fail
  refine HE.mono ?_
  rintro e w' ⟨rfl, rfl⟩
  have HGF : Hid (w.grownBy w5 (some r)) := gb_trans HG3.out HG5.out (by simp)
  cases ok
  · go_wp2
    go_ret2
    first | exact ⟨HGF.out, Or.inl ⟨rfl, rfl⟩⟩ | exact ⟨HGF.out, rfl⟩
  · have HCl := g_clone ad rec n (C - 4) w5 (HD3.out.grown HG5.out (by simp)) HRL.out (by omega)
    go_wp2_with fail
    refine HCl.mono ?_
    rintro e w6 ⟨g6, c6, rfl, ho6, hg6⟩
    have HO6 : Hid (Own w6 w.heap.size g6 n c6 rec) := ho6.base HGF.out.size
    have HG6 : Hid (w.grownBy w6 (some r)) := gb_trans HGF.out hg6 (by simp)
    have HA6 : Hid (At w6 r a L cap ((k : Int) + 4 + n)) := (HA3.out.grown HG5.out).grown hg6
    clear ho6 hg6
    go_wp2
    go_ret2
    first | exact ⟨HG6.out, Or.inr ⟨rfl, g6, c6, rfl, HO6.out, HA6.out⟩⟩ | exact ⟨HG6.out, g6, c6, rfl, HO6.out, HA6.out⟩

theorem Out.mono {w0 w w' : World} {a : Option Addr} {N c : Nat} {zs : List Int} (h : Out w w' a N c zs) (hs : w0.heap.size ≤ w.heap.size) : Out w0 w' a N c zs := ⟨h.1, h.2.1, h.2.2.1, h.2.2.2.1, fun x hx => Nat.le_trans hs (h.2.2.2.2 x hx)⟩

theorem g_record (r : Nat) (a : Option Addr) (zs : List Int) (L cap : Nat) (p : Int) (rec : List Int) (r2 r3 : Int) (w : World) (h : At w r a L cap p) (hr : Rd w a zs) (hne : 0 < L → ∀ x, a = some x → x.block ≠ r) (hL : zs.length = L) (hcap : L ≤ cap) (hz : (L : Int) ≤ 140737488355000) (hR : uframeR zs p = (rec, r2, r3)) :
    Calls Tryz.prog 214 #[.pointer (some ⟨r, 0, none⟩)] w (RecPost w r a L cap rec r2 r3) := by
  obtain ⟨u1, u2, u3, hU⟩ : ∃ u1 u2 u3, uintR zs p = (u1, u2, u3) := ⟨_, _, _, rfl⟩
  unfold uframeR at hR
  rw [hU] at hR
  have early : ∀ c3, rec = [] → r2 = 0 → r3 = c3 → c3 ≠ 0 → (u3 ≠ 0 ∧ c3 = u3 ∨ u3 = 0 ∧ 65536 < u1 ∧ c3 = 23 ∨ u3 = 0 ∧ u1 ≤ 65536 ∧ (L : Int) - u2 < u1 + 4 ∧ c3 = 20) → Calls Tryz.prog 214 #[.pointer (some ⟨r, 0, none⟩)] w (RecPost w r a L cap rec r2 r3) := by
    intro c3 h1 h2 h3 h0 h4
    subst h1 h2 h3
    refine (rec_early r a zs L cap p u1 u2 u3 r3 w h hr hL hcap hz hU h4).mono ?_
    rintro e w' ⟨rfl, hg⟩
    exact ⟨none, 0, 0, rfl, Out.nil _ _, hg, fun e => absurd e h0⟩
  by_cases h3 : u3 = 0
  · rw [if_neg (by simpa using h3)] at hR
    by_cases h1 : 65536 < u1
    · rw [if_pos h1] at hR
      simp only [Prod.mk.injEq] at hR
      exact early 23 hR.1.symm hR.2.1.symm hR.2.2.symm (by decide) (.inr (.inl ⟨h3, h1, rfl⟩))
    · rw [if_neg h1] at hR
      by_cases h2 : (zs.length : Int) - u2 < u1 + 4
      · rw [if_pos h2] at hR
        simp only [Prod.mk.injEq] at hR
        exact early 20 hR.1.symm hR.2.1.symm hR.2.2.symm (by decide) (.inr (.inr ⟨h3, by omega, by omega, rfl⟩))
      · rw [if_neg h2] at hR
        subst h3
        have hok := uintR_ok hr.byte hU
        obtain ⟨n, rfl⟩ := Int.eq_ofNat_of_zero_le (show 0 ≤ u1 by omega)
        obtain ⟨k, rfl⟩ := Int.eq_ofNat_of_zero_le (show 0 ≤ u2 by omega)
        simp only [Int.toNat_natCast] at hR
        refine (rec_late r a zs L cap p n k _ _ w h hr hne hL hcap hz hU (by omega) (by omega) rfl rfl).mono ?_
        rintro e w' ⟨hg, h⟩
        by_cases hs : four (sumR ((zs.drop (k + 4)).take n)) = (zs.drop k).take 4
        · rw [if_pos hs] at hR
          simp only [Prod.mk.injEq] at hR
          obtain ⟨rfl, rfl, rfl⟩ := hR
          rcases h with ⟨h, _⟩ | ⟨_, g, c, rfl, ho, ha⟩
          · simp [hs] at h
          · exact ⟨_, _, c, rfl, ho.out, hg, fun _ => ha⟩
        · rw [if_neg hs] at hR
          simp only [Prod.mk.injEq] at hR
          obtain ⟨rfl, rfl, rfl⟩ := hR
          rcases h with ⟨_, rfl⟩ | ⟨h, _⟩
          · exact ⟨none, 0, 0, rfl, Out.nil _ _, hg, fun e => by omega⟩
          · exact absurd (of_decide_eq_true h).symm hs
  · rw [if_pos (by simpa using h3)] at hR
    simp only [Prod.mk.injEq] at hR
    exact early u3 hR.1.symm hR.2.1.symm hR.2.2.symm h3 (.inl ⟨h3, rfl⟩)

theorem uframeR_err {zs rec : List Int} {p r2 r3 : Int} (h : uframeR zs p = (rec, r2, r3)) (h3 : r3 ≠ 0) : rec = [] ∧ r2 = 0 := by
  unfold uframeR at h
  split at h
  · simp only [Prod.mk.injEq] at h; exact ⟨h.1.symm, h.2.1.symm⟩
  · split at h
    · simp only [Prod.mk.injEq] at h; exact ⟨h.1.symm, h.2.1.symm⟩
    · split at h
      · simp only [Prod.mk.injEq] at h; exact ⟨h.1.symm, h.2.1.symm⟩
      · split at h
        · simp only [Prod.mk.injEq] at h; exact absurd h.2.2.symm h3
        · simp only [Prod.mk.injEq] at h; exact ⟨h.1.symm, h.2.1.symm⟩

set_option maxHeartbeats 400000 in
theorem read_bytes (r : Nat) (q e3 : Int) (w : World) (Q : Option Addr → Nat → Nat → World → Prop) (HC : Calls Tryz.prog 214 #[.pointer (some ⟨r, 0, none⟩)] w fun e w' => ∃ v N c, e = .returned (.tuple #[.slice v N c, .int .i64 e3]) ∧ Q v N c w')
    (hq : ∀ v N c w', Q v N c w' → e3 = 0 → w'.cell? ⟨r, 1, none⟩ = some (.int .i64 q)) (hd : ∀ v N c w' n, Q v N c w' → Q v N c (w'.drewN n)) :
    Calls Tryz.prog 213 #[.pointer (some ⟨r, 0, none⟩), .func (.func 214) #[.pointer (some ⟨r, 0, none⟩)] #[]] w fun e w' => ∃ v N c, e = .returned (.tuple #[if e3 = 0 then .slice v N c else .slice none 0 0, .int .i64 (if e3 = 0 then q else 0), .int .i64 e3]) ∧ Q v N c w' := by
  have HQ : Hid (∀ v N c w', Q v N c w' → e3 = 0 → w'.cell? ⟨r, 1, none⟩ = some (.int .i64 q)) := hq
  have HD : Hid (∀ v N c w' n, Q v N c w' → Q v N c (w'.drewN n)) := hd
  have HCC : Hid (Calls Tryz.prog 214 #[.pointer (some ⟨r, 0, none⟩)] w fun e w' => ∃ v N c, e = .returned (.tuple #[.slice v N c, .int .i64 e3]) ∧ Q v N c w') := HC
  clear hq hd HC
  by_cases h3 : e3 = 0
  · simp only [if_pos h3]
    have HE : Hid (e3 = 0) := h3
    have hb3 : (e3 != 0) = false := by simpa using h3
    clear h3
    go_enter Tryz.func213, Tryz.ntmps213
    go_wp2_with fail
    refine HCC.out.mono ?_
    rintro e w1 ⟨v, N, c, rfl, hw1⟩
    have HW : Hid (Q v N c w1) := hw1
    have hc := HQ.out _ _ _ w1 hw1 HE.out
    clear hw1
    go_wp2
    go_quiet (fail)
    go_wp2
    go_ret3
    exact ⟨v, N, c, by rw [HE.out]; rfl, HD.out _ _ _ _ _ HW.out⟩
  · simp only [if_neg h3]
    have hb3 : (e3 != 0) = true := by simpa using h3
    clear h3
    go_enter Tryz.func213, Tryz.ntmps213
    go_wp2_with fail
    refine HCC.out.mono ?_
    rintro e w1 ⟨v, N, c, rfl, hw1⟩
    have HW : Hid (Q v N c w1) := hw1
    clear hw1
    go_wp2
    go_ret3
    exact ⟨v, N, c, rfl, HW.out⟩

theorem f_unframe (a : Option Addr) (zs : List Int) (L cap : Nat) (p : Int) (rec : List Int) (r2 r3 : Int) (w : World) (hr : Rd w a zs) (hL : zs.length = L) (hcap : L ≤ cap) (hz : (L : Int) ≤ 140737488355000) (hR : uframeR zs p = (rec, r2, r3)) :
    Calls Tryz.prog 200 #[.slice a L cap, .int .i64 p] w fun e w' => ∃ v N c, e = .returned (.tuple #[.slice v N c, .int .i64 r2, .int .i64 r3]) ∧ Out w w' v N c rec ∧ w.grownBy w' none := by
  have hmf : ∀ (fn : Fn) (first cap : Array Value) (w : World), (Instr.makeFunc fn first cap).run Tryz.prog w = .ok (.func fn first cap) w := fun _ _ _ _ => rfl
  have HN := g_record w.heap.size a zs L cap p rec r2 r3 (w.alloc (.cells #[.slice a L cap, .int .i64 p] 174)) (at_new w a L cap p) (hr.grown (World.grownBy_alloc w _ none) (by simp)) (fresh_ne hr hL) hL hcap hz hR
  have HC : Hid (Calls Tryz.prog 213 #[.pointer (some ⟨w.heap.size, 0, none⟩), .func (.func 214) #[.pointer (some ⟨w.heap.size, 0, none⟩)] #[]] (w.alloc (.cells #[.slice a L cap, .int .i64 p] 174)) fun e w' => ∃ v N c, e = .returned (.tuple #[.slice v N c, .int .i64 r2, .int .i64 r3]) ∧ Out w w' v N c rec ∧ w.grownBy w' none) := by
    unfold RecPost at HN
    refine (read_bytes w.heap.size r2 r3 _ _ HN (fun v N c w' h h3 => (h.2.2 h3).place) (fun v N c w' n h => ⟨⟨h.1.1, h.1.2.1.drewN n, h.1.2.2⟩, gb_drewR h.2.1 n, fun h3 => (h.2.2 h3).draw n⟩)).mono ?_
    rintro e w' ⟨v, N, c, rfl, ho, hg, _⟩
    by_cases h3 : r3 = 0
    · exact ⟨v, N, c, by rw [if_pos h3, if_pos h3], ho.mono (le_alloc (Nat.le_refl _)), gb_reader hg⟩
    · have he := uframeR_err hR h3
      exact ⟨none, 0, 0, by rw [if_neg h3, if_neg h3, he.2], by rw [he.1]; exact Out.nil _ _, gb_reader hg⟩
  clear HN hr hL hR
  go_enter Tryz.func200, Tryz.ntmps200
  go_wp2_with fail
  refine HC.out.mono ?_
  rintro e w' ⟨v, N, c, rfl, ho, hg⟩
  have HO : Hid (Out w w' v N c rec) := ho
  have HG : Hid (w.grownBy w' none) := hg
  clear ho hg
  go_wp2
  go_ret3
  exact ⟨v, N, c, rfl, HO.out, HG.out⟩
end Go.Proofs.YtgpgkpciajajcaaGreatDoor

/- The calls of package codec, as the statements use them: f_putuint, f_putint, f_puttext, f_sum, f_frame, f_uint, f_int, f_text, f_unframe. -/
namespace Go.Proofs.YtgpgkpciajajcaaGreatDoor
end Go.Proofs.YtgpgkpciajajcaaGreatDoor

/- Frames as lists (picked from the texts of codec, for a trial). -/
namespace Go.Proofs.YtgpgkpciajajcaaGreatDoor
set_option linter.unusedVariables false
theorem uintR_at (xs ys : List Int) (v : Nat) (hv : v < 18446744073709551616) (zs : List Int) (hz : zs = xs ++ (enc v ++ ys)) (p : Int) (hp : p = xs.length) : uintR zs p = ((v : Int), (xs.length : Int) + (enc v).length, 0) := by
  subst hz hp
  rw [uintR_enc xs ys v hv]
  simp
theorem uframeR_at (xs ys rec : List Int) (hr : rec.length ≤ 65536) (zs : List Int) (hz : zs = xs ++ (frameR rec ++ ys)) (p : Int) (hp : p = xs.length) : uframeR zs p = (rec, (xs.length : Int) + (frameR rec).length, 0) := by
  have h := uintR_at xs (four (sumR rec) ++ rec ++ ys) rec.length (by omega) zs (by rw [hz, frameR]; simp) p hp
  unfold uframeR
  rw [h]
  have h4 : (four (sumR rec)).length = 4 := rfl
  have hfl : (frameR rec).length = (enc rec.length).length + 4 + rec.length := by rw [frameR]; simp [h4]; omega
  have hlen : (zs.length : Int) = xs.length + (enc rec.length).length + 4 + rec.length + ys.length := by
    rw [hz]; simp [hfl]; omega
  simp only [ne_eq, not_true_eq_false, if_false]
  rw [if_neg (by omega), if_neg (by omega)]
  have e1 : ((xs.length : Int) + ((enc rec.length).length : Int)).toNat = (xs ++ enc rec.length).length := by simp; omega
  have e2 : ((rec.length : Nat) : Int).toNat = rec.length := by omega
  have ez : zs = (xs ++ enc rec.length) ++ (four (sumR rec) ++ (rec ++ ys)) := by rw [hz, frameR]; simp
  rw [e1, e2]
  have d1 : zs.drop (xs ++ enc rec.length).length = four (sumR rec) ++ (rec ++ ys) := by rw [ez, List.drop_left]
  have d2 : zs.drop ((xs ++ enc rec.length).length + 4) = rec ++ ys := by
    rw [← List.drop_drop, d1, ← h4, List.drop_left]
  rw [d1, d2, List.take_left, show (four (sumR rec) ++ (rec ++ ys)).take 4 = four (sumR rec) from by rw [← h4, List.take_left], if_pos rfl, hfl]
  simp only [Prod.mk.injEq, true_and, and_true]
  omega
/-- A number's bytes cut short end too early. -/
theorem ud_cut (zs : List Int) (p : Nat) : ∀ (m i u j : Nat) (a : Int), 9 - i = m → i ≤ 9 → zs.drop (p + i) = (enc u).take j → j < (enc u).length → (u : Int) * 2 ^ (7 * i) < 18446744073709551616 → ud zs p (10 - i) i a = (0, 0, 20) := by
  intro m
  induction m with
  | zero =>
    intro i u j a hm hi hd hj hb
    obtain rfl : i = 9 := by omega
    have e : (2 : Int) ^ (7 * 9) = 9223372036854775808 := by simp
    rw [e] at hb
    rw [enc_small (show u < 128 by omega)] at hd hj
    have hj0 : j = 0 := by simp at hj; omega
    subst hj0
    have hl : zs.length ≤ p + 9 := by simpa using hd
    rw [show 10 - 9 = 0 + 1 from rfl, ud, if_pos hl]
  | succ m ih =>
    intro i u j a hm hi hd hj hb
    have hp : (0 : Int) < 2 ^ (7 * i) := Int.pow_pos (by decide)
    rw [show 10 - i = (9 - i) + 1 by omega, ud]
    cases j with
    | zero =>
      have hl : zs.length ≤ p + i := by simpa using hd
      rw [if_pos hl]
    | succ j =>
      have h128 : ¬ u < 128 := by
        intro h
        rw [enc_small h] at hj
        simp at hj
      rw [enc_big h128] at hd hj
      have hlen : p + i < zs.length := by
        have h := congrArg List.length hd
        simp at h; omega
      have hg : zs.getD (p + i) 0 = ((u % 128 + 128 : Nat) : Int) := by
        have h := congrArg (fun l => l.getD 0 0) hd
        simpa [List.getD_eq_getElem?_getD] using h
      have hmul : ((u / 128 : Nat) : Int) * 2 ^ (7 * (i + 1)) ≤ (u : Int) * 2 ^ (7 * i) := by
        rw [pow7, show ((u / 128 : Nat) : Int) * (2 ^ (7 * i) * 128) = ((u / 128 : Nat) : Int) * 128 * 2 ^ (7 * i) by rw [Int.mul_comm (2 ^ (7 * i)) 128, Int.mul_assoc]]
        exact Int.mul_le_mul_of_nonneg_right (by omega) (Int.le_of_lt hp)
      have h9 : i ≠ 9 := by omega
      rw [if_neg (by omega), hg, if_neg (by omega), if_neg (by omega)]
      have hd' : zs.drop (p + (i + 1)) = (enc (u / 128)).take j := by
        have h := congrArg (List.drop 1) hd
        rw [List.drop_drop] at h
        simpa [Nat.add_assoc] using h
      have := ih (i + 1) (u / 128) j (a + ((u % 128 + 128 : Nat) : Int) % 128 * 2 ^ (7 * i)) (by omega) (by omega) hd' (by simp at hj; omega) (by omega)
      rw [show 9 - i = 10 - (i + 1) by omega]
      exact this
end Go.Proofs.YtgpgkpciajajcaaGreatDoor

/- Records as frames, one behind the other, and what a cut leaves of them. (No program's numbers.) -/
namespace Go.Proofs.YtgpgkpciajajcaaGreatDoor
set_option linter.unusedVariables false

/-- What a framing keeps to: fr lays a record, uf reads one at a place. -/
structure Framing (fr : List Int → List Int) (uf : List Int → Nat → Option (List Int × Nat)) : Prop where
  pos : ∀ r, 0 < (fr r).length
  whole : ∀ xs r ys, r.length ≤ 65536 → uf (xs ++ (fr r ++ ys)) xs.length = some (r, xs.length + (fr r).length)
  torn : ∀ xs r i, r.length ≤ 65536 → i < (fr r).length → uf (xs ++ (fr r).take i) xs.length = none
def logB (fr : List Int → List Int) (recs : List (List Int)) : List Int := recs.flatMap fr
theorem logB_cons (fr : List Int → List Int) (r : List Int) (recs : List (List Int)) : logB fr (r :: recs) = fr r ++ logB fr recs := rfl
theorem logB_app (fr : List Int → List Int) (a b : List (List Int)) : logB fr (a ++ b) = logB fr a ++ logB fr b := List.flatMap_append
/-- The records from a place on; is something torn behind them? -/
def parse (uf : List Int → Nat → Option (List Int × Nat)) (zs : List Int) : Nat → Nat → List (List Int) × Bool
  | 0, _ => ([], false)
  | n + 1, p => if zs.length ≤ p then ([], false) else match uf zs p with
    | none => ([], true)
    | some (r, q) => (r :: (parse uf zs n q).1, (parse uf zs n q).2)
end Go.Proofs.YtgpgkpciajajcaaGreatDoor

