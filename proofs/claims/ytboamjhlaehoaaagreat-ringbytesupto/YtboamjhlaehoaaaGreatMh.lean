/- Several texts in one: Cback, Cpre, Dput, Dtext, Ka. -/
import Derived.Test.YtboamjhlaehoaaaGreatMe
import Derived.Test.YtboamjhlaehoaaaGreatMf
import Derived.Lib.SlBytesRow
import Derived.Deep.RegionHeld3
import Derived.Test.YtboamjhlaehoaaaGreatMg
import Derived.Lib.ConvBytes
/- Numbers' bytes are read back, and there is one form of each. -/
namespace Go.Proofs.YtboamjhlaehoaaaGreat

theorem getD_app (xs ys : List Int) (i : Nat) : (xs ++ ys).getD (xs.length + i) 0 = ys.getD i 0 := by
  simp [List.getD_eq_getElem?_getD, List.getElem?_append_right]

theorem pow7 (i : Nat) : (2 : Int) ^ (7 * (i + 1)) = 2 ^ (7 * i) * 128 := by
  rw [show 7 * (i + 1) = 7 * i + 7 by omega, Int.pow_add]; rfl

/-- What stands from place p + i on is u's bytes: it is read. -/
theorem ud_enc (zs ys : List Int) (p : Nat) : ∀ (m i u : Nat) (a : Int), 9 - i = m → i ≤ 9 → (zs.drop (p + i) = enc u ++ ys) → (0 < i → 0 < u) → (u : Int) * 2 ^ (7 * i) < 18446744073709551616 →
    ud zs p (10 - i) i a = (a + u * 2 ^ (7 * i), ((p + i + (enc u).length : Nat) : Int), 0) := by
  intro m
  induction m with
  | zero =>
    intro i u a hm hi hd hu hb
    obtain rfl : i = 9 := by omega
    have e : (2 : Int) ^ (7 * 9) = 9223372036854775808 := by simp
    rw [e] at hb
    have hu1 : u = 1 := by omega
    subst hu1
    rw [enc_small (by omega)] at hd ⊢
    have hlen : p + 9 < zs.length := by
      have h := congrArg List.length hd
      simp at h; omega
    have hg : zs.getD (p + 9) 0 = 1 := by
      have h := congrArg (fun l => l.getD 0 0) hd
      simpa [List.getD_eq_getElem?_getD] using h
    rw [show 10 - 9 = 0 + 1 from rfl, ud, if_neg (by omega), hg, if_neg (by omega), if_pos (by omega)]
    simp
  | succ m ih =>
    intro i u a hm hi hd hu hb
    have hp : (0 : Int) < 2 ^ (7 * i) := Int.pow_pos (by decide)
    have hlen : p + i < zs.length := by
      have h := congrArg List.length hd
      have := enc_len_pos u
      simp at h; omega
    rw [show 10 - i = (9 - i) + 1 by omega, ud, if_neg (by omega)]
    by_cases h : u < 128
    · rw [enc_small h] at hd ⊢
      have hg : zs.getD (p + i) 0 = u := by
        have h := congrArg (fun l => l.getD 0 0) hd
        simpa [List.getD_eq_getElem?_getD] using h
      rw [hg, if_neg (by omega), if_pos (by omega), show (u : Int) % 128 = u by omega]
      simp
    · rw [enc_big h] at hd ⊢
      have hg : zs.getD (p + i) 0 = ((u % 128 + 128 : Nat) : Int) := by
        have h := congrArg (fun l => l.getD 0 0) hd
        simpa [List.getD_eq_getElem?_getD] using h
      rw [hg, if_neg (by omega), if_neg (by omega)]
      have hd' : zs.drop (p + (i + 1)) = enc (u / 128) ++ ys := by
        have h := congrArg (List.drop 1) hd
        rw [List.drop_drop] at h
        simpa [Nat.add_assoc] using h
      have hmul : ((u / 128 : Nat) : Int) * 2 ^ (7 * (i + 1)) ≤ (u : Int) * 2 ^ (7 * i) := by
        rw [pow7, show ((u / 128 : Nat) : Int) * (2 ^ (7 * i) * 128) = ((u / 128 : Nat) : Int) * 128 * 2 ^ (7 * i) by rw [Int.mul_comm (2 ^ (7 * i)) 128, Int.mul_assoc]]
        exact Int.mul_le_mul_of_nonneg_right (by omega) (Int.le_of_lt hp)
      have := ih (i + 1) (u / 128) (a + ((u % 128 + 128 : Nat) : Int) % 128 * 2 ^ (7 * i)) (by omega) (by omega) hd' (fun _ => by omega) (by omega)
      rw [show 9 - i = 10 - (i + 1) by omega, this]
      have e1 : ((u % 128 + 128 : Nat) : Int) % 128 = ((u % 128 : Nat) : Int) := by omega
      rw [e1, pow7]
      have e2 : a + ((u % 128 : Nat) : Int) * 2 ^ (7 * i) + ((u / 128 : Nat) : Int) * (2 ^ (7 * i) * 128) = a + (u : Int) * 2 ^ (7 * i) := by
        have e3 : (u : Int) = ((u % 128 : Nat) : Int) + ((u / 128 : Nat) : Int) * 128 := by omega
        have e4 : (u : Int) * 2 ^ (7 * i) = ((u % 128 : Nat) : Int) * 2 ^ (7 * i) + ((u / 128 : Nat) : Int) * 128 * 2 ^ (7 * i) := by
          conv => lhs; rw [e3]
          rw [Int.add_mul]
        rw [e4, Int.mul_comm (2 ^ (7 * i)) 128, ← Int.mul_assoc]
        omega
      rw [e2]
      have e5 : p + (i + 1) + (enc (u / 128)).length = p + i + (((u % 128 + 128 : Nat) : Int) :: enc (u / 128)).length := by simp; omega
      rw [e5]
theorem uintR_enc (xs ys : List Int) (v : Nat) (hv : v < 18446744073709551616) : uintR (xs ++ (enc v ++ ys)) xs.length = ((v : Int), ((xs.length + (enc v).length : Nat) : Int), 0) := by
  unfold uintR
  rw [if_neg (by simp; omega)]
  have h := ud_enc (xs ++ (enc v ++ ys)) ys xs.length 9 0 v 0 rfl (by omega) (by simp) (by omega) (by simp; omega)
  simp only [Nat.add_zero, Nat.mul_zero, Int.pow_zero, Int.mul_one, Int.zero_add, Nat.sub_zero] at h
  rw [Int.toNat_natCast, h]

/-- What is read as a number is that number's bytes. -/
theorem ud_back (zs : List Int) (p : Nat) (hz : ∀ k, 0 ≤ zs.getD k 0 ∧ zs.getD k 0 ≤ 255) : ∀ (m i : Nat) (a r1 r2 : Int), 9 - i = m → i ≤ 9 → ud zs p (10 - i) i a = (r1, r2, 0) →
    ∃ u : Nat, r1 = a + u * 2 ^ (7 * i) ∧ (0 < i → 0 < u) ∧ r2 = ((p + i + (enc u).length : Nat) : Int) ∧ (zs.drop (p + i)).take (enc u).length = enc u := by
  intro m
  induction m with
  | zero =>
    intro i a r1 r2 hm hi h
    obtain rfl : i = 9 := by omega
    have hr : URel zs p 9 a r1 r2 0 := h
    have hl : p + 9 < zs.length := by
      by_cases hl : p + 9 < zs.length
      · exact hl
      · have := hr.over hi (by omega); omega
    by_cases hf : 9 = 9 ∧ 1 < zs.getD (p + 9) 0 ∨ 0 < 9 ∧ zs.getD (p + 9) 0 = 0
    · have := hr.form hi hl hf; omega
    · have hb := hz (p + 9)
      have hd := hr.done hi hl hf (by omega)
      have hc : zs.getD (p + 9) 0 = 1 := by omega
      refine ⟨1, by rw [← hd.1, hc]; rfl, fun _ => by omega, ?_, ?_⟩
      · rw [enc_small (by omega)]; simp; omega
      · rw [enc_small (by omega)]
        refine List.ext_getElem (by simp; omega) fun j h1 h2 => ?_
        simp at h2
        subst h2
        have : zs[p + 9] = 1 := by simpa [List.getD_eq_getElem?_getD, hl] using hc
        simpa using this
  | succ m ih =>
    intro i a r1 r2 hm hi h
    have hr : URel zs p i a r1 r2 0 := h
    have hl : p + i < zs.length := by
      by_cases hl : p + i < zs.length
      · exact hl
      · have := hr.over hi (by omega); omega
    by_cases hf : i = 9 ∧ 1 < zs.getD (p + i) 0 ∨ 0 < i ∧ zs.getD (p + i) 0 = 0
    · have := hr.form hi hl hf; omega
    · have hb := hz (p + i)
      have hcons : zs.drop (p + i) = zs.getD (p + i) 0 :: zs.drop (p + (i + 1)) := by
        rw [List.drop_eq_getElem_cons hl]
        simp [List.getD_eq_getElem?_getD, hl, Nat.add_assoc]
      by_cases hc : zs.getD (p + i) 0 < 128
      · have hd := hr.done hi hl hf hc
        obtain ⟨C, hC⟩ := Int.eq_ofNat_of_zero_le hb.1
        refine ⟨C, ?_, fun h0 => by omega, ?_, ?_⟩
        · rw [← hd.1, hC, show (C : Int) % 128 = C by omega]
        · rw [enc_small (by omega)]; simp; omega
        · rw [enc_small (by omega), hcons, hC]; simp
      · have hs := hr.step hi hl hf hc
        obtain ⟨u, e1, e2, e3, e4⟩ := ih (i + 1) _ r1 r2 (by omega) (by omega) hs
        obtain ⟨C, hC⟩ := Int.eq_ofNat_of_zero_le hb.1
        have hu := e2 (by omega)
        have hbig : ¬ (C % 128 + 128 * u) < 128 := by omega
        have ed : (C % 128 + 128 * u) / 128 = u := by omega
        have em : ((((C % 128 + 128 * u) % 128 + 128 : Nat)) : Int) = (C : Int) := by omega
        refine ⟨C % 128 + 128 * u, ?_, fun _ => by omega, ?_, ?_⟩
        · rw [e1, hC, pow7]
          have e5 : (C : Int) % 128 = ((C % 128 : Nat) : Int) := by omega
          have e6 : ((C % 128 + 128 * u : Nat) : Int) = ((C % 128 : Nat) : Int) + (u : Int) * 128 := by omega
          rw [e5, e6, Int.add_mul, Int.mul_comm (2 ^ (7 * i)) 128, ← Int.mul_assoc]
          omega
        · rw [enc_big hbig, ed, e3]; simp; omega
        · rw [enc_big hbig, ed, em, hcons, hC]
          simp only [List.length_cons, List.take_succ_cons]
          rw [e4]
theorem uintR_back (zs : List Int) (p : Nat) (r1 r2 : Int) (hz : ∀ k, 0 ≤ zs.getD k 0 ∧ zs.getD k 0 ≤ 255) (h : uintR zs p = (r1, r2, 0)) :
    ∃ u : Nat, r1 = u ∧ r2 = ((p + (enc u).length : Nat) : Int) ∧ (zs.drop p).take (enc u).length = enc u := by
  unfold uintR at h
  split at h
  · simp at h
  · rw [Int.toNat_natCast] at h
    obtain ⟨u, e1, _, e3, e4⟩ := ud_back zs p hz 9 0 0 r1 r2 rfl (by omega) h
    exact ⟨u, by simpa using e1, by simpa using e3, by simpa using e4⟩
end Go.Proofs.YtboamjhlaehoaaaGreat

/- What the calls of package codec answer; the document's own Frame and Unframe. -/
namespace Go.Proofs.YtboamjhlaehoaaaGreat
open Go.RowKit
set_option linter.unusedVariables false

/-- A slice of bytes in new memory, or none. -/
def Out (w w' : World) (a : Option Addr) (N c : Nat) (zs : List Int) : Prop := zs.length = N ∧ Rd w' a zs ∧ (a = none → c = 0) ∧ N ≤ c ∧ ∀ x, a = some x → w.heap.size ≤ x.block
theorem Out.nil (w w' : World) : Out w w' none 0 0 [] := ⟨rfl, ⟨.inl rfl, by simp⟩, fun _ => rfl, Nat.le_refl _, by simp⟩
theorem Own.out {w w' : World} {g N c : Nat} {zs : List Int} (h : Own w' w.heap.size g N c zs) : Out w w' (some ⟨g, 0, none⟩) N c zs := ⟨h.len, h.rd, by simp, h.cap.1, fun x hx => by cases hx; exact h.ge.1⟩
theorem Out.kept {w w' w2 : World} {row : Option Nat} {a : Option Addr} {N c : Nat} {zs : List Int} (h : Out w w' a N c zs) (hg : w'.grownBy w2 row) (hr : ∀ k, row = some k → k < w.heap.size) : Out w w2 a N c zs :=
  ⟨h.1, h.2.1.grown hg (fun x hx e => by have := h.2.2.2.2 x hx; have := hr x.block e.symm; omega), h.2.2.1, h.2.2.2.1, h.2.2.2.2⟩

def uframeR (zs : List Int) (p : Int) : List Int × Int × Int :=
  if (uintR zs p).2.2 ≠ 0 then ([], 0, (uintR zs p).2.2)
  else if 65536 < (uintR zs p).1 then ([], 0, 23)
  else if (zs.length : Int) - (uintR zs p).2.1 < (uintR zs p).1 + 4 then ([], 0, 20)
  else if four (sumR ((zs.drop ((uintR zs p).2.1.toNat + 4)).take (uintR zs p).1.toNat)) = (zs.drop (uintR zs p).2.1.toNat).take 4 then ((zs.drop ((uintR zs p).2.1.toNat + 4)).take (uintR zs p).1.toNat, (uintR zs p).2.1 + 4 + (uintR zs p).1, 0)
  else ([], 0, 22)

def fcode (zs : List Int) : Int := if 65536 < zs.length then 23 else 0
def flist (zs : List Int) : List Int := if 65536 < zs.length then [] else frameR zs
end Go.Proofs.YtboamjhlaehoaaaGreat

/- The program's PutUint, PutInt, PutText, Frame. -/
namespace Go.Proofs.YtboamjhlaehoaaaGreat
open Go.RowKit
set_option linter.unusedVariables false

theorem g_join (ps : List Piece) (k : Nat) (w : World) (t : TypeId) (arr : Array Value) (harr : arr = (ps.map Piece.val).toArray) (hk : ps.length = k) (hk8 : k ≤ 8) (hok : ∀ p ∈ ps, p.ok w) (hsz : total ps ≤ 140737488355328) (hpos : 0 < total ps) :
    Calls Tryz.prog 95 #[.slice (some ⟨w.heap.size, 0, none⟩) k k] (w.alloc (.cells arr t)) fun e w' => ∃ g c N, e = .returned (.slice (some ⟨g, 0, none⟩) N c) ∧ Own w' w.heap.size g N c (joined ps) ∧ w.grownBy w' none := by
  refine (g_concat w.heap.size ps k (w.alloc (.cells arr t)) hk hk8 ?_ ?_ hsz hpos).mono ?_
  · intro i p h
    rw [cell_of_row _ w.heap.size i arr t _ (heap_alloc_new w _), harr]
    simp [h]
  · intro p hp
    have h := hok p hp
    exact ⟨h.1.grown (World.grownBy_alloc w _ none) (by simp), h.2⟩
  · rintro e w' ⟨g, c, N, rfl, ho, hg⟩
    exact ⟨g, c, N, rfl, ho.base (le_alloc (Nat.le_refl _)), (World.grownBy_alloc w _ none).trans hg⟩

theorem conv_text (w : World) (s : ByteArray) : ∃ C w2, (convert 9 49 (.string s)).run Tryz.prog w = .ok (.slice (some ⟨w.heap.size, 0, none⟩) s.size C) w2 ∧ Rd w2 (some ⟨w.heap.size, 0, none⟩) (sInts s) ∧ w.grownBy w2 none := by
  refine ⟨_, _, Go.Lib.run_convert_string_bytes w 9 49 5 s Tryz.underlying9 Tryz.underlying49 Tryz.underlying5, ⟨.inr ⟨w.heap.size, 0, rfl, fun i hi => ?_⟩, sInts_byte s⟩, ?_⟩
  · rw [sInts_len] at hi
    rw [Nat.zero_add, Go.Lib.bytesWorld_cell w 5 s i hi]
    simp [sInts, List.getD_eq_getElem?_getD, hi]
  · exact ⟨rfl, rfl, rfl, by rw [Go.Lib.bytesWorld_size]; omega, fun k hk _ => Go.Lib.bytesWorld_at_old w 5 s k hk⟩

end Go.Proofs.YtboamjhlaehoaaaGreat

/- The program's readers: text, record; Text, Unframe. -/
namespace Go.Proofs.YtboamjhlaehoaaaGreat
open Go.RowKit
set_option linter.unusedVariables false

theorem str_empty : strOfNums [] = ⟨#[]⟩ := rfl

theorem textR_err {zs : List Int} {p r2 r3 : Int} {s : ByteArray} (h : textR zs p = (s, r2, r3)) (h3 : r3 ≠ 0) : s = ⟨#[]⟩ ∧ r2 = 0 := by
  unfold textR at h
  split at h
  · split at h
    · simp only [Prod.mk.injEq] at h
      exact ⟨h.1.symm, h.2.1.symm⟩
    · simp only [Prod.mk.injEq] at h
      exact absurd h.2.2.symm h3
  · simp only [Prod.mk.injEq] at h
    exact ⟨h.1.symm, h.2.1.symm⟩
theorem fresh_ne {w : World} {a : Option Addr} {zs : List Int} {L : Nat} (hr : Rd w a zs) (hL : zs.length = L) : 0 < L → ∀ x, a = some x → x.block ≠ w.heap.size := by
  intro h0 x hx
  obtain ⟨b, off, e, hc⟩ := hr.at (by omega)
  rw [e] at hx
  cases hx
  have := World.block_lt_of_cell? w _ (hc 0 (by omega))
  simp only at this
  intro e
  simp only at e
  omega

end Go.Proofs.YtboamjhlaehoaaaGreat

/- Package codec: numbers and texts, put and read. -/
namespace Go.Proofs.YtboamjhlaehoaaaGreat
open Go.RowKit
set_option linter.unusedVariables false
set_option maxRecDepth 20000

theorem read_u (r : Nat) (V : Value) (q e3 : Int) (w : World) (Q : World → Prop) (HC : Calls Tryz.prog 124 #[.pointer (some ⟨r, 0, none⟩)] w fun e w' => e = .returned (.tuple #[V, .int .i64 e3]) ∧ Q w')
    (hq : ∀ w', Q w' → e3 = 0 → w'.cell? ⟨r, 1, none⟩ = some (.int .i64 q)) (hd : ∀ w' n, Q w' → Q (w'.drewN n)) :
    Calls Tryz.prog 123 #[.pointer (some ⟨r, 0, none⟩), .func (.func 124) #[.pointer (some ⟨r, 0, none⟩)] #[]] w fun e w' => e = .returned (.tuple #[if e3 = 0 then V else .int .u64 0, .int .i64 (if e3 = 0 then q else 0), .int .i64 e3]) ∧ Q w' := by
  have HQ : Hid (∀ w', Q w' → e3 = 0 → w'.cell? ⟨r, 1, none⟩ = some (.int .i64 q)) := hq
  have HD : Hid (∀ w' n, Q w' → Q (w'.drewN n)) := hd
  have HCC : Hid (Calls Tryz.prog 124 #[.pointer (some ⟨r, 0, none⟩)] w fun e w' => e = .returned (.tuple #[V, .int .i64 e3]) ∧ Q w') := HC
  clear hq hd HC
  by_cases h3 : e3 = 0
  · rw [if_pos h3, if_pos h3]
    have HE : Hid (e3 = 0) := h3
    have hb3 : (e3 != 0) = false := by simpa using h3
    clear h3
    go_enter Tryz.func123, Tryz.ntmps123
    go_wp2_with fail
    refine HCC.out.mono ?_
    rintro e w1 ⟨rfl, hw1⟩
    have HW : Hid (Q w1) := hw1
    have hc := HQ.out w1 hw1 HE.out
    clear hw1
    go_wp2
    go_quiet (fail)
    go_wp2
    go_ret3
    exact ⟨by rw [HE.out]; rfl, HD.out _ _ HW.out⟩
  · rw [if_neg h3, if_neg h3]
    have hb3 : (e3 != 0) = true := by simpa using h3
    clear h3
    go_enter Tryz.func123, Tryz.ntmps123
    go_wp2_with fail
    refine HCC.out.mono ?_
    rintro e w1 ⟨rfl, hw1⟩
    have HW : Hid (Q w1) := hw1
    clear hw1
    go_wp2
    go_ret3
    exact ⟨rfl, HW.out⟩
theorem f_uint (a : Option Addr) (zs : List Int) (L cap : Nat) (p r1 r2 r3 : Int) (w : World) (hr : Rd w a zs) (hL : zs.length = L) (hcap : L ≤ cap) (hz : (L : Int) ≤ 140737488355000) (hR : uintR zs p = (r1, r2, r3)) :
    Calls Tryz.prog 113 #[.slice a L cap, .int .i64 p] w fun e w' => e = .returned (.tuple #[.int .u64 r1, .int .i64 r2, .int .i64 r3]) ∧ w.grownBy w' none := by
  have hmf : ∀ (fn : Fn) (first cap : Array Value) (w : World), (Instr.makeFunc fn first cap).run Tryz.prog w = .ok (.func fn first cap) w := fun _ _ _ _ => rfl
  have HN := g_num w.heap.size a zs L cap p r1 r2 r3 (w.alloc (.cells #[.slice a L cap, .int .i64 p] 149)) (at_new w a L cap p) (hr.grown (World.grownBy_alloc w _ none) (by simp)) hL hcap hz hR
  have HC : Hid (Calls Tryz.prog 123 #[.pointer (some ⟨w.heap.size, 0, none⟩), .func (.func 124) #[.pointer (some ⟨w.heap.size, 0, none⟩)] #[]] (w.alloc (.cells #[.slice a L cap, .int .i64 p] 149)) fun e w' => e = .returned (.tuple #[.int .u64 r1, .int .i64 r2, .int .i64 r3]) ∧ w.grownBy w' none) := by
    refine (read_u w.heap.size _ r2 r3 _ _ HN (fun w' h h3 => (h.2 h3).place) (fun w' n h => ⟨gb_drewR h.1 n, fun h3 => (h.2 h3).draw n⟩)).mono ?_
    rintro e w' ⟨rfl, h, _⟩
    refine ⟨?_, gb_reader h⟩
    by_cases h3 : r3 = 0
    · rw [if_pos h3, if_pos h3]
    · rw [if_neg h3, if_neg h3, (uintR_err hR h3).1, (uintR_err hR h3).2]
  clear HN hr hL hR
  go_enter Tryz.func113, Tryz.ntmps113
  go_wp2_with fail
  refine HC.out.mono ?_
  rintro e w' ⟨rfl, hg⟩
  have HG : Hid (w.grownBy w' none) := hg
  clear hg
  go_wp2
  go_ret3
  exact ⟨rfl, HG.out⟩
theorem f_putuint (a : Option Addr) (zs : List Int) (L cap : Nat) (v : Int) (w : World) (hr : Rd w a zs) (hL : zs.length = L) (hnil : a = none → cap = 0) (hz : L ≤ 140737488355000) (hv : 0 ≤ v ∧ v ≤ 18446744073709551615) :
    Calls Tryz.prog 72 #[.slice a L cap, .int .u64 v] w fun e w' => ∃ g c N, e = .returned (.slice (some ⟨g, 0, none⟩) N c) ∧ Own w' w.heap.size g N c (zs ++ enc v.toNat) ∧ w.grownBy w' none := by
  have HC := g_number v w hv
  have HY : Hid ((enc v.toNat).length ≤ 10 ∧ 1 ≤ (enc v.toNat).length) := ⟨enc_len v.toNat (by omega), enc_len_pos _⟩
  generalize enc v.toNat = Y at HC HY ⊢
  have HJ : Hid (∀ g1 c1 N1 w1, Own w1 w.heap.size g1 N1 c1 Y → w.grownBy w1 none → ∀ t, Calls Tryz.prog 95 #[.slice (some ⟨w1.heap.size, 0, none⟩) 2 2] (w1.alloc (.cells #[.slice a L cap, .slice (some ⟨g1, 0, none⟩) N1 c1] t)) fun e w' => ∃ g c N, e = .returned (.slice (some ⟨g, 0, none⟩) N c) ∧ Own w' w.heap.size g N c (zs ++ Y) ∧ w.grownBy w' none) := by
    intro g1 c1 N1 w1 ho hg t
    have hl := ho.len
    have hy := HY.out
    refine (g_join [⟨a, L, cap, zs⟩, ⟨some ⟨g1, 0, none⟩, N1, c1, Y⟩] 2 w1 t _ rfl rfl (by omega) ?_ (by simp [total]; omega) (by simp [total]; omega)).mono ?_
    · intro p hp
      simp only [List.mem_cons, List.mem_nil_iff, or_false] at hp
      rcases hp with rfl | rfl
      · exact ⟨hr.grown hg (by simp), hL, hnil⟩
      · exact ⟨ho.rd, ho.len, by simp⟩
    · rintro e w' ⟨g, c, N, rfl, ho', hg'⟩
      refine ⟨g, c, N, rfl, ?_, hg.trans hg'⟩
      have := ho'.base hg.size
      simpa [joined] using this
  clear hr hL hnil HY
  go_enter Tryz.func72, Tryz.ntmps72
  go_wp2_with fail
  refine HC.mono ?_
  rintro e w1 ⟨g1, c1, N1, rfl, ho1, hg1⟩
  have HO1 : Hid (Own w1 w.heap.size g1 N1 c1 Y) := ho1
  have HG1 : Hid (w.grownBy w1 none) := hg1
  clear ho1 hg1
  go_wp2_with (go_at_call 95; refine (HJ.out _ _ _ _ HO1.out HG1.out _).mono ?_; rintro e w2 ⟨g2, c2, N2, rfl, ho2, hg2⟩)
  go_ret
  exact ⟨g2, c2, N2, rfl, ho2, hg2⟩
end Go.Proofs.YtboamjhlaehoaaaGreat

