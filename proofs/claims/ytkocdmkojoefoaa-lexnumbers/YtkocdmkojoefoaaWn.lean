/- LexNumbers: the walk. (Printed by mk_wn.py.) -/
import Derived.Test.YtkocdmkojoefoaaDf
namespace Go.Proofs.Ytkocdmkojoefoaa
open Go.RowKit
set_option linter.unusedVariables false
set_option maxRecDepth 20000

/-- What Lex answers where it answers tokens, as the laws' walks want it. -/
def OkOut (ts : List Tok) (w : World) (e : Ending) (w' : World) : Prop := ∃ g c, e = .returned (.tuple #[.slice (some ⟨g, 0, none⟩) ts.length c, .int .i64 0, .int .i64 0]) ∧ SOwn tokE 32 w' w.heap.size (.slice (some ⟨g, 0, none⟩) ts.length c) ts.length ts ∧ w.grownBy w' none
theorem lex_ok {s : ByteArray} {ts : List Tok} (h : lexR s = .ok ts) (hn : ts ≠ []) (w : World) : Calls Try.prog 9 #[.string s] w fun e w' => OkOut ts w e w' := (f_lex s w).mono fun e w' h2 => by
  rw [h] at h2
  exact lx_slice h2 hn
theorem lex_bad {s : ByteArray} {p : Nat} {c : Int} (h : lexR s = .bad p c) (w : World) : Calls Try.prog 9 #[.string s] w fun e w' => e = .returned (.tuple #[.slice none 0 0, .int .i64 (p : Int), .int .i64 c]) ∧ w.grownBy w' none := (f_lex s w).mono fun e w' h2 => by
  rw [h] at h2
  exact h2
theorem bits_rem (x : Int) : ∃ k : Nat, k < 4 ∧ (bits .and .i64 x 9223372036854775807) % 4 = (k : Int) ∧ (bits .and .i64 x 9223372036854775807).tmod 4 = (k : Int) := by
  have h := and_low x
  generalize bits .and .i64 x 9223372036854775807 = X at h
  refine ⟨(X % 4).toNat, by omega, by omega, ?_⟩
  rw [Int.tmod_eq_emod_of_nonneg h.1]
  omega
/-- What the digits of a number below a million come to. -/
structure DgOk (n : Nat) (S : ByteArray) (A : List Int) : Prop where
  eq : sInts S = A
  str : S = strOfNums A
  ok : DcOk n A
  len : A.length ≤ 6
  pos : 1 ≤ A.length
  size : S.size = A.length
theorem dgOk {n : Nat} {A : List Int} (hn : n < 1000000) (h : DcOk n A) : DgOk n (strOfNums A) A :=
  ⟨sInts_str (dig_byte h.dig), rfl, h, val_len h.dig h.nn (by rw [h.val]; omega), by cases A with | nil => exact absurd rfl h.ne | cons a A => simp, strOfNums_size A⟩
theorem DgOk.frac {n m : Nat} {S T : ByteArray} {A B : List Int} (h : DgOk n S A) (g : DgOk m T B) : lexR (S ++ ⟨#[46]⟩ ++ T) = .ok [(1, 0, S ++ ⟨#[46]⟩ ++ T, 0), (0, ((A.length + 1 + B.length : Nat) : Int), ⟨#[]⟩, 0)] := by
  have hl := h.len
  have gl := g.len
  have e : sInts (S ++ ⟨#[46]⟩ ++ T) = A ++ 46 :: B := by rw [sInts_app, sInts_app, h.eq, g.eq, List.append_assoc]; rfl
  have hlen : (A ++ 46 :: B).length = A.length + 1 + B.length := by rw [List.length_append, List.length_cons]; omega
  have h2 := lx_frac A B h.ok.dig h.ok.ne h.ok.nn g.ok.dig g.ok.ne (by omega)
  rw [← e, str_self, e, hlen] at h2
  exact lexR_of e (by omega) h2
theorem DgOk.nought {n : Nat} {S : ByteArray} {A : List Int} (h : DgOk n S A) : lexR (⟨#[48]⟩ ++ S) = .bad 0 172 := by
  have hl := h.len
  have e : sInts (⟨#[48]⟩ ++ S) = 48 :: A := by rw [sInts_app, h.eq]; rfl
  exact lexR_of e (by simp; omega) (lx_nought A h.ok.dig h.ok.ne)
theorem DgOk.long {n : Nat} {S : ByteArray} {A : List Int} (h : DgOk n S A) : lexR (⟨#[49, 50, 51, 52, 53, 54, 55, 56, 57, 48]⟩ ++ S) = if A.length ≤ 5 then .ok [(1, 0, ⟨#[49, 50, 51, 52, 53, 54, 55, 56, 57, 48]⟩ ++ S, 0), (0, ((10 + A.length : Nat) : Int), ⟨#[]⟩, 0)] else .bad 0 172 := by
  have hl := h.len
  have e : sInts (⟨#[49, 50, 51, 52, 53, 54, 55, 56, 57, 48]⟩ ++ S) = [49, 50, 51, 52, 53, 54, 55, 56, 57, 48] ++ A := by rw [sInts_app, h.eq]; rfl
  have hlen : ([49, 50, 51, 52, 53, 54, 55, 56, 57, 48] ++ A : List Int).length = 10 + A.length := by rw [List.length_append]; rfl
  have h2 := lx_plain ([49, 50, 51, 52, 53, 54, 55, 56, 57, 48] ++ A) (by rw [List.all_append, h.ok.dig]; decide) (by simp) (by simp)
  rw [hlen] at h2
  have h3 := lexR_of e (by omega) h2
  rw [h3, ← e, str_self]
  by_cases h5 : A.length ≤ 5
  · rw [if_pos h5, if_pos (by omega)]
  · rw [if_neg h5, if_neg (by omega)]
theorem DgOk.unit {n : Nat} {S : ByteArray} {A : List Int} (h : DgOk n S A) (hn : n < 1000000) (c : UInt8) (hc : letB (c.toNat : Int) = true) : lexR (S ++ ⟨#[c]⟩) = if 1 ≤ (n : Int) * unitR (c.toNat : Int) ∧ (n : Int) * unitR (c.toNat : Int) ≤ 2147483647 then .ok [(2, 0, S ++ ⟨#[c]⟩, (n : Int) * unitR (c.toNat : Int)), (0, ((A.length + 1 : Nat) : Int), ⟨#[]⟩, 0)] else .bad 0 172 := by
  have hl := h.len
  have e : sInts (S ++ ⟨#[c]⟩) = A ++ [(c.toNat : Int)] := by rw [sInts_app, h.eq]; rfl
  have hlen : (A ++ [(c.toNat : Int)]).length = A.length + 1 := by rw [List.length_append]; rfl
  have h2 := lx_unit A (c.toNat : Int) h.ok.dig h.ok.ne h.ok.nn hc (by rw [h.ok.val]; omega)
  rw [h.ok.val, hlen] at h2
  have h3 := lexR_of e (by omega) h2
  rw [h3, ← e, str_self]
set_option maxHeartbeats 8000000 in
theorem numbers_walk (m d : Nat) (unit : Int) (w : World) (hm : (m : Int) ≤ 18446744073709551615) (hd : (d : Int) ≤ 18446744073709551615) :
    Calls Try.prog 5 #[.int .u64 (m : Int), .int .u64 (d : Int), .int .i64 unit] w fun e w' => e = .returned (.bool true) ∧ w.grownBy w' none := by
  have HD : Hid (∀ x : Nat, ∀ w, Calls Try.prog 14 #[.int .u64 ((x : Int) % 1000000)] w fun e w' => (∃ S A, e = .returned (.string S) ∧ DgOk (x % 1000000) S A) ∧ w.grownBy w' none) := fun x w => by
    have h := r_decimal (x % 1000000) w (by omega)
    rw [show ((x % 1000000 : Nat) : Int) = (x : Int) % 1000000 by omega] at h
    exact h.mono fun e w' ⟨⟨D, he, ho⟩, hg⟩ => ⟨⟨_, D, he, dgOk (by omega) ho⟩, hg⟩
  have HLW := r_low unit
  obtain ⟨k, hk, ek1, ek2⟩ := bits_rem unit
  generalize bits .and .i64 unit 9223372036854775807 = X at HLW ek1 ek2
  have hm1 : 0 ≤ (m : Int) % 1000000 ∧ (m : Int) % 1000000 ≤ 999999 := by omega
  have HM : Hid (((m % 1000000 : Nat) : Int) = (m : Int) % 1000000 ∧ m % 1000000 < 1000000) := ⟨by omega, by omega⟩
  have hk4 : k = 0 ∨ k = 1 ∨ k = 2 ∨ k = 3 := by omega
  rcases hk4 with rfl | rfl | rfl | rfl
  · clear hk
    have ek3 : X % 4 = 0 := by rw [ek1]; rfl
    have ek4 : X.tmod 4 = 0 := by rw [ek2]; rfl
    clear ek1 ek2
    go_enter Try.func5, Try.ntmps5
    go_wp2_with fail
    refine (HD.out m _).mono ?_
    rintro e w1 ⟨⟨S, A, rfl, hS⟩, hg1⟩
    have G1 := hid hg1
    have HS := hid hS
    clear hg1 hS
    go_wp2_with fail
    refine (HD.out d _).mono ?_
    rintro e w2 ⟨⟨T, B, rfl, hT⟩, hg2⟩
    have G2 := hid (G1.out.trans hg2)
    have HT := hid hT
    have hs6 : S.size ≤ 6 := by have := HS.out.size; have := HS.out.len; omega
    have ht6 : T.size ≤ 6 := by have := hT.size; have := hT.len; omega
    clear hg2 hT G1 HD
    have L1 := hid (lex_ok (HS.out.frac HT.out) (by simp))
    have L2 := hid (lex_bad HS.out.nought)
    have HU := HS.out.unit HM.out.2 115 (by decide)
    have HLG := HS.out.long
    rw [HM.out.1] at HU
    have eu : (m : Int) % 1000000 * unitR ((115 : UInt8).toNat : Int) = ((m : Int) % 1000000) := by show _ * 1 = _; omega
    rw [eu] at HU
    have HUU := hid HU
    have HLL := hid HLG
    clear HU HLG eu
    have HSZ : Hid (S.size = A.length) := HS.out.size
    go_wp2_with fail
    refine (L1.out _).mono ?_
    rintro e w3 ⟨gx, cx, rfl, hox, hg3⟩
    have G3 := hid (G2.out.trans hg3)
    have OX := hid hox
    clear hg3 hox G2 L1
    go_wp2_with fail
    refine (L2.out _).mono ?_
    rintro e w4 ⟨rfl, hg4⟩
    have G4 := hid (G3.out.trans hg4)
    have OX4 := hid (SOwn.kept OX.out hg4 (Classical.em _))
    clear hg4 G3 L2 OX
    go_wp2_with fail
    refine (HLW _).mono ?_
    rintro e w5 ⟨rfl, rfl⟩
    have GA := hid (G4.out.trans (World.grownBy_alloc w4 (.cells #[.string ⟨#[115]⟩, .string ⟨#[109]⟩, .string ⟨#[104]⟩, .string ⟨#[100]⟩] 9) none))
    have OXA := hid (SOwn.kept OX4.out (World.grownBy_alloc w4 (.cells #[.string ⟨#[115]⟩, .string ⟨#[109]⟩, .string ⟨#[104]⟩, .string ⟨#[100]⟩] 9) none) (Classical.em _))
    by_cases hv : 1 ≤ (m : Int) % 1000000 ∧ (m : Int) % 1000000 ≤ 2147483647
    · have q1 : decide ((m : Int) % 1000000 < 1) = false := by simp; omega
      have q2 : decide (2147483647 < (m : Int) % 1000000) = false := by simp; omega
      have L3 := hid (lex_ok (HUU.out.trans (if_pos hv)) (by simp))
      clear HUU
      go_wp2_with fail
      refine (L3.out _).mono ?_
      rintro e w6 ⟨gy, cy, rfl, hoy, hg6⟩
      have G6 := hid (GA.out.trans hg6)
      have OX6 := hid (SOwn.kept OXA.out hg6 (Classical.em _))
      have OY6 := hid hoy
      have hq : ∀ w, (binOp .neq 32 (.agg #[.int .i64 1, .int .i64 0, .string (S ++ ⟨#[46]⟩ ++ T), .int .i64 0]) (.agg #[.int .i64 1, .int .i64 0, .string (S ++ ⟨#[46]⟩ ++ T), .int .i64 0])).run Try.prog w = .ok (.bool false) w := fun w => by
        rw [neq32, decide_eq_true rfl]; rfl
      clear hg6 hoy GA OXA OX4 L3
      have G7 := hid (G6.out.trans (World.grownBy_alloc w6 (.cells #[.int .i64 1, .int .i64 60, .int .i64 3600, .int .i64 86400] 2) none))
      have OX7 := hid (SOwn.kept OX6.out (World.grownBy_alloc w6 (.cells #[.int .i64 1, .int .i64 60, .int .i64 3600, .int .i64 86400] 2) none) (Classical.em _))
      have OY7 := hid (SOwn.kept OY6.out (World.grownBy_alloc w6 (.cells #[.int .i64 1, .int .i64 60, .int .i64 3600, .int .i64 86400] 2) none) (Classical.em _))
      clear G6 OX6 OY6
      go_upto_region 7 with fail
      generalize w6.alloc (.cells #[.int .i64 1, .int .i64 60, .int .i64 3600, .int .i64 86400] 2) = W7 at G7 OX7 OY7 ⊢
      obtain ⟨x0, x1, x2, x3⟩ := tok_cells (i := 0) (SOwn.rd OX7.out) rfl
      simp only [Nat.zero_add, Nat.zero_mul] at x0 x1 x2 x3
      by_cases h5 : A.length ≤ 5
      · have q3 : decide ((S.size : Int) ≤ 5) = true := by have := HSZ.out; simp; omega
        have q3' : (S.size : Int) ≤ 5 := by have := HSZ.out; omega
        have L4 := hid (lex_ok (HLL.out.trans (if_pos h5)) (by simp))
        clear HLL h5
        go_wp2_with fail
        refine (L4.out _).mono ?_
        rintro e w8 ⟨gz, cz, rfl, hoz, hg8⟩
        have G8 := hid (G7.out.trans hg8)
        obtain ⟨y0, y1, y2, y3⟩ := tok_cells (i := 0) (SOwn.rd (SOwn.kept OY7.out hg8 (Classical.em _))) rfl
        simp only [Nat.zero_add, Nat.zero_mul] at y0 y1 y2 y3
        clear hg8 hoz G7 OX7 OY7 L4 x0 x1 x2 x3
        go_wp2_with fail
        refine (f_awake _).mono ?_
        rintro e w9 ⟨rfl, hg9⟩
        have G9 := hid (G8.out.trans hg9)
        clear hg9 G8
        go_wp2
        go_ret
        exact ⟨rfl, G9.out⟩
      · have q3 : decide ((S.size : Int) ≤ 5) = false := by have := HSZ.out; simp; omega
        have q3' : ¬ (S.size : Int) ≤ 5 := by have := HSZ.out; omega
        have L4 := hid (lex_bad (HLL.out.trans (if_neg h5)))
        clear HLL h5
        go_wp2_with fail
        refine (L4.out _).mono ?_
        rintro e w8 ⟨rfl, hg8⟩
        have G8 := hid (G7.out.trans hg8)
        obtain ⟨y0, y1, y2, y3⟩ := tok_cells (i := 0) (SOwn.rd (SOwn.kept OY7.out hg8 (Classical.em _))) rfl
        simp only [Nat.zero_add, Nat.zero_mul] at y0 y1 y2 y3
        clear hg8 G7 OX7 OY7 L4 x0 x1 x2 x3
        go_wp2_with fail
        refine (f_awake _).mono ?_
        rintro e w9 ⟨rfl, hg9⟩
        have G9 := hid (G8.out.trans hg9)
        clear hg9 G8
        go_wp2
        go_ret
        exact ⟨rfl, G9.out⟩
    · have L3 := hid (lex_bad (HUU.out.trans (if_neg hv)))
      have hq : ∀ w, (binOp .neq 32 (.agg #[.int .i64 1, .int .i64 0, .string (S ++ ⟨#[46]⟩ ++ T), .int .i64 0]) (.agg #[.int .i64 1, .int .i64 0, .string (S ++ ⟨#[46]⟩ ++ T), .int .i64 0])).run Try.prog w = .ok (.bool false) w := fun w => by
        rw [neq32, decide_eq_true rfl]; rfl
      clear HUU HLL
      go_wp2_with fail
      refine (L3.out _).mono ?_
      rintro e w6 ⟨rfl, hg6⟩
      have G6 := hid (GA.out.trans hg6)
      have OX6 := hid (SOwn.kept OXA.out hg6 (Classical.em _))
      clear hg6 GA OXA OX4 L3
      have G7 := hid (G6.out.trans (World.grownBy_alloc w6 (.cells #[.int .i64 1, .int .i64 60, .int .i64 3600, .int .i64 86400] 2) none))
      have OX7 := hid (SOwn.kept OX6.out (World.grownBy_alloc w6 (.cells #[.int .i64 1, .int .i64 60, .int .i64 3600, .int .i64 86400] 2) none) (Classical.em _))
      clear G6 OX6
      go_upto_region 7 with fail
      generalize w6.alloc (.cells #[.int .i64 1, .int .i64 60, .int .i64 3600, .int .i64 86400] 2) = W7 at G7 OX7 ⊢
      obtain ⟨x0, x1, x2, x3⟩ := tok_cells (i := 0) (SOwn.rd OX7.out) rfl
      simp only [Nat.zero_add, Nat.zero_mul] at x0 x1 x2 x3
      by_cases h1 : (m : Int) % 1000000 < 1
      · have q1 : decide ((m : Int) % 1000000 < 1) = true := by simp; omega
        clear hv
        go_wp2_with fail
        refine (f_awake _).mono ?_
        rintro e w9 ⟨rfl, hg9⟩
        have G9 := hid (G7.out.trans hg9)
        clear hg9 G7 OX7
        go_wp2
        go_ret
        exact ⟨rfl, G9.out⟩
      · have q1 : decide ((m : Int) % 1000000 < 1) = false := by simp; omega
        have q2 : decide (2147483647 < (m : Int) % 1000000) = true := by simp; omega
        clear hv
        go_wp2_with fail
        refine (f_awake _).mono ?_
        rintro e w9 ⟨rfl, hg9⟩
        have G9 := hid (G7.out.trans hg9)
        clear hg9 G7 OX7
        go_wp2
        go_ret
        exact ⟨rfl, G9.out⟩
  · clear hk
    have ek3 : X % 4 = 1 := by rw [ek1]; rfl
    have ek4 : X.tmod 4 = 1 := by rw [ek2]; rfl
    clear ek1 ek2
    go_enter Try.func5, Try.ntmps5
    go_wp2_with fail
    refine (HD.out m _).mono ?_
    rintro e w1 ⟨⟨S, A, rfl, hS⟩, hg1⟩
    have G1 := hid hg1
    have HS := hid hS
    clear hg1 hS
    go_wp2_with fail
    refine (HD.out d _).mono ?_
    rintro e w2 ⟨⟨T, B, rfl, hT⟩, hg2⟩
    have G2 := hid (G1.out.trans hg2)
    have HT := hid hT
    have hs6 : S.size ≤ 6 := by have := HS.out.size; have := HS.out.len; omega
    have ht6 : T.size ≤ 6 := by have := hT.size; have := hT.len; omega
    clear hg2 hT G1 HD
    have L1 := hid (lex_ok (HS.out.frac HT.out) (by simp))
    have L2 := hid (lex_bad HS.out.nought)
    have HU := HS.out.unit HM.out.2 109 (by decide)
    have HLG := HS.out.long
    rw [HM.out.1] at HU
    have eu : (m : Int) % 1000000 * unitR ((109 : UInt8).toNat : Int) = ((m : Int) % 1000000 * 60) := by show _ * 60 = _; rfl
    rw [eu] at HU
    have HUU := hid HU
    have HLL := hid HLG
    clear HU HLG eu
    have HSZ : Hid (S.size = A.length) := HS.out.size
    go_wp2_with fail
    refine (L1.out _).mono ?_
    rintro e w3 ⟨gx, cx, rfl, hox, hg3⟩
    have G3 := hid (G2.out.trans hg3)
    have OX := hid hox
    clear hg3 hox G2 L1
    go_wp2_with fail
    refine (L2.out _).mono ?_
    rintro e w4 ⟨rfl, hg4⟩
    have G4 := hid (G3.out.trans hg4)
    have OX4 := hid (SOwn.kept OX.out hg4 (Classical.em _))
    clear hg4 G3 L2 OX
    go_wp2_with fail
    refine (HLW _).mono ?_
    rintro e w5 ⟨rfl, rfl⟩
    have GA := hid (G4.out.trans (World.grownBy_alloc w4 (.cells #[.string ⟨#[115]⟩, .string ⟨#[109]⟩, .string ⟨#[104]⟩, .string ⟨#[100]⟩] 9) none))
    have OXA := hid (SOwn.kept OX4.out (World.grownBy_alloc w4 (.cells #[.string ⟨#[115]⟩, .string ⟨#[109]⟩, .string ⟨#[104]⟩, .string ⟨#[100]⟩] 9) none) (Classical.em _))
    by_cases hv : 1 ≤ (m : Int) % 1000000 * 60 ∧ (m : Int) % 1000000 * 60 ≤ 2147483647
    · have q1 : decide ((m : Int) % 1000000 * 60 < 1) = false := by simp; omega
      have q2 : decide (2147483647 < (m : Int) % 1000000 * 60) = false := by simp; omega
      have L3 := hid (lex_ok (HUU.out.trans (if_pos hv)) (by simp))
      clear HUU
      go_wp2_with fail
      refine (L3.out _).mono ?_
      rintro e w6 ⟨gy, cy, rfl, hoy, hg6⟩
      have G6 := hid (GA.out.trans hg6)
      have OX6 := hid (SOwn.kept OXA.out hg6 (Classical.em _))
      have OY6 := hid hoy
      have hq : ∀ w, (binOp .neq 32 (.agg #[.int .i64 1, .int .i64 0, .string (S ++ ⟨#[46]⟩ ++ T), .int .i64 0]) (.agg #[.int .i64 1, .int .i64 0, .string (S ++ ⟨#[46]⟩ ++ T), .int .i64 0])).run Try.prog w = .ok (.bool false) w := fun w => by
        rw [neq32, decide_eq_true rfl]; rfl
      clear hg6 hoy GA OXA OX4 L3
      have G7 := hid (G6.out.trans (World.grownBy_alloc w6 (.cells #[.int .i64 1, .int .i64 60, .int .i64 3600, .int .i64 86400] 2) none))
      have OX7 := hid (SOwn.kept OX6.out (World.grownBy_alloc w6 (.cells #[.int .i64 1, .int .i64 60, .int .i64 3600, .int .i64 86400] 2) none) (Classical.em _))
      have OY7 := hid (SOwn.kept OY6.out (World.grownBy_alloc w6 (.cells #[.int .i64 1, .int .i64 60, .int .i64 3600, .int .i64 86400] 2) none) (Classical.em _))
      clear G6 OX6 OY6
      go_upto_region 7 with fail
      generalize w6.alloc (.cells #[.int .i64 1, .int .i64 60, .int .i64 3600, .int .i64 86400] 2) = W7 at G7 OX7 OY7 ⊢
      obtain ⟨x0, x1, x2, x3⟩ := tok_cells (i := 0) (SOwn.rd OX7.out) rfl
      simp only [Nat.zero_add, Nat.zero_mul] at x0 x1 x2 x3
      by_cases h5 : A.length ≤ 5
      · have q3 : decide ((S.size : Int) ≤ 5) = true := by have := HSZ.out; simp; omega
        have q3' : (S.size : Int) ≤ 5 := by have := HSZ.out; omega
        have L4 := hid (lex_ok (HLL.out.trans (if_pos h5)) (by simp))
        clear HLL h5
        go_wp2_with fail
        refine (L4.out _).mono ?_
        rintro e w8 ⟨gz, cz, rfl, hoz, hg8⟩
        have G8 := hid (G7.out.trans hg8)
        obtain ⟨y0, y1, y2, y3⟩ := tok_cells (i := 0) (SOwn.rd (SOwn.kept OY7.out hg8 (Classical.em _))) rfl
        simp only [Nat.zero_add, Nat.zero_mul] at y0 y1 y2 y3
        clear hg8 hoz G7 OX7 OY7 L4 x0 x1 x2 x3
        go_wp2_with fail
        refine (f_awake _).mono ?_
        rintro e w9 ⟨rfl, hg9⟩
        have G9 := hid (G8.out.trans hg9)
        clear hg9 G8
        go_wp2
        go_ret
        exact ⟨rfl, G9.out⟩
      · have q3 : decide ((S.size : Int) ≤ 5) = false := by have := HSZ.out; simp; omega
        have q3' : ¬ (S.size : Int) ≤ 5 := by have := HSZ.out; omega
        have L4 := hid (lex_bad (HLL.out.trans (if_neg h5)))
        clear HLL h5
        go_wp2_with fail
        refine (L4.out _).mono ?_
        rintro e w8 ⟨rfl, hg8⟩
        have G8 := hid (G7.out.trans hg8)
        obtain ⟨y0, y1, y2, y3⟩ := tok_cells (i := 0) (SOwn.rd (SOwn.kept OY7.out hg8 (Classical.em _))) rfl
        simp only [Nat.zero_add, Nat.zero_mul] at y0 y1 y2 y3
        clear hg8 G7 OX7 OY7 L4 x0 x1 x2 x3
        go_wp2_with fail
        refine (f_awake _).mono ?_
        rintro e w9 ⟨rfl, hg9⟩
        have G9 := hid (G8.out.trans hg9)
        clear hg9 G8
        go_wp2
        go_ret
        exact ⟨rfl, G9.out⟩
    · have L3 := hid (lex_bad (HUU.out.trans (if_neg hv)))
      have hq : ∀ w, (binOp .neq 32 (.agg #[.int .i64 1, .int .i64 0, .string (S ++ ⟨#[46]⟩ ++ T), .int .i64 0]) (.agg #[.int .i64 1, .int .i64 0, .string (S ++ ⟨#[46]⟩ ++ T), .int .i64 0])).run Try.prog w = .ok (.bool false) w := fun w => by
        rw [neq32, decide_eq_true rfl]; rfl
      clear HUU HLL
      go_wp2_with fail
      refine (L3.out _).mono ?_
      rintro e w6 ⟨rfl, hg6⟩
      have G6 := hid (GA.out.trans hg6)
      have OX6 := hid (SOwn.kept OXA.out hg6 (Classical.em _))
      clear hg6 GA OXA OX4 L3
      have G7 := hid (G6.out.trans (World.grownBy_alloc w6 (.cells #[.int .i64 1, .int .i64 60, .int .i64 3600, .int .i64 86400] 2) none))
      have OX7 := hid (SOwn.kept OX6.out (World.grownBy_alloc w6 (.cells #[.int .i64 1, .int .i64 60, .int .i64 3600, .int .i64 86400] 2) none) (Classical.em _))
      clear G6 OX6
      go_upto_region 7 with fail
      generalize w6.alloc (.cells #[.int .i64 1, .int .i64 60, .int .i64 3600, .int .i64 86400] 2) = W7 at G7 OX7 ⊢
      obtain ⟨x0, x1, x2, x3⟩ := tok_cells (i := 0) (SOwn.rd OX7.out) rfl
      simp only [Nat.zero_add, Nat.zero_mul] at x0 x1 x2 x3
      by_cases h1 : (m : Int) % 1000000 * 60 < 1
      · have q1 : decide ((m : Int) % 1000000 * 60 < 1) = true := by simp; omega
        clear hv
        go_wp2_with fail
        refine (f_awake _).mono ?_
        rintro e w9 ⟨rfl, hg9⟩
        have G9 := hid (G7.out.trans hg9)
        clear hg9 G7 OX7
        go_wp2
        go_ret
        exact ⟨rfl, G9.out⟩
      · have q1 : decide ((m : Int) % 1000000 * 60 < 1) = false := by simp; omega
        have q2 : decide (2147483647 < (m : Int) % 1000000 * 60) = true := by simp; omega
        clear hv
        go_wp2_with fail
        refine (f_awake _).mono ?_
        rintro e w9 ⟨rfl, hg9⟩
        have G9 := hid (G7.out.trans hg9)
        clear hg9 G7 OX7
        go_wp2
        go_ret
        exact ⟨rfl, G9.out⟩
  · clear hk
    have ek3 : X % 4 = 2 := by rw [ek1]; rfl
    have ek4 : X.tmod 4 = 2 := by rw [ek2]; rfl
    clear ek1 ek2
    go_enter Try.func5, Try.ntmps5
    go_wp2_with fail
    refine (HD.out m _).mono ?_
    rintro e w1 ⟨⟨S, A, rfl, hS⟩, hg1⟩
    have G1 := hid hg1
    have HS := hid hS
    clear hg1 hS
    go_wp2_with fail
    refine (HD.out d _).mono ?_
    rintro e w2 ⟨⟨T, B, rfl, hT⟩, hg2⟩
    have G2 := hid (G1.out.trans hg2)
    have HT := hid hT
    have hs6 : S.size ≤ 6 := by have := HS.out.size; have := HS.out.len; omega
    have ht6 : T.size ≤ 6 := by have := hT.size; have := hT.len; omega
    clear hg2 hT G1 HD
    have L1 := hid (lex_ok (HS.out.frac HT.out) (by simp))
    have L2 := hid (lex_bad HS.out.nought)
    have HU := HS.out.unit HM.out.2 104 (by decide)
    have HLG := HS.out.long
    rw [HM.out.1] at HU
    have eu : (m : Int) % 1000000 * unitR ((104 : UInt8).toNat : Int) = ((m : Int) % 1000000 * 3600) := by show _ * 3600 = _; rfl
    rw [eu] at HU
    have HUU := hid HU
    have HLL := hid HLG
    clear HU HLG eu
    have HSZ : Hid (S.size = A.length) := HS.out.size
    go_wp2_with fail
    refine (L1.out _).mono ?_
    rintro e w3 ⟨gx, cx, rfl, hox, hg3⟩
    have G3 := hid (G2.out.trans hg3)
    have OX := hid hox
    clear hg3 hox G2 L1
    go_wp2_with fail
    refine (L2.out _).mono ?_
    rintro e w4 ⟨rfl, hg4⟩
    have G4 := hid (G3.out.trans hg4)
    have OX4 := hid (SOwn.kept OX.out hg4 (Classical.em _))
    clear hg4 G3 L2 OX
    go_wp2_with fail
    refine (HLW _).mono ?_
    rintro e w5 ⟨rfl, rfl⟩
    have GA := hid (G4.out.trans (World.grownBy_alloc w4 (.cells #[.string ⟨#[115]⟩, .string ⟨#[109]⟩, .string ⟨#[104]⟩, .string ⟨#[100]⟩] 9) none))
    have OXA := hid (SOwn.kept OX4.out (World.grownBy_alloc w4 (.cells #[.string ⟨#[115]⟩, .string ⟨#[109]⟩, .string ⟨#[104]⟩, .string ⟨#[100]⟩] 9) none) (Classical.em _))
    by_cases hv : 1 ≤ (m : Int) % 1000000 * 3600 ∧ (m : Int) % 1000000 * 3600 ≤ 2147483647
    · have q1 : decide ((m : Int) % 1000000 * 3600 < 1) = false := by simp; omega
      have q2 : decide (2147483647 < (m : Int) % 1000000 * 3600) = false := by simp; omega
      have L3 := hid (lex_ok (HUU.out.trans (if_pos hv)) (by simp))
      clear HUU
      go_wp2_with fail
      refine (L3.out _).mono ?_
      rintro e w6 ⟨gy, cy, rfl, hoy, hg6⟩
      have G6 := hid (GA.out.trans hg6)
      have OX6 := hid (SOwn.kept OXA.out hg6 (Classical.em _))
      have OY6 := hid hoy
      have hq : ∀ w, (binOp .neq 32 (.agg #[.int .i64 1, .int .i64 0, .string (S ++ ⟨#[46]⟩ ++ T), .int .i64 0]) (.agg #[.int .i64 1, .int .i64 0, .string (S ++ ⟨#[46]⟩ ++ T), .int .i64 0])).run Try.prog w = .ok (.bool false) w := fun w => by
        rw [neq32, decide_eq_true rfl]; rfl
      clear hg6 hoy GA OXA OX4 L3
      have G7 := hid (G6.out.trans (World.grownBy_alloc w6 (.cells #[.int .i64 1, .int .i64 60, .int .i64 3600, .int .i64 86400] 2) none))
      have OX7 := hid (SOwn.kept OX6.out (World.grownBy_alloc w6 (.cells #[.int .i64 1, .int .i64 60, .int .i64 3600, .int .i64 86400] 2) none) (Classical.em _))
      have OY7 := hid (SOwn.kept OY6.out (World.grownBy_alloc w6 (.cells #[.int .i64 1, .int .i64 60, .int .i64 3600, .int .i64 86400] 2) none) (Classical.em _))
      clear G6 OX6 OY6
      go_upto_region 7 with fail
      generalize w6.alloc (.cells #[.int .i64 1, .int .i64 60, .int .i64 3600, .int .i64 86400] 2) = W7 at G7 OX7 OY7 ⊢
      obtain ⟨x0, x1, x2, x3⟩ := tok_cells (i := 0) (SOwn.rd OX7.out) rfl
      simp only [Nat.zero_add, Nat.zero_mul] at x0 x1 x2 x3
      by_cases h5 : A.length ≤ 5
      · have q3 : decide ((S.size : Int) ≤ 5) = true := by have := HSZ.out; simp; omega
        have q3' : (S.size : Int) ≤ 5 := by have := HSZ.out; omega
        have L4 := hid (lex_ok (HLL.out.trans (if_pos h5)) (by simp))
        clear HLL h5
        go_wp2_with fail
        refine (L4.out _).mono ?_
        rintro e w8 ⟨gz, cz, rfl, hoz, hg8⟩
        have G8 := hid (G7.out.trans hg8)
        obtain ⟨y0, y1, y2, y3⟩ := tok_cells (i := 0) (SOwn.rd (SOwn.kept OY7.out hg8 (Classical.em _))) rfl
        simp only [Nat.zero_add, Nat.zero_mul] at y0 y1 y2 y3
        clear hg8 hoz G7 OX7 OY7 L4 x0 x1 x2 x3
        go_wp2_with fail
        refine (f_awake _).mono ?_
        rintro e w9 ⟨rfl, hg9⟩
        have G9 := hid (G8.out.trans hg9)
        clear hg9 G8
        go_wp2
        go_ret
        exact ⟨rfl, G9.out⟩
      · have q3 : decide ((S.size : Int) ≤ 5) = false := by have := HSZ.out; simp; omega
        have q3' : ¬ (S.size : Int) ≤ 5 := by have := HSZ.out; omega
        have L4 := hid (lex_bad (HLL.out.trans (if_neg h5)))
        clear HLL h5
        go_wp2_with fail
        refine (L4.out _).mono ?_
        rintro e w8 ⟨rfl, hg8⟩
        have G8 := hid (G7.out.trans hg8)
        obtain ⟨y0, y1, y2, y3⟩ := tok_cells (i := 0) (SOwn.rd (SOwn.kept OY7.out hg8 (Classical.em _))) rfl
        simp only [Nat.zero_add, Nat.zero_mul] at y0 y1 y2 y3
        clear hg8 G7 OX7 OY7 L4 x0 x1 x2 x3
        go_wp2_with fail
        refine (f_awake _).mono ?_
        rintro e w9 ⟨rfl, hg9⟩
        have G9 := hid (G8.out.trans hg9)
        clear hg9 G8
        go_wp2
        go_ret
        exact ⟨rfl, G9.out⟩
    · have L3 := hid (lex_bad (HUU.out.trans (if_neg hv)))
      have hq : ∀ w, (binOp .neq 32 (.agg #[.int .i64 1, .int .i64 0, .string (S ++ ⟨#[46]⟩ ++ T), .int .i64 0]) (.agg #[.int .i64 1, .int .i64 0, .string (S ++ ⟨#[46]⟩ ++ T), .int .i64 0])).run Try.prog w = .ok (.bool false) w := fun w => by
        rw [neq32, decide_eq_true rfl]; rfl
      clear HUU HLL
      go_wp2_with fail
      refine (L3.out _).mono ?_
      rintro e w6 ⟨rfl, hg6⟩
      have G6 := hid (GA.out.trans hg6)
      have OX6 := hid (SOwn.kept OXA.out hg6 (Classical.em _))
      clear hg6 GA OXA OX4 L3
      have G7 := hid (G6.out.trans (World.grownBy_alloc w6 (.cells #[.int .i64 1, .int .i64 60, .int .i64 3600, .int .i64 86400] 2) none))
      have OX7 := hid (SOwn.kept OX6.out (World.grownBy_alloc w6 (.cells #[.int .i64 1, .int .i64 60, .int .i64 3600, .int .i64 86400] 2) none) (Classical.em _))
      clear G6 OX6
      go_upto_region 7 with fail
      generalize w6.alloc (.cells #[.int .i64 1, .int .i64 60, .int .i64 3600, .int .i64 86400] 2) = W7 at G7 OX7 ⊢
      obtain ⟨x0, x1, x2, x3⟩ := tok_cells (i := 0) (SOwn.rd OX7.out) rfl
      simp only [Nat.zero_add, Nat.zero_mul] at x0 x1 x2 x3
      by_cases h1 : (m : Int) % 1000000 * 3600 < 1
      · have q1 : decide ((m : Int) % 1000000 * 3600 < 1) = true := by simp; omega
        clear hv
        go_wp2_with fail
        refine (f_awake _).mono ?_
        rintro e w9 ⟨rfl, hg9⟩
        have G9 := hid (G7.out.trans hg9)
        clear hg9 G7 OX7
        go_wp2
        go_ret
        exact ⟨rfl, G9.out⟩
      · have q1 : decide ((m : Int) % 1000000 * 3600 < 1) = false := by simp; omega
        have q2 : decide (2147483647 < (m : Int) % 1000000 * 3600) = true := by simp; omega
        clear hv
        go_wp2_with fail
        refine (f_awake _).mono ?_
        rintro e w9 ⟨rfl, hg9⟩
        have G9 := hid (G7.out.trans hg9)
        clear hg9 G7 OX7
        go_wp2
        go_ret
        exact ⟨rfl, G9.out⟩
  · clear hk
    have ek3 : X % 4 = 3 := by rw [ek1]; rfl
    have ek4 : X.tmod 4 = 3 := by rw [ek2]; rfl
    clear ek1 ek2
    go_enter Try.func5, Try.ntmps5
    go_wp2_with fail
    refine (HD.out m _).mono ?_
    rintro e w1 ⟨⟨S, A, rfl, hS⟩, hg1⟩
    have G1 := hid hg1
    have HS := hid hS
    clear hg1 hS
    go_wp2_with fail
    refine (HD.out d _).mono ?_
    rintro e w2 ⟨⟨T, B, rfl, hT⟩, hg2⟩
    have G2 := hid (G1.out.trans hg2)
    have HT := hid hT
    have hs6 : S.size ≤ 6 := by have := HS.out.size; have := HS.out.len; omega
    have ht6 : T.size ≤ 6 := by have := hT.size; have := hT.len; omega
    clear hg2 hT G1 HD
    have L1 := hid (lex_ok (HS.out.frac HT.out) (by simp))
    have L2 := hid (lex_bad HS.out.nought)
    have HU := HS.out.unit HM.out.2 100 (by decide)
    have HLG := HS.out.long
    rw [HM.out.1] at HU
    have eu : (m : Int) % 1000000 * unitR ((100 : UInt8).toNat : Int) = ((m : Int) % 1000000 * 86400) := by show _ * 86400 = _; rfl
    rw [eu] at HU
    have HUU := hid HU
    have HLL := hid HLG
    clear HU HLG eu
    have HSZ : Hid (S.size = A.length) := HS.out.size
    go_wp2_with fail
    refine (L1.out _).mono ?_
    rintro e w3 ⟨gx, cx, rfl, hox, hg3⟩
    have G3 := hid (G2.out.trans hg3)
    have OX := hid hox
    clear hg3 hox G2 L1
    go_wp2_with fail
    refine (L2.out _).mono ?_
    rintro e w4 ⟨rfl, hg4⟩
    have G4 := hid (G3.out.trans hg4)
    have OX4 := hid (SOwn.kept OX.out hg4 (Classical.em _))
    clear hg4 G3 L2 OX
    go_wp2_with fail
    refine (HLW _).mono ?_
    rintro e w5 ⟨rfl, rfl⟩
    have GA := hid (G4.out.trans (World.grownBy_alloc w4 (.cells #[.string ⟨#[115]⟩, .string ⟨#[109]⟩, .string ⟨#[104]⟩, .string ⟨#[100]⟩] 9) none))
    have OXA := hid (SOwn.kept OX4.out (World.grownBy_alloc w4 (.cells #[.string ⟨#[115]⟩, .string ⟨#[109]⟩, .string ⟨#[104]⟩, .string ⟨#[100]⟩] 9) none) (Classical.em _))
    by_cases hv : 1 ≤ (m : Int) % 1000000 * 86400 ∧ (m : Int) % 1000000 * 86400 ≤ 2147483647
    · have q1 : decide ((m : Int) % 1000000 * 86400 < 1) = false := by simp; omega
      have q2 : decide (2147483647 < (m : Int) % 1000000 * 86400) = false := by simp; omega
      have L3 := hid (lex_ok (HUU.out.trans (if_pos hv)) (by simp))
      clear HUU
      go_wp2_with fail
      refine (L3.out _).mono ?_
      rintro e w6 ⟨gy, cy, rfl, hoy, hg6⟩
      have G6 := hid (GA.out.trans hg6)
      have OX6 := hid (SOwn.kept OXA.out hg6 (Classical.em _))
      have OY6 := hid hoy
      have hq : ∀ w, (binOp .neq 32 (.agg #[.int .i64 1, .int .i64 0, .string (S ++ ⟨#[46]⟩ ++ T), .int .i64 0]) (.agg #[.int .i64 1, .int .i64 0, .string (S ++ ⟨#[46]⟩ ++ T), .int .i64 0])).run Try.prog w = .ok (.bool false) w := fun w => by
        rw [neq32, decide_eq_true rfl]; rfl
      clear hg6 hoy GA OXA OX4 L3
      have G7 := hid (G6.out.trans (World.grownBy_alloc w6 (.cells #[.int .i64 1, .int .i64 60, .int .i64 3600, .int .i64 86400] 2) none))
      have OX7 := hid (SOwn.kept OX6.out (World.grownBy_alloc w6 (.cells #[.int .i64 1, .int .i64 60, .int .i64 3600, .int .i64 86400] 2) none) (Classical.em _))
      have OY7 := hid (SOwn.kept OY6.out (World.grownBy_alloc w6 (.cells #[.int .i64 1, .int .i64 60, .int .i64 3600, .int .i64 86400] 2) none) (Classical.em _))
      clear G6 OX6 OY6
      go_upto_region 7 with fail
      generalize w6.alloc (.cells #[.int .i64 1, .int .i64 60, .int .i64 3600, .int .i64 86400] 2) = W7 at G7 OX7 OY7 ⊢
      obtain ⟨x0, x1, x2, x3⟩ := tok_cells (i := 0) (SOwn.rd OX7.out) rfl
      simp only [Nat.zero_add, Nat.zero_mul] at x0 x1 x2 x3
      by_cases h5 : A.length ≤ 5
      · have q3 : decide ((S.size : Int) ≤ 5) = true := by have := HSZ.out; simp; omega
        have q3' : (S.size : Int) ≤ 5 := by have := HSZ.out; omega
        have L4 := hid (lex_ok (HLL.out.trans (if_pos h5)) (by simp))
        clear HLL h5
        go_wp2_with fail
        refine (L4.out _).mono ?_
        rintro e w8 ⟨gz, cz, rfl, hoz, hg8⟩
        have G8 := hid (G7.out.trans hg8)
        obtain ⟨y0, y1, y2, y3⟩ := tok_cells (i := 0) (SOwn.rd (SOwn.kept OY7.out hg8 (Classical.em _))) rfl
        simp only [Nat.zero_add, Nat.zero_mul] at y0 y1 y2 y3
        clear hg8 hoz G7 OX7 OY7 L4 x0 x1 x2 x3
        go_wp2_with fail
        refine (f_awake _).mono ?_
        rintro e w9 ⟨rfl, hg9⟩
        have G9 := hid (G8.out.trans hg9)
        clear hg9 G8
        go_wp2
        go_ret
        exact ⟨rfl, G9.out⟩
      · have q3 : decide ((S.size : Int) ≤ 5) = false := by have := HSZ.out; simp; omega
        have q3' : ¬ (S.size : Int) ≤ 5 := by have := HSZ.out; omega
        have L4 := hid (lex_bad (HLL.out.trans (if_neg h5)))
        clear HLL h5
        go_wp2_with fail
        refine (L4.out _).mono ?_
        rintro e w8 ⟨rfl, hg8⟩
        have G8 := hid (G7.out.trans hg8)
        obtain ⟨y0, y1, y2, y3⟩ := tok_cells (i := 0) (SOwn.rd (SOwn.kept OY7.out hg8 (Classical.em _))) rfl
        simp only [Nat.zero_add, Nat.zero_mul] at y0 y1 y2 y3
        clear hg8 G7 OX7 OY7 L4 x0 x1 x2 x3
        go_wp2_with fail
        refine (f_awake _).mono ?_
        rintro e w9 ⟨rfl, hg9⟩
        have G9 := hid (G8.out.trans hg9)
        clear hg9 G8
        go_wp2
        go_ret
        exact ⟨rfl, G9.out⟩
    · have L3 := hid (lex_bad (HUU.out.trans (if_neg hv)))
      have hq : ∀ w, (binOp .neq 32 (.agg #[.int .i64 1, .int .i64 0, .string (S ++ ⟨#[46]⟩ ++ T), .int .i64 0]) (.agg #[.int .i64 1, .int .i64 0, .string (S ++ ⟨#[46]⟩ ++ T), .int .i64 0])).run Try.prog w = .ok (.bool false) w := fun w => by
        rw [neq32, decide_eq_true rfl]; rfl
      clear HUU HLL
      go_wp2_with fail
      refine (L3.out _).mono ?_
      rintro e w6 ⟨rfl, hg6⟩
      have G6 := hid (GA.out.trans hg6)
      have OX6 := hid (SOwn.kept OXA.out hg6 (Classical.em _))
      clear hg6 GA OXA OX4 L3
      have G7 := hid (G6.out.trans (World.grownBy_alloc w6 (.cells #[.int .i64 1, .int .i64 60, .int .i64 3600, .int .i64 86400] 2) none))
      have OX7 := hid (SOwn.kept OX6.out (World.grownBy_alloc w6 (.cells #[.int .i64 1, .int .i64 60, .int .i64 3600, .int .i64 86400] 2) none) (Classical.em _))
      clear G6 OX6
      go_upto_region 7 with fail
      generalize w6.alloc (.cells #[.int .i64 1, .int .i64 60, .int .i64 3600, .int .i64 86400] 2) = W7 at G7 OX7 ⊢
      obtain ⟨x0, x1, x2, x3⟩ := tok_cells (i := 0) (SOwn.rd OX7.out) rfl
      simp only [Nat.zero_add, Nat.zero_mul] at x0 x1 x2 x3
      by_cases h1 : (m : Int) % 1000000 * 86400 < 1
      · have q1 : decide ((m : Int) % 1000000 * 86400 < 1) = true := by simp; omega
        clear hv
        go_wp2_with fail
        refine (f_awake _).mono ?_
        rintro e w9 ⟨rfl, hg9⟩
        have G9 := hid (G7.out.trans hg9)
        clear hg9 G7 OX7
        go_wp2
        go_ret
        exact ⟨rfl, G9.out⟩
      · have q1 : decide ((m : Int) % 1000000 * 86400 < 1) = false := by simp; omega
        have q2 : decide (2147483647 < (m : Int) % 1000000 * 86400) = true := by simp; omega
        clear hv
        go_wp2_with fail
        refine (f_awake _).mono ?_
        rintro e w9 ⟨rfl, hg9⟩
        have G9 := hid (G7.out.trans hg9)
        clear hg9 G7 OX7
        go_wp2
        go_ret
        exact ⟨rfl, G9.out⟩
end Go.Proofs.Ytkocdmkojoefoaa
