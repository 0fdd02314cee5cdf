/- Several texts in one: Lmath, Rsome, Cmath, Cref, Cumath, Cuint. -/
import Derived.Test.YtpabbmiibehfjaaGreatDoorGa
import Derived.Laws.BitsAllLaws
import Derived.Laws.Bits64
/- The order of texts and of lists of labels. -/
namespace Go.Proofs.YtpabbmiibehfjaaGreatDoor
set_option maxRecDepth 20000
open Go.RowKit
set_option linter.unusedVariables false

theorem bl_cons (a b : UInt8) (x y : List UInt8) : Op.bytesLess (a :: x) (b :: y) = true ↔ a.toNat < b.toNat ∨ a.toNat = b.toNat ∧ Op.bytesLess x y = true := by
  simp only [Op.bytesLess, Bool.or_eq_true, Bool.and_eq_true, decide_eq_true_eq, beq_iff_eq, UInt8.lt_iff_toNat_lt, ← UInt8.toNat_inj]
theorem bl_nil (x : List UInt8) : Op.bytesLess x [] = false := by cases x <;> rfl
theorem bl_nil_cons (b : UInt8) (y : List UInt8) : Op.bytesLess [] (b :: y) = true := rfl
theorem bl_irrefl (x : List UInt8) : ¬ Op.bytesLess x x = true := by
  induction x with
  | nil => simp [Op.bytesLess]
  | cons a x ih =>
    rw [bl_cons]
    intro h
    rcases h with h | ⟨_, h⟩
    · omega
    · exact ih h
theorem bl_asym : ∀ (x y : List UInt8), Op.bytesLess x y = true → ¬ Op.bytesLess y x = true := by
  intro x
  induction x with
  | nil => intro y _; rw [bl_nil]; simp
  | cons a x ih =>
    intro y h
    cases y with
    | nil => rw [bl_nil] at h; simp at h
    | cons b y =>
      rw [bl_cons] at h ⊢
      have := ih y
      rcases h with h | ⟨h1, h2⟩
      · omega
      · intro h'
        rcases h' with h' | ⟨_, h'⟩
        · omega
        · exact this h2 h'
theorem bl_total : ∀ (x y : List UInt8), Op.bytesLess x y = true ∨ x = y ∨ Op.bytesLess y x = true := by
  intro x
  induction x with
  | nil => intro y; cases y with
    | nil => exact .inr (.inl rfl)
    | cons b y => exact .inl rfl
  | cons a x ih =>
    intro y
    cases y with
    | nil => exact .inr (.inr rfl)
    | cons b y =>
      rw [bl_cons, bl_cons]
      by_cases h1 : a.toNat < b.toNat
      · exact .inl (.inl h1)
      · by_cases h2 : b.toNat < a.toNat
        · exact .inr (.inr (.inl h2))
        · have e : a.toNat = b.toNat := by omega
          rcases ih y with h | h | h
          · exact .inl (.inr ⟨e, h⟩)
          · exact .inr (.inl (by rw [h, UInt8.toNat_inj.1 e]))
          · exact .inr (.inr (.inr ⟨e.symm, h⟩))
theorem bl_trans : ∀ (x y z : List UInt8), Op.bytesLess x y = true → Op.bytesLess y z = true → Op.bytesLess x z = true := by
  intro x
  induction x with
  | nil =>
    intro y z h1 h2
    cases z with
    | nil => rw [bl_nil] at h2; simp at h2
    | cons c z => rfl
  | cons a x ih =>
    intro y z h1 h2
    cases y with
    | nil => rw [bl_nil] at h1; simp at h1
    | cons b y =>
      cases z with
      | nil => rw [bl_nil] at h2; simp at h2
      | cons c z =>
        rw [bl_cons] at h1 h2 ⊢
        rcases h1 with h1 | ⟨e1, h1⟩
        · rcases h2 with h2 | ⟨e2, _⟩ <;> (left; omega)
        · rcases h2 with h2 | ⟨e2, h2⟩
          · left; omega
          · exact .inr ⟨by omega, ih y z h1 h2⟩

/-- A comparing function that is an order. -/
structure Ord3 {α : Type} (f : α → α → Int) : Prop where
  anti : ∀ x y, f x y = - f y x
  zero : ∀ x y, f x y = 0 ↔ x = y
  trans : ∀ x y z, f x y ≤ 0 → f y z ≤ 0 → f x z ≤ 0
theorem Ord3.all {α : Type} {f : α → α → Int} (h : Ord3 f) (x y z : α) : (f x y ≤ 0 → f y z ≤ 0 → f x z ≤ 0) ∧ (f x y < 0 → f y z ≤ 0 → f x z < 0) ∧ (f x y ≤ 0 → f y z < 0 → f x z < 0) ∧ (f x y = 0 → f y z = 0 → f x z = 0) := by
  have t := h.trans x y z
  refine ⟨t, fun h1 h2 => ?_, fun h1 h2 => ?_, fun h1 h2 => ?_⟩
  · have := t (by omega) h2
    by_cases e : f x z = 0
    · have := (h.zero x z).1 e
      subst this
      have := h.anti y x
      omega
    · omega
  · have := t h1 (by omega)
    by_cases e : f x z = 0
    · have := (h.zero x z).1 e
      subst this
      have := h.anti y x
      omega
    · omega
  · rw [(h.zero x y).1 h1]; exact h2
theorem toList_inj {a b : ByteArray} (h : a.toList = b.toList) : a = b := by
  have := str_eq a b
  rw [beq_iff_eq.2 h] at this
  exact of_decide_eq_true this.symm
theorem ord_ordR : Ord3 ordR := by
  refine ⟨fun x y => ?_, fun x y => ?_, fun x y z => ?_⟩
  · unfold ordR bless
    rcases bl_total x.toList y.toList with h | h | h
    · have h' := bl_asym _ _ h
      have hne : ¬ y = x := fun e => by rw [e] at h; exact bl_irrefl _ h
      rw [if_pos h, if_neg h', if_neg hne]
    · have e := toList_inj h
      subst e
      rw [if_neg (bl_irrefl _), if_pos rfl]; rfl
    · have h' := bl_asym _ _ h
      have hne : ¬ x = y := fun e => by rw [e] at h; exact bl_irrefl _ h
      rw [if_neg h', if_neg hne, if_pos h]; rfl
  · unfold ordR bless
    constructor
    · intro h
      split at h
      · simp at h
      · split at h
        · assumption
        · simp at h
    · intro h
      subst h
      rw [if_neg (bl_irrefl _), if_pos rfl]
  · unfold ordR bless
    intro h1 h2
    have a1 : Op.bytesLess x.toList y.toList = true ∨ x = y := by
      split at h1
      · left; assumption
      · split at h1
        · right; assumption
        · omega
    have a2 : Op.bytesLess y.toList z.toList = true ∨ y = z := by
      split at h2
      · left; assumption
      · split at h2
        · right; assumption
        · omega
    rcases a1 with a1 | rfl
    · rcases a2 with a2 | rfl
      · rw [if_pos (bl_trans _ _ _ a1 a2)]; omega
      · rw [if_pos a1]; omega
    · rcases a2 with a2 | rfl
      · rw [if_pos a2]; omega
      · rw [if_neg (bl_irrefl _), if_pos rfl]; omega

theorem cmp_anti : ∀ (xs ys : List Lab), cmpR xs ys = - cmpR ys xs := by
  intro xs
  induction xs with
  | nil => intro ys; cases ys <;> rfl
  | cons x xs ih =>
    intro ys
    cases ys with
    | nil => rfl
    | cons y ys =>
      rw [cmpR, cmpR, ih ys]
      have h1 := ord_ordR.anti x.1 y.1
      have h2 := ord_ordR.anti x.2 y.2
      split <;> split <;> (try split) <;> (try split) <;> omega
theorem cmp_zero : ∀ (xs ys : List Lab), cmpR xs ys = 0 ↔ xs = ys := by
  intro xs
  induction xs with
  | nil => intro ys; cases ys <;> simp [cmpR]
  | cons x xs ih =>
    intro ys
    cases ys with
    | nil => simp [cmpR]
    | cons y ys =>
      have h1 := ord_ordR.zero x.1 y.1
      have h2 := ord_ordR.zero x.2 y.2
      have h3 := ih ys
      rw [cmpR]
      constructor
      · intro h
        split at h
        · contradiction
        · split at h
          · contradiction
          · rename_i q1 q2
            have e1 := h1.1 (by omega)
            have e2 := h2.1 (by omega)
            rw [h3.1 h, Prod.ext e1 e2]
      · intro h
        simp only [List.cons.injEq] at h
        obtain ⟨rfl, rfl⟩ := h
        rw [if_neg (by simp [h1]), if_neg (by simp [h2])]
        exact h3.2 rfl
theorem cmp_trans : ∀ (xs ys zs : List Lab), cmpR xs ys ≤ 0 → cmpR ys zs ≤ 0 → cmpR xs zs ≤ 0 := by
  intro xs
  induction xs with
  | nil => intro ys zs _ _; cases zs <;> simp [cmpR]
  | cons x xs ih =>
    intro ys zs h1 h2
    cases ys with
    | nil => simp [cmpR] at h1
    | cons y ys =>
      cases zs with
      | nil => simp [cmpR] at h2
      | cons z zs =>
        have a := ord_ordR.all x.1 y.1 z.1
        have b := ord_ordR.all x.2 y.2 z.2
        have c := ih ys zs
        rw [cmpR] at h1 h2 ⊢
        generalize ordR x.1 y.1 = p1 at *
        generalize ordR y.1 z.1 = p2 at *
        generalize ordR x.1 z.1 = p3 at *
        generalize ordR x.2 y.2 = q1 at *
        generalize ordR y.2 z.2 = q2 at *
        generalize ordR x.2 z.2 = q3 at *
        generalize cmpR xs ys = r1 at *
        generalize cmpR ys zs = r2 at *
        generalize cmpR xs zs = r3 at *
        obtain ⟨a1, a2, a3, a4⟩ := a
        obtain ⟨b1, b2, b3, b4⟩ := b
        by_cases e1 : p1 = 0
        · by_cases e2 : p2 = 0
          · have e3 := a4 e1 e2
            rw [if_neg (by simpa using e1)] at h1
            rw [if_neg (by simpa using e2)] at h2
            rw [if_neg (by simpa using e3)]
            by_cases f1 : q1 = 0
            · by_cases f2 : q2 = 0
              · have f3 := b4 f1 f2
                rw [if_neg (by simpa using f1)] at h1
                rw [if_neg (by simpa using f2)] at h2
                rw [if_neg (by simpa using f3)]
                exact c h1 h2
              · rw [if_pos (by simpa using f2)] at h2
                have := b3 (by omega) (by omega)
                rw [if_pos (by omega)]; omega
            · rw [if_pos (by simpa using f1)] at h1
              have q2n : q2 ≤ 0 := by split at h2 <;> omega
              have := b2 (by omega) q2n
              rw [if_pos (by omega)]; omega
          · rw [if_pos (by simpa using e2)] at h2
            have := a3 (by omega) (by omega)
            rw [if_pos (by omega)]; omega
        · rw [if_pos (by simpa using e1)] at h1
          have p2n : p2 ≤ 0 := by split at h2 <;> omega
          have := a2 (by omega) p2n
          rw [if_pos (by omega)]; omega
theorem ord_cmpR : Ord3 cmpR := ⟨cmp_anti, cmp_zero, cmp_trans⟩
theorem cmp_bd : ∀ (xs ys : List Lab), -1 ≤ cmpR xs ys ∧ cmpR xs ys ≤ 1 := by
  intro xs
  induction xs with
  | nil => intro ys; cases ys <;> simp [cmpR]
  | cons x xs ih =>
    intro ys
    cases ys with
    | nil => simp [cmpR]
    | cons y ys =>
      rw [cmpR]
      have h1 := ordR_bd x.1 y.1
      have h2 := ordR_bd x.2 y.2
      have h3 := ih ys
      split
      · exact h1
      · split
        · exact h2
        · exact h3
end Go.Proofs.YtpabbmiibehfjaaGreatDoor

/- The document's own calls of layer 3: Get, in, Some, With. -/
namespace Go.Proofs.YtpabbmiibehfjaaGreatDoor
set_option maxRecDepth 20000
open Go.RowKit
set_option linter.unusedVariables false

theorem ret_str {a b : ByteArray} (h : a = b) : Ending.returned (.string a) = .returned (.string b) := by rw [h]
def getR : List Lab → ByteArray → ByteArray
  | [], _ => ⟨#[]⟩
  | p :: r, n => if p.1 = n then p.2 else getR r n
def GetAt (ls : List Lab) (n : ByteArray) (k : Nat) (R : ByteArray) : Prop := getR (ls.drop k) n = R
theorem GetAt.next {ls : List Lab} {n R : ByteArray} {k : Nat} {p : Lab} (h : GetAt ls n k R) (hp : ls[k]? = some p) : (if p.1 = n then p.2 else getR (ls.drop (k + 1)) n) = R := by
  unfold GetAt at h
  obtain ⟨h1, h2⟩ := List.getElem?_eq_some_iff.1 hp
  rw [List.drop_eq_getElem_cons h1, h2, getR] at h
  exact h

theorem r_get (a : Option Addr) (ls : List Lab) (L c : Nat) (n R : ByteArray) (w : World) (hx : SRd labE w a ls) (hL : ls.length = L) (hz : L ≤ 4398046511104) (hR : getR ls n = R) :
    Calls Tryz.prog 82 #[.slice a L c, .string n] w fun e w' => e = .returned (.string R) ∧ w = w' := by
  have HX : Hid (SRd labE w a ls) := hx
  have HL : Hid (ls.length = L) := hL
  have H0 : Hid (GetAt ls n 0 R) := hR
  clear hx hL hR
  go_enter Tryz.func82, Tryz.ntmps82
  go_wp2
  go_loop [5] (fun i => ∃ k : Nat, k ≤ L ∧ i = .int .i64 k ∧ GetAt ls n k R) (fun i => L - (intOf i).toNat)
  case atStart => exact ⟨0, Nat.zero_le _, rfl, H0.out⟩
  case round =>
    obtain ⟨k, hk, rfl, hg⟩ := hrel
    have HG : Hid (GetAt ls n k R) := hg
    clear hg H0
    by_cases hlt : k < L
    · have hl := HL.out
      obtain ⟨b, off, rfl, hc⟩ := HX.out.at (by omega)
      obtain ⟨⟨s1, s2⟩, ex⟩ : ∃ x, ls[k]? = some x := ⟨_, List.getElem?_eq_getElem (by omega)⟩
      have a0 : w.cell? ⟨b, off + k * 2, none⟩ = some (.string s1) := hc k _ 0 _ ex rfl
      have a1 : w.cell? ⟨b, off + k * 2 + 1, none⟩ = some (.string s2) := by rw [Nat.add_assoc]; exact hc k _ 1 _ ex rfl
      have HN : Hid (_ = R) := HG.out.next ex
      clear hc ex hl
      by_cases h1 : s1 = n
      · have q : (s1.toList == n.toList) = true := by rw [str_eq]; simpa using h1
        have HS : Hid (s2 = R) := by have h := HN.out; rw [if_pos h1] at h; exact h
        clear h1 HN
        go_wp2
        go_ret
        exact ⟨ret_str HS.out, rfl⟩
      · have q : (s1.toList == n.toList) = false := by rw [str_eq]; simpa using h1
        have HS : Hid (GetAt ls n (k + 1) R) := by have h := HN.out; rw [if_neg h1] at h; exact h
        clear h1 HN
        go_wp2
        go_round
        case rel => exact ⟨k + 1, by omega, by go_num, HS.out⟩
        case measure => simp [intOf]; omega
    · have HS : Hid ((⟨#[]⟩ : ByteArray) = R) := by
        have h := HG.out
        unfold GetAt at h
        rw [List.drop_eq_nil_of_le (by have := HL.out; omega), getR] at h
        exact h
      go_wp2
      go_ret
      exact ⟨ret_str HS.out, rfl⟩

def inB (ss : List ByteArray) (s : ByteArray) : Bool := ss.any (fun t => decide (t = s))
def InAt (ss : List ByteArray) (s : ByteArray) (k : Nat) (R : Bool) : Prop := inB (ss.drop k) s = R
def someR (ls : List Lab) (ss : List ByteArray) (keep : Bool) : List Lab := ls.filter (fun p => inB ss p.1 == keep)
theorem someR_next {ls : List Lab} {ss : List ByteArray} {keep : Bool} {k : Nat} {p : Lab} (hp : ls[k]? = some p) : someR (ls.take (k + 1)) ss keep = someR (ls.take k) ss keep ++ (if inB ss p.1 == keep then [p] else []) := by
  unfold someR
  rw [List.take_add_one, hp, List.filter_append]
  simp only [Option.toList_some, List.filter_cons, List.filter_nil]
theorem someR_len (ls : List Lab) (ss : List ByteArray) (keep : Bool) : (someR ls ss keep).length ≤ ls.length := List.length_filter_le _ _

end Go.Proofs.YtpabbmiibehfjaaGreatDoor

/- Plain facts on numbers' bytes and on sums. -/
namespace Go.Proofs.YtpabbmiibehfjaaGreatDoor
set_option maxRecDepth 20000

/-- A number's bytes: seven bits a byte, the lowest first. -/
def enc (v : Nat) : List Int := if h : v < 128 then [(v : Int)] else ((v % 128 + 128 : Nat) : Int) :: enc (v / 128)
termination_by v
decreasing_by omega
theorem enc_small {v : Nat} (h : v < 128) : enc v = [(v : Int)] := by rw [enc, dif_pos h]
theorem enc_big {v : Nat} (h : ¬ v < 128) : enc v = ((v % 128 + 128 : Nat) : Int) :: enc (v / 128) := by rw [enc, dif_neg h]
theorem enc_byte (v : Nat) : ∀ z ∈ enc v, 0 ≤ z ∧ z ≤ 255 := by
  induction v using Nat.strongRecOn with
  | _ v ih =>
    by_cases h : v < 128
    · rw [enc_small h]; intro z hz; simp at hz; omega
    · rw [enc_big h]; intro z hz
      rcases List.mem_cons.1 hz with h1 | h1
      · omega
      · exact ih (v / 128) (by omega) z h1
theorem enc_len_pos (v : Nat) : 1 ≤ (enc v).length := by
  by_cases h : v < 128
  · rw [enc_small h]; simp
  · rw [enc_big h]; simp
theorem enc_len_le (f : Nat) : ∀ v, v < 128 ^ (f + 1) → (enc v).length ≤ f + 1 := by
  induction f with
  | zero => intro v hv; rw [enc_small (by omega)]; simp
  | succ f ih =>
    intro v hv
    by_cases h : v < 128
    · rw [enc_small h]; simp
    · rw [enc_big h]
      have := ih (v / 128) (by rw [Nat.pow_succ] at hv; omega)
      simp; omega
theorem enc_len (v : Nat) (hv : v < 18446744073709551616) : (enc v).length ≤ 10 := enc_len_le 9 v (by omega)

theorem or_128 (v : Int) (h0 : 0 ≤ v) (h1 : v ≤ 18446744073709551615) : bits .or .u64 (bits .and .u64 v 127) 128 = v % 128 + 128 := by
  obtain ⟨V, rfl⟩ := Int.eq_ofNat_of_zero_le h0
  have e1 : bits .and .u64 (V : Int) 127 = ((V % 128 : Nat) : Int) := by
    rw [show (127 : Int) = ((127 : Nat) : Int) from rfl, u64_and_nat V 127 (by omega) (by omega), nat_mask7]
  rw [e1, show (128 : Int) = ((128 : Nat) : Int) from rfl, u64_or_nat _ 128 (by omega) (by omega), Nat.or_comm, nat_join 7 128 (V % 128) (by omega) (by omega)]
  omega

/-- What is read from place p on: the number, the place behind it, the error. -/
def ud (zs : List Int) (p : Nat) : Nat → Nat → Int → Int × Int × Int
  | 0, _, _ => (0, 0, 0)
  | f + 1, i, v =>
    if zs.length ≤ p + i then (0, 0, 20)
    else if i = 9 ∧ 1 < zs.getD (p + i) 0 ∨ 0 < i ∧ zs.getD (p + i) 0 = 0 then (0, 0, 21)
    else if zs.getD (p + i) 0 < 128 then (v + zs.getD (p + i) 0 % 128 * 2 ^ (7 * i), (p + i + 1 : Nat), 0)
    else ud zs p f (i + 1) (v + zs.getD (p + i) 0 % 128 * 2 ^ (7 * i))
def uintR (zs : List Int) (p : Int) : Int × Int × Int := if p < 0 ∨ (zs.length : Int) < p then (0, 0, 20) else ud zs p.toNat 10 0 0

/-- One step of the sum, on 32 bits. -/
def crc1 (c : Int) : Int := if c % 2 = 1 then bits .xor .u32 (c / 2) 3988292384 else c / 2
def crcN : Nat → Int → Int
  | 0, c => c
  | k + 1, c => crcN k (crc1 c)
theorem crcN_succ (k : Nat) (c : Int) : crcN (k + 1) c = crc1 (crcN k c) := by
  induction k generalizing c with
  | zero => rfl
  | succ k ih => rw [crcN, ih, crcN]
def crcB (c z : Int) : Int := crcN 8 (bits .xor .u32 c z)
def crcL (c : Int) (l : List Int) : Int := l.foldl crcB c
def sumR (zs : List Int) : Int := bits .xor .u32 (crcL 4294967295 zs) 4294967295

theorem xor32_bd (a b : Int) (ha : 0 ≤ a ∧ a ≤ 4294967295) (hb : 0 ≤ b ∧ b ≤ 4294967295) : 0 ≤ bits .xor .u32 a b ∧ bits .xor .u32 a b ≤ 4294967295 := by
  rw [u32_xor a b ha.1 (by omega) hb.1 (by omega)]
  have : a.toNat ^^^ b.toNat < 2 ^ 32 := Nat.xor_lt_two_pow (by omega) (by omega)
  omega
theorem crc1_bd (c : Int) (h : 0 ≤ c ∧ c ≤ 4294967295) : 0 ≤ crc1 c ∧ crc1 c ≤ 4294967295 := by
  unfold crc1
  split
  · exact xor32_bd _ _ (by omega) (by omega)
  · omega
theorem crcN_bd (k : Nat) (c : Int) (h : 0 ≤ c ∧ c ≤ 4294967295) : 0 ≤ crcN k c ∧ crcN k c ≤ 4294967295 := by
  induction k with
  | zero => exact h
  | succ k ih => rw [crcN_succ]; exact crc1_bd _ ih
theorem crcB_bd (c z : Int) (h : 0 ≤ c ∧ c ≤ 4294967295) (hz : 0 ≤ z ∧ z ≤ 255) : 0 ≤ crcB c z ∧ crcB c z ≤ 4294967295 := crcN_bd 8 _ (xor32_bd _ _ h (by omega))
theorem crcL_snoc (c : Int) (l : List Int) (z : Int) : crcL c (l ++ [z]) = crcB (crcL c l) z := by
  unfold crcL
  rw [List.foldl_append, List.foldl_cons, List.foldl_nil]
theorem crcL_cons (c : Int) (z : Int) (l : List Int) : crcL c (z :: l) = crcL (crcB c z) l := by
  unfold crcL
  rw [List.foldl_cons]
theorem crcL_bd (l : List Int) : ∀ (c : Int), (0 ≤ c ∧ c ≤ 4294967295) → (∀ z ∈ l, 0 ≤ z ∧ z ≤ 255) → 0 ≤ crcL c l ∧ crcL c l ≤ 4294967295 := by
  induction l with
  | nil => intro c h _; exact h
  | cons a l ih =>
    intro c h hz
    have h1 := crcB_bd c a h (hz a (by simp))
    have h2 := ih (crcB c a) h1 (fun z hm => hz z (by simp [hm]))
    rw [crcL_cons]
    exact h2
theorem sumR_bd (l : List Int) (hz : ∀ z ∈ l, 0 ≤ z ∧ z ≤ 255) : 0 ≤ sumR l ∧ sumR l ≤ 4294967295 := xor32_bd _ _ (crcL_bd l _ (by omega) hz) (by omega)
theorem and_one32 (c : Int) (h : 0 ≤ c ∧ c ≤ 4294967295) : bits .and .u32 c 1 = c % 2 := by
  rw [u32_and c 1 h.1 (by omega) (by decide) (by decide)]
  have : (1 : Int).toNat = 1 := rfl
  rw [this, nat_mask1]
  omega
end Go.Proofs.YtpabbmiibehfjaaGreatDoor

/- The document's own calls of layer 2: numbers. -/
namespace Go.Proofs.YtpabbmiibehfjaaGreatDoor
set_option maxRecDepth 20000
open Go.RowKit

theorem rd_one (w : World) (z : Int) (hz : 0 ≤ z ∧ z ≤ 255) : Rd (w.alloc (.cells #[.int .u8 z] 5)) (some ⟨w.heap.size, 0, none⟩) [z] := rd_lit w [z] (by simpa using hz)

def EncRel (Y zk : List Int) (u : Int) : Prop := zk ++ enc u.toNat = Y
theorem EncRel.small {Y zk : List Int} {u : Int} (h : EncRel Y zk u) (h0 : 0 ≤ u) (h1 : u < 128) : zk ++ [u] = Y := by
  have e := enc_small (v := u.toNat) (by omega)
  unfold EncRel at h
  rw [e] at h
  have : ((u.toNat : Nat) : Int) = u := by omega
  rwa [this] at h
theorem EncRel.big {Y zk : List Int} {u : Int} (h : EncRel Y zk u) (h1 : 128 ≤ u) : EncRel Y (zk ++ [u % 128 + 128]) (u / 128) := by
  have e := enc_big (v := u.toNat) (by omega)
  unfold EncRel at h ⊢
  rw [e] at h
  have e1 : ((u.toNat % 128 + 128 : Nat) : Int) = u % 128 + 128 := by omega
  have e2 : u.toNat / 128 = (u / 128).toNat := by omega
  rw [e1, e2] at h
  rw [← h]; simp
theorem EncRel.len {Y zk : List Int} {u : Int} (h : EncRel Y zk u) : zk.length + 1 ≤ Y.length := by
  have h1 := enc_len_pos u.toNat
  unfold EncRel at h
  rw [← h]; simp; omega

/-- A signed number stands as this number. -/
def zz (x : Int) : Int := if 0 ≤ x then x * 2 else -(x + 1) * 2 + 1
theorem zz_bd (x : Int) (h : -9223372036854775808 ≤ x ∧ x ≤ 9223372036854775807) : 0 ≤ zz x ∧ zz x ≤ 18446744073709551615 := by
  unfold zz; split <;> omega

end Go.Proofs.YtpabbmiibehfjaaGreatDoor

/- Plain facts on reading numbers. -/
namespace Go.Proofs.YtpabbmiibehfjaaGreatDoor
set_option maxRecDepth 20000

theorem or7 (v c : Int) (i : Nat) (hv0 : 0 ≤ v) (hv : v < 2 ^ (7 * i)) (hi : i ≤ 9) (hc : 0 ≤ c ∧ c ≤ 255) (h9 : i = 9 → c ≤ 1) :
    bits .or .u64 v (IntKind.u64.wrap (IntKind.u64.wrap (bits .and .u8 c 127) * 2 ^ (7 * i))) = v + c % 128 * 2 ^ (7 * i) ∧ v + c % 128 * 2 ^ (7 * i) ≤ 18446744073709551615 ∧ (i < 9 → v + c % 128 * 2 ^ (7 * i) < 2 ^ (7 * (i + 1))) := by
  have e1 : bits .and .u8 c 127 = c % 128 := by
    rw [u8_and c 127 hc.1 (by omega) (by decide) (by decide)]
    have : (127 : Int).toNat = 127 := rfl
    rw [this, nat_mask7]
    omega
  rw [e1, IntKind.wrap_u64, IntKind.wrap_u64, show c % 128 % 18446744073709551616 = c % 128 by omega]
  have hp : (0 : Int) < 2 ^ (7 * i) := Int.pow_pos (by decide)
  have hs : (2 : Int) ^ (7 * (i + 1)) = 2 ^ (7 * i) * 128 := by
    rw [show 7 * (i + 1) = 7 * i + 7 by omega, Int.pow_add]; rfl
  have hle : c % 128 * 2 ^ (7 * i) + 2 ^ (7 * i) ≤ 18446744073709551616 := by
    by_cases h : i = 9
    · have := h9 h
      subst h
      have : c % 128 ≤ 1 := by omega
      have e : (2 : Int) ^ (7 * 9) = 9223372036854775808 := by simp
      rw [e]; omega
    · have h1 : (2 : Int) ^ (7 * i) ≤ 2 ^ 56 := by exact_mod_cast Nat.pow_le_pow_right (by decide) (by omega : 7 * i ≤ 56)
      have h2 : c % 128 * 2 ^ (7 * i) ≤ 127 * 2 ^ (7 * i) := Int.mul_le_mul_of_nonneg_right (by omega) (Int.le_of_lt hp)
      have e : (2 : Int) ^ 56 = 72057594037927936 := by simp
      omega
  have hm0 : 0 ≤ c % 128 * 2 ^ (7 * i) := Int.mul_nonneg (by omega) (Int.le_of_lt hp)
  refine ⟨?_, by omega, fun h => ?_⟩
  · rw [Int.emod_eq_of_lt hm0 (by omega), u64_or v _ hv0 (by omega) hm0 (by omega), Nat.or_comm]
    obtain ⟨V, rfl⟩ := Int.eq_ofNat_of_zero_le hv0
    obtain ⟨C, hC⟩ := Int.eq_ofNat_of_zero_le (show 0 ≤ c % 128 by omega)
    rw [hC]
    have eP : (C : Int) * 2 ^ (7 * i) = ((C * 2 ^ (7 * i) : Nat) : Int) := by rw [Int.natCast_mul, Int.natCast_pow]; rfl
    have hV : V < 2 ^ (7 * i) := by
      have : ((2 ^ (7 * i) : Nat) : Int) = (2 : Int) ^ (7 * i) := by rw [Int.natCast_pow]; rfl
      rw [← this] at hv
      exact_mod_cast hv
    rw [eP, Int.toNat_natCast, Int.toNat_natCast, nat_join (7 * i) _ _ (Nat.mul_mod_left _ _) hV]
    omega
  · rw [hs]
    have h2 : c % 128 * 2 ^ (7 * i) ≤ 127 * 2 ^ (7 * i) := Int.mul_le_mul_of_nonneg_right (by omega) (Int.le_of_lt hp)
    omega

def URel (zs : List Int) (p i : Nat) (v r1 r2 r3 : Int) : Prop := ud zs p (10 - i) i v = (r1, r2, r3)
section
variable {zs : List Int} {p i : Nat} {v r1 r2 r3 : Int}
theorem URel.over (h : URel zs p i v r1 r2 r3) (hi : i ≤ 9) (hl : zs.length ≤ p + i) : r1 = 0 ∧ r2 = 0 ∧ r3 = 20 := by
  unfold URel at h
  rw [show 10 - i = (9 - i) + 1 by omega, ud, if_pos hl] at h
  simp only [Prod.mk.injEq] at h
  omega
theorem URel.form (h : URel zs p i v r1 r2 r3) (hi : i ≤ 9) (hl : p + i < zs.length) (hf : i = 9 ∧ 1 < zs.getD (p + i) 0 ∨ 0 < i ∧ zs.getD (p + i) 0 = 0) : r1 = 0 ∧ r2 = 0 ∧ r3 = 21 := by
  unfold URel at h
  rw [show 10 - i = (9 - i) + 1 by omega, ud, if_neg (by omega), if_pos hf] at h
  simp only [Prod.mk.injEq] at h
  omega
theorem URel.done (h : URel zs p i v r1 r2 r3) (hi : i ≤ 9) (hl : p + i < zs.length) (hf : ¬ (i = 9 ∧ 1 < zs.getD (p + i) 0 ∨ 0 < i ∧ zs.getD (p + i) 0 = 0)) (hc : zs.getD (p + i) 0 < 128) :
    v + zs.getD (p + i) 0 % 128 * 2 ^ (7 * i) = r1 ∧ (p : Int) + i + 1 = r2 ∧ 0 = r3 := by
  unfold URel at h
  rw [show 10 - i = (9 - i) + 1 by omega, ud, if_neg (by omega), if_neg hf, if_pos hc] at h
  simp only [Prod.mk.injEq] at h
  refine ⟨h.1, ?_, h.2.2⟩
  have := h.2.1
  omega
theorem URel.step (h : URel zs p i v r1 r2 r3) (hi : i ≤ 9) (hl : p + i < zs.length) (hf : ¬ (i = 9 ∧ 1 < zs.getD (p + i) 0 ∨ 0 < i ∧ zs.getD (p + i) 0 = 0)) (hc : ¬ zs.getD (p + i) 0 < 128) :
    URel zs p (i + 1) (v + zs.getD (p + i) 0 % 128 * 2 ^ (7 * i)) r1 r2 r3 := by
  unfold URel at h ⊢
  rw [show 10 - i = (9 - i) + 1 by omega, ud, if_neg (by omega), if_neg hf, if_neg hc] at h
  rw [show 10 - (i + 1) = 9 - i by omega]
  exact h
end
end Go.Proofs.YtpabbmiibehfjaaGreatDoor

/- The document's own Uint. -/
namespace Go.Proofs.YtpabbmiibehfjaaGreatDoor
set_option maxRecDepth 20000
open Go.RowKit

theorem ret3 {a a' b b' c c' : Int} {ka kb kc : IntKind} (h : a = a') (h1 : b = b') (h2 : c = c') : Ending.returned (.tuple #[.int ka a, .int kb b, .int kc c]) = .returned (.tuple #[.int ka a', .int kb b', .int kc c']) := by rw [h, h1, h2]

end Go.Proofs.YtpabbmiibehfjaaGreatDoor

