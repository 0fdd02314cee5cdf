/- Several texts in one: Cmath, Cref, Cumath, Dnum, Cuint. -/
import Derived.Laws.BitsAllLaws
import Derived.Laws.Bits64
import Derived.Test.YtboamjhlaehoaaaGreatMa
/- Plain facts on numbers' bytes and on sums. -/
namespace Go.Proofs.YtboamjhlaehoaaaGreat

/-- A number's bytes: seven bits a byte, the lowest first. -/
def enc (v : Nat) : List Int := if h : v < 128 then [(v : Int)] else ((v % 128 + 128 : Nat) : Int) :: enc (v / 128)
termination_by v
decreasing_by omega
theorem enc_small {v : Nat} (h : v < 128) : enc v = [(v : Int)] := by rw [enc, dif_pos h]
theorem enc_big {v : Nat} (h : ¬ v < 128) : enc v = ((v % 128 + 128 : Nat) : Int) :: enc (v / 128) := by rw [enc, dif_neg h]
theorem enc_byte (v : Nat) : ∀ z ∈ enc v, 0 ≤ z ∧ z ≤ 255 := by
  induction v using Nat.strongRecOn with
  | _ v ih =>
    by_cases h : v < 128
    · rw [enc_small h]; intro z hz; simp at hz; omega
    · rw [enc_big h]; intro z hz
      rcases List.mem_cons.1 hz with h1 | h1
      · omega
      · exact ih (v / 128) (by omega) z h1
theorem enc_len_pos (v : Nat) : 1 ≤ (enc v).length := by
  by_cases h : v < 128
  · rw [enc_small h]; simp
  · rw [enc_big h]; simp
theorem enc_len_le (f : Nat) : ∀ v, v < 128 ^ (f + 1) → (enc v).length ≤ f + 1 := by
  induction f with
  | zero => intro v hv; rw [enc_small (by omega)]; simp
  | succ f ih =>
    intro v hv
    by_cases h : v < 128
    · rw [enc_small h]; simp
    · rw [enc_big h]
      have := ih (v / 128) (by rw [Nat.pow_succ] at hv; omega)
      simp; omega
theorem enc_len (v : Nat) (hv : v < 18446744073709551616) : (enc v).length ≤ 10 := enc_len_le 9 v (by omega)

theorem or_128 (v : Int) (h0 : 0 ≤ v) (h1 : v ≤ 18446744073709551615) : bits .or .u64 (bits .and .u64 v 127) 128 = v % 128 + 128 := by
  obtain ⟨V, rfl⟩ := Int.eq_ofNat_of_zero_le h0
  have e1 : bits .and .u64 (V : Int) 127 = ((V % 128 : Nat) : Int) := by
    rw [show (127 : Int) = ((127 : Nat) : Int) from rfl, u64_and_nat V 127 (by omega) (by omega), nat_mask7]
  rw [e1, show (128 : Int) = ((128 : Nat) : Int) from rfl, u64_or_nat _ 128 (by omega) (by omega), Nat.or_comm, nat_join 7 128 (V % 128) (by omega) (by omega)]
  omega

/-- What is read from place p on: the number, the place behind it, the error. -/
def ud (zs : List Int) (p : Nat) : Nat → Nat → Int → Int × Int × Int
  | 0, _, _ => (0, 0, 0)
  | f + 1, i, v =>
    if zs.length ≤ p + i then (0, 0, 20)
    else if i = 9 ∧ 1 < zs.getD (p + i) 0 ∨ 0 < i ∧ zs.getD (p + i) 0 = 0 then (0, 0, 21)
    else if zs.getD (p + i) 0 < 128 then (v + zs.getD (p + i) 0 % 128 * 2 ^ (7 * i), (p + i + 1 : Nat), 0)
    else ud zs p f (i + 1) (v + zs.getD (p + i) 0 % 128 * 2 ^ (7 * i))
def uintR (zs : List Int) (p : Int) : Int × Int × Int := if p < 0 ∨ (zs.length : Int) < p then (0, 0, 20) else ud zs p.toNat 10 0 0

/-- One step of the sum, on 32 bits. -/
def crc1 (c : Int) : Int := if c % 2 = 1 then bits .xor .u32 (c / 2) 3988292384 else c / 2
def crcN : Nat → Int → Int
  | 0, c => c
  | k + 1, c => crcN k (crc1 c)
theorem crcN_succ (k : Nat) (c : Int) : crcN (k + 1) c = crc1 (crcN k c) := by
  induction k generalizing c with
  | zero => rfl
  | succ k ih => rw [crcN, ih, crcN]
def crcB (c z : Int) : Int := crcN 8 (bits .xor .u32 c z)
def crcL (c : Int) (l : List Int) : Int := l.foldl crcB c
def sumR (zs : List Int) : Int := bits .xor .u32 (crcL 4294967295 zs) 4294967295

theorem xor32_bd (a b : Int) (ha : 0 ≤ a ∧ a ≤ 4294967295) (hb : 0 ≤ b ∧ b ≤ 4294967295) : 0 ≤ bits .xor .u32 a b ∧ bits .xor .u32 a b ≤ 4294967295 := by
  rw [u32_xor a b ha.1 (by omega) hb.1 (by omega)]
  have : a.toNat ^^^ b.toNat < 2 ^ 32 := Nat.xor_lt_two_pow (by omega) (by omega)
  omega
theorem crc1_bd (c : Int) (h : 0 ≤ c ∧ c ≤ 4294967295) : 0 ≤ crc1 c ∧ crc1 c ≤ 4294967295 := by
  unfold crc1
  split
  · exact xor32_bd _ _ (by omega) (by omega)
  · omega
theorem crcN_bd (k : Nat) (c : Int) (h : 0 ≤ c ∧ c ≤ 4294967295) : 0 ≤ crcN k c ∧ crcN k c ≤ 4294967295 := by
  induction k with
  | zero => exact h
  | succ k ih => rw [crcN_succ]; exact crc1_bd _ ih
theorem crcB_bd (c z : Int) (h : 0 ≤ c ∧ c ≤ 4294967295) (hz : 0 ≤ z ∧ z ≤ 255) : 0 ≤ crcB c z ∧ crcB c z ≤ 4294967295 := crcN_bd 8 _ (xor32_bd _ _ h (by omega))
theorem crcL_snoc (c : Int) (l : List Int) (z : Int) : crcL c (l ++ [z]) = crcB (crcL c l) z := by
  unfold crcL
  rw [List.foldl_append, List.foldl_cons, List.foldl_nil]
theorem crcL_cons (c : Int) (z : Int) (l : List Int) : crcL c (z :: l) = crcL (crcB c z) l := by
  unfold crcL
  rw [List.foldl_cons]
theorem crcL_bd (l : List Int) : ∀ (c : Int), (0 ≤ c ∧ c ≤ 4294967295) → (∀ z ∈ l, 0 ≤ z ∧ z ≤ 255) → 0 ≤ crcL c l ∧ crcL c l ≤ 4294967295 := by
  induction l with
  | nil => intro c h _; exact h
  | cons a l ih =>
    intro c h hz
    have h1 := crcB_bd c a h (hz a (by simp))
    have h2 := ih (crcB c a) h1 (fun z hm => hz z (by simp [hm]))
    rw [crcL_cons]
    exact h2
theorem sumR_bd (l : List Int) (hz : ∀ z ∈ l, 0 ≤ z ∧ z ≤ 255) : 0 ≤ sumR l ∧ sumR l ≤ 4294967295 := xor32_bd _ _ (crcL_bd l _ (by omega) hz) (by omega)
theorem and_one32 (c : Int) (h : 0 ≤ c ∧ c ≤ 4294967295) : bits .and .u32 c 1 = c % 2 := by
  rw [u32_and c 1 h.1 (by omega) (by decide) (by decide)]
  have : (1 : Int).toNat = 1 := rfl
  rw [this, nat_mask1]
  omega
end Go.Proofs.YtboamjhlaehoaaaGreat

/- The document's own calls of layer 2: numbers. -/
namespace Go.Proofs.YtboamjhlaehoaaaGreat
open Go.RowKit

theorem rd_one (w : World) (z : Int) (hz : 0 ≤ z ∧ z ≤ 255) : Rd (w.alloc (.cells #[.int .u8 z] 5)) (some ⟨w.heap.size, 0, none⟩) [z] := rd_lit w [z] (by simpa using hz)

def EncRel (Y zk : List Int) (u : Int) : Prop := zk ++ enc u.toNat = Y
theorem EncRel.small {Y zk : List Int} {u : Int} (h : EncRel Y zk u) (h0 : 0 ≤ u) (h1 : u < 128) : zk ++ [u] = Y := by
  have e := enc_small (v := u.toNat) (by omega)
  unfold EncRel at h
  rw [e] at h
  have : ((u.toNat : Nat) : Int) = u := by omega
  rwa [this] at h
theorem EncRel.big {Y zk : List Int} {u : Int} (h : EncRel Y zk u) (h1 : 128 ≤ u) : EncRel Y (zk ++ [u % 128 + 128]) (u / 128) := by
  have e := enc_big (v := u.toNat) (by omega)
  unfold EncRel at h ⊢
  rw [e] at h
  have e1 : ((u.toNat % 128 + 128 : Nat) : Int) = u % 128 + 128 := by omega
  have e2 : u.toNat / 128 = (u / 128).toNat := by omega
  rw [e1, e2] at h
  rw [← h]; simp
theorem EncRel.len {Y zk : List Int} {u : Int} (h : EncRel Y zk u) : zk.length + 1 ≤ Y.length := by
  have h1 := enc_len_pos u.toNat
  unfold EncRel at h
  rw [← h]; simp; omega

set_option maxHeartbeats 400000 in
theorem rputuint (a : Option Addr) (zs : List Int) (L cap : Nat) (v : Int) (w : World) (hr : Rd w a zs) (hL : zs.length = L) (hnil : a = none → cap = 0) (hz : L ≤ 140737488355000) (hv : 0 ≤ v ∧ v ≤ 18446744073709551615) :
    Calls Tryz.prog 52 #[.slice a L cap, .int .u64 v] w fun e w' => ∃ g c N, e = .returned (.slice (some ⟨g, 0, none⟩) N c) ∧ Own w' w.heap.size g N c (zs ++ enc v.toNat) ∧ w.grownBy w' none := by
  have HR : Hid (Rd w a zs) := hr
  have HN : Hid (a = none → cap = 0) := hnil
  have HL : Hid (zs.length = L) := hL
  obtain ⟨Y, hY⟩ : ∃ Y, zs ++ enc v.toNat = Y := ⟨_, rfl⟩
  have HY : Hid (EncRel Y zs v) := hY
  have HYL : Hid (Y.length ≤ L + 10) := by
    show _ ≤ _
    have h2 := enc_len v.toNat (by omega)
    rw [← hY]; simp; omega
  rw [hY]
  clear hr hnil hL hY
  go_enter Tryz.func52, Tryz.ntmps52
  go_wp2_with (at_builtin; refine wpList_append_rd rfl (.tmp 6) (.tmp 7) rfl w.heap.size w.heap.size 0 0 [] rfl (own_empty w) a zs L cap rfl HL.out (HR.out.grown (World.grownBy_alloc w _ none) (by simp)) HN.out (by omega) ?_; intro g1 c1 w1 ho1 hg1)
  have HO1 : Hid (Own w1 w.heap.size g1 L c1 zs) := by
    have := ho1
    rw [List.nil_append, Nat.zero_add] at this
    exact this
  have HG1 : Hid (w.grownBy w1 none) := gb_trans (World.grownBy_alloc w _ none) hg1 (fun j hj => .inl (by simp at hj; omega))
  clear ho1 hg1
  go_loopw [1, 5] (fun t1 t5 wr => ∃ (u : Int) (g c M : Nat) (zk : List Int), 0 ≤ u ∧ u ≤ 18446744073709551615 ∧ t1 = .int .u64 u ∧ t5 = .slice (some ⟨g, 0, none⟩) M c ∧ Own wr w.heap.size g M c zk ∧ EncRel Y zk u ∧ w.grownBy wr none) (fun t1 _ _ => (intOf t1).toNat)
  case atStart => exact ⟨v, g1, c1, L, zs, hv.1, hv.2, rfl, rfl, HO1.out, HY.out, HG1.out⟩
  case round =>
    obtain ⟨u, g, c, M, zk, hu0, hu, rfl, rfl, ho, he, hg⟩ := hrel
    have HO : Hid (Own wr w.heap.size g M c zk) := ho
    have HE : Hid (EncRel Y zk u) := he
    have HG : Hid (w.grownBy wr none) := hg
    have hM : M ≤ 140737488355100 := by
      have h1 := he.len
      have h2 := HYL.out
      have h3 := ho.len
      omega
    clear ho he hg HO1 HG1 HR hv
    by_cases hlt : u < 128
    · have hub : 0 ≤ u ∧ u ≤ 255 := by omega
      have hd : decide (128 ≤ u) = false := by simp; omega
      go_wp2_with (at_builtin; refine wpList_append_rd rfl (.tmp 20) (.tmp 23) rfl w.heap.size g M c zk rfl (HO.out.kept (World.grownBy_alloc wr _ none) (by simp)) (some ⟨wr.heap.size, 0, none⟩) [u] 1 1 rfl rfl (rd_one wr u hub) (by simp) (by omega) ?_; intro g2 c2 w2 ho2 hg2)
      go_ret
      refine ⟨g2, c2, M + 1, rfl, ?_, gb_trans (gb_trans HG.out (World.grownBy_alloc wr _ none) (by simp)) hg2 (fun i hi => .inl (by simp at hi; have := HO.out.ge; omega))⟩
      rw [HE.out.small hu0 hlt] at ho2
      exact ho2
    · have hd : decide (128 ≤ u) = true := by simp; omega
      have HX : Hid (bits .or .u64 (bits .and .u64 u 127) 128 = u % 128 + 128) := or_128 u hu0 hu
      have hxb : 0 ≤ bits .or .u64 (bits .and .u64 u 127) 128 ∧ bits .or .u64 (bits .and .u64 u 127) 128 ≤ 255 := by rw [HX.out]; omega
      go_wp2_with (at_builtin; refine wpList_append_rd rfl (.tmp 11) (.tmp 16) rfl w.heap.size g M c zk rfl (HO.out.kept (World.grownBy_alloc wr _ none) (by simp)) (some ⟨wr.heap.size, 0, none⟩) [bits .or .u64 (bits .and .u64 u 127) 128] 1 1 rfl rfl (rd_one wr _ hxb) (by simp) (by omega) ?_; intro g2 c2 w2 ho2 hg2)
      go_roundw
      case rel => exact ⟨u / 128, g2, c2, M + 1, _, by omega, by omega, rfl, rfl, ho2, by rw [HX.out]; exact HE.out.big (by omega), gb_trans (gb_trans HG.out (World.grownBy_alloc wr _ none) (by simp)) hg2 (fun i hi => .inl (by simp at hi; have := HO.out.ge; omega))⟩
      case measure => simp [intOf]; omega

/-- A signed number stands as this number. -/
def zz (x : Int) : Int := if 0 ≤ x then x * 2 else -(x + 1) * 2 + 1
theorem zz_bd (x : Int) (h : -9223372036854775808 ≤ x ∧ x ≤ 9223372036854775807) : 0 ≤ zz x ∧ zz x ≤ 18446744073709551615 := by
  unfold zz; split <;> omega

end Go.Proofs.YtboamjhlaehoaaaGreat

/- Plain facts on reading numbers. -/
namespace Go.Proofs.YtboamjhlaehoaaaGreat

theorem or7 (v c : Int) (i : Nat) (hv0 : 0 ≤ v) (hv : v < 2 ^ (7 * i)) (hi : i ≤ 9) (hc : 0 ≤ c ∧ c ≤ 255) (h9 : i = 9 → c ≤ 1) :
    bits .or .u64 v (IntKind.u64.wrap (IntKind.u64.wrap (bits .and .u8 c 127) * 2 ^ (7 * i))) = v + c % 128 * 2 ^ (7 * i) ∧ v + c % 128 * 2 ^ (7 * i) ≤ 18446744073709551615 ∧ (i < 9 → v + c % 128 * 2 ^ (7 * i) < 2 ^ (7 * (i + 1))) := by
  have e1 : bits .and .u8 c 127 = c % 128 := by
    rw [u8_and c 127 hc.1 (by omega) (by decide) (by decide)]
    have : (127 : Int).toNat = 127 := rfl
    rw [this, nat_mask7]
    omega
  rw [e1, IntKind.wrap_u64, IntKind.wrap_u64, show c % 128 % 18446744073709551616 = c % 128 by omega]
  have hp : (0 : Int) < 2 ^ (7 * i) := Int.pow_pos (by decide)
  have hs : (2 : Int) ^ (7 * (i + 1)) = 2 ^ (7 * i) * 128 := by
    rw [show 7 * (i + 1) = 7 * i + 7 by omega, Int.pow_add]; rfl
  have hle : c % 128 * 2 ^ (7 * i) + 2 ^ (7 * i) ≤ 18446744073709551616 := by
    by_cases h : i = 9
    · have := h9 h
      subst h
      have : c % 128 ≤ 1 := by omega
      have e : (2 : Int) ^ (7 * 9) = 9223372036854775808 := by simp
      rw [e]; omega
    · have h1 : (2 : Int) ^ (7 * i) ≤ 2 ^ 56 := by exact_mod_cast Nat.pow_le_pow_right (by decide) (by omega : 7 * i ≤ 56)
      have h2 : c % 128 * 2 ^ (7 * i) ≤ 127 * 2 ^ (7 * i) := Int.mul_le_mul_of_nonneg_right (by omega) (Int.le_of_lt hp)
      have e : (2 : Int) ^ 56 = 72057594037927936 := by simp
      omega
  have hm0 : 0 ≤ c % 128 * 2 ^ (7 * i) := Int.mul_nonneg (by omega) (Int.le_of_lt hp)
  refine ⟨?_, by omega, fun h => ?_⟩
  · rw [Int.emod_eq_of_lt hm0 (by omega), u64_or v _ hv0 (by omega) hm0 (by omega), Nat.or_comm]
    obtain ⟨V, rfl⟩ := Int.eq_ofNat_of_zero_le hv0
    obtain ⟨C, hC⟩ := Int.eq_ofNat_of_zero_le (show 0 ≤ c % 128 by omega)
    rw [hC]
    have eP : (C : Int) * 2 ^ (7 * i) = ((C * 2 ^ (7 * i) : Nat) : Int) := by rw [Int.natCast_mul, Int.natCast_pow]; rfl
    have hV : V < 2 ^ (7 * i) := by
      have : ((2 ^ (7 * i) : Nat) : Int) = (2 : Int) ^ (7 * i) := by rw [Int.natCast_pow]; rfl
      rw [← this] at hv
      exact_mod_cast hv
    rw [eP, Int.toNat_natCast, Int.toNat_natCast, nat_join (7 * i) _ _ (Nat.mul_mod_left _ _) hV]
    omega
  · rw [hs]
    have h2 : c % 128 * 2 ^ (7 * i) ≤ 127 * 2 ^ (7 * i) := Int.mul_le_mul_of_nonneg_right (by omega) (Int.le_of_lt hp)
    omega

def URel (zs : List Int) (p i : Nat) (v r1 r2 r3 : Int) : Prop := ud zs p (10 - i) i v = (r1, r2, r3)
section
variable {zs : List Int} {p i : Nat} {v r1 r2 r3 : Int}
theorem URel.over (h : URel zs p i v r1 r2 r3) (hi : i ≤ 9) (hl : zs.length ≤ p + i) : r1 = 0 ∧ r2 = 0 ∧ r3 = 20 := by
  unfold URel at h
  rw [show 10 - i = (9 - i) + 1 by omega, ud, if_pos hl] at h
  simp only [Prod.mk.injEq] at h
  omega
theorem URel.form (h : URel zs p i v r1 r2 r3) (hi : i ≤ 9) (hl : p + i < zs.length) (hf : i = 9 ∧ 1 < zs.getD (p + i) 0 ∨ 0 < i ∧ zs.getD (p + i) 0 = 0) : r1 = 0 ∧ r2 = 0 ∧ r3 = 21 := by
  unfold URel at h
  rw [show 10 - i = (9 - i) + 1 by omega, ud, if_neg (by omega), if_pos hf] at h
  simp only [Prod.mk.injEq] at h
  omega
theorem URel.done (h : URel zs p i v r1 r2 r3) (hi : i ≤ 9) (hl : p + i < zs.length) (hf : ¬ (i = 9 ∧ 1 < zs.getD (p + i) 0 ∨ 0 < i ∧ zs.getD (p + i) 0 = 0)) (hc : zs.getD (p + i) 0 < 128) :
    v + zs.getD (p + i) 0 % 128 * 2 ^ (7 * i) = r1 ∧ (p : Int) + i + 1 = r2 ∧ 0 = r3 := by
  unfold URel at h
  rw [show 10 - i = (9 - i) + 1 by omega, ud, if_neg (by omega), if_neg hf, if_pos hc] at h
  simp only [Prod.mk.injEq] at h
  refine ⟨h.1, ?_, h.2.2⟩
  have := h.2.1
  omega
theorem URel.step (h : URel zs p i v r1 r2 r3) (hi : i ≤ 9) (hl : p + i < zs.length) (hf : ¬ (i = 9 ∧ 1 < zs.getD (p + i) 0 ∨ 0 < i ∧ zs.getD (p + i) 0 = 0)) (hc : ¬ zs.getD (p + i) 0 < 128) :
    URel zs p (i + 1) (v + zs.getD (p + i) 0 % 128 * 2 ^ (7 * i)) r1 r2 r3 := by
  unfold URel at h ⊢
  rw [show 10 - i = (9 - i) + 1 by omega, ud, if_neg (by omega), if_neg hf, if_neg hc] at h
  rw [show 10 - (i + 1) = 9 - i by omega]
  exact h
end
end Go.Proofs.YtboamjhlaehoaaaGreat

/- The program's number, folded, unfolded, needless, above, eightHalves. -/
namespace Go.Proofs.YtboamjhlaehoaaaGreat
open Go.RowKit
set_option linter.unusedVariables false

/-- A slice of bytes that the call made, or none yet. -/
def OwnV (w : World) (base : Nat) (v : Value) (n : Nat) (zs : List Int) : Prop := w.ownsRow base 5 1 v n (bs zs) ∧ ∀ z ∈ zs, 0 ≤ z ∧ z ≤ 255
theorem OwnV.nil (w : World) (base : Nat) : OwnV w base (.slice none 0 0) 0 [] := ⟨World.ownsRow_nil w base 5 1, by simp⟩
theorem Own.v {w : World} {base g n cap : Nat} {zs : List Int} (h : Own w base g n cap zs) : OwnV w base (.slice (some ⟨g, 0, none⟩) n cap) n zs := h
theorem OwnV.len {w : World} {base n : Nat} {v : Value} {zs : List Int} (h : OwnV w base v n zs) : zs.length = n := by
  have := h.1.1; rw [bs_len] at this; omega
theorem OwnV.kept {w w' : World} {row : Option Nat} {base n : Nat} {v : Value} {zs : List Int} (h : OwnV w base v n zs) (hg : w.grownBy w' row) (hne : v.ownBlock = none ∨ v.ownBlock ≠ row) : OwnV w' base v n zs :=
  ⟨h.1.kept hg hne, h.2⟩
theorem OwnV.block {w : World} {base n : Nat} {v : Value} {zs : List Int} (h : OwnV w base v n zs) : ∀ k, v.ownBlock = some k → base ≤ k ∧ k < w.heap.size := h.1.lt

/-- append(out, xs...): out is the call's own or none, xs are some bytes. -/
theorem wpList_append_v {w : World} {ops : Array Oper} {rest : List Oper} {o : Oper} {a : Act} {Q : Exit → Act → World → Prop} (hgd : o.guard = none) (s x : Operand)
    (ho : o.op = .call { callee := .builtin .append, args := #[s, x], argTypes := #[49, 49] }) (base : Nat) (v : Value) (n : Nat) (xs : List Int) (hs : a.eval s = v) (hown : OwnV w base v n xs)
    (src : Addr) (zs : List Int) (m cap : Nat) (hx : a.eval x = .slice (some src) m cap) (hm : zs.length = m) (hr : Rd w (some src) zs) (h0 : 0 < m) (hlen : n + m ≤ 140737488355328) (hb : base ≤ w.heap.size)
    (h : ∀ g c w', Own w' base g (n + m) c (xs ++ zs) → w.grownBy w' v.ownBlock → wpList Tryz.prog ops Q rest (a.put o.dst (.slice (some ⟨g, 0, none⟩) (n + m) c)) w') : wpList Tryz.prog ops Q (o :: rest) a w := by
  obtain ⟨i0, hi, hz0, hz1, hz2⟩ := info_parts info5
  subst hm
  refine wpList_append_own _ hgd s x 49 ho base 5 i0 (.int .u8 0) 1 1 Tryz.underlying49 hi hz0 hz1 hz2 rfl (by decide) _ n (bs xs) hs hown.1 src zs.length cap (bs zs) hx (by rw [bs_len]; omega) hr.news (bs_one zs) (by unfold maxLen; omega) (by omega) hb ?_
  intro v' w' hown' hg hne
  rw [← bs_app] at hown'
  obtain ⟨g, c, rfl, ho'⟩ := Own.of hown' (fun h => by have := (hne.1 h).2; omega) (fun z hz => by
    rcases List.mem_append.1 hz with h1 | h1
    · exact hown.2 z h1
    · exact hr.2 z h1)
  exact h g c w' ho' hg

set_option maxRecDepth 100000 in
theorem or8_128 (v : Int) (h0 : 0 ≤ v) (h1 : v ≤ 255) : bits .or .u8 v 128 = v % 128 + 128 := by
  rw [u8_or v 128 h0 (by omega) (by decide) (by decide)]
  have e : (128 : Int).toNat = 128 := rfl
  rw [e]
  obtain ⟨V, rfl⟩ := Int.eq_ofNat_of_zero_le h0
  rw [Int.toNat_natCast]
  have hV : V ≤ 255 := by omega
  have key : ∀ V : Fin 256, V.val ||| 128 = V.val % 128 + 128 := by decide
  have := key ⟨V, by omega⟩
  simp only at this
  rw [this]
  omega
theorem le_alloc {n : Nat} {w : World} {o : Obj} (h : n ≤ w.heap.size) : n ≤ (w.alloc o).heap.size := Nat.le_trans h (World.grownBy_alloc w o none).size
theorem low_or (u : Int) (h0 : 0 ≤ u) : bits .or .u8 (u % 256) 128 = u % 128 + 128 := by
  rw [or8_128 _ (by omega) (by omega)]
  omega

set_option maxHeartbeats 400000 in
theorem g_number (v : Int) (w : World) (hv : 0 ≤ v ∧ v ≤ 18446744073709551615) :
    Calls Tryz.prog 96 #[.int .u64 v] w fun e w' => ∃ g c N, e = .returned (.slice (some ⟨g, 0, none⟩) N c) ∧ Own w' w.heap.size g N c (enc v.toNat) ∧ w.grownBy w' none := by
  obtain ⟨Y, hY⟩ : ∃ Y, enc v.toNat = Y := ⟨_, rfl⟩
  have HY : Hid (EncRel Y [] v) := by show [] ++ _ = _; rw [List.nil_append]; exact hY
  have HYL : Hid (Y.length ≤ 10) := by
    show _ ≤ _
    have h2 := enc_len v.toNat (by omega)
    rw [← hY]; omega
  rw [hY]
  clear hY
  go_enter Tryz.func96, Tryz.ntmps96
  go_wp2
  go_loopw [0, 3] (fun t0 t3 wr => ∃ (u : Int) (M : Nat) (zk : List Int), 0 ≤ u ∧ u ≤ 18446744073709551615 ∧ t0 = .int .u64 u ∧ OwnV wr w.heap.size t3 M zk ∧ EncRel Y zk u ∧ w.grownBy wr none) (fun t0 _ _ => (intOf t0).toNat)
  case atStart => exact ⟨v, 0, [], hv.1, hv.2, rfl, OwnV.nil _ _, HY.out, World.grownBy.refl _ _⟩
  case round =>
    obtain ⟨u, M, zk, hu0, hu, rfl, ho, he, hg⟩ := hrel
    have HO : Hid (OwnV wr w.heap.size u3 M zk) := ho
    have HE : Hid (EncRel Y zk u) := he
    have hM : M ≤ 100 := by
      have h1 := he.len
      have h2 := HYL.out
      have h3 := ho.len
      omega
    have HG : Hid (∀ (w2 : World) (o : Obj), (wr.alloc o).grownBy w2 u3.ownBlock → w.grownBy w2 none) := fun w2 o hg2 =>
      gb_trans (gb_trans hg (World.grownBy_alloc wr _ none) (by simp)) hg2 (fun i hi => .inl (ho.block i hi).1)
    have HW : Hid (w.heap.size ≤ wr.heap.size) := hg.size
    clear ho he hg hv HY
    by_cases hlt : u < 128
    · have hub : 0 ≤ u ∧ u ≤ 255 := by omega
      have hd : decide (128 ≤ u) = false := by simp; omega
      go_wp2_with (at_builtin; refine wpList_append_v rfl (.tmp 14) (.tmp 17) rfl w.heap.size u3 M zk rfl (HO.out.kept (World.grownBy_alloc wr _ none) (Classical.em _)) ⟨wr.heap.size, 0, none⟩ [u] 1 1 rfl rfl (rd_one wr _ hub) (by omega) (by omega) (le_alloc HW.out) ?_; intro g2 c2 w2 ho2 hg2)
      go_ret
      refine ⟨g2, c2, M + 1, rfl, ?_, HG.out _ _ hg2⟩
      rw [HE.out.small hu0 hlt] at ho2
      exact ho2
    · have hd : decide (128 ≤ u) = true := by simp; omega
      have HX : Hid (bits .or .u8 (u % 256) 128 = u % 128 + 128) := low_or u hu0
      have hxb : 0 ≤ bits .or .u8 (u % 256) 128 ∧ bits .or .u8 (u % 256) 128 ≤ 255 := by rw [HX.out]; omega
      go_wp2_with (at_builtin; refine wpList_append_v rfl (.tmp 6) (.tmp 10) rfl w.heap.size u3 M zk rfl (HO.out.kept (World.grownBy_alloc wr _ none) (Classical.em _)) ⟨wr.heap.size, 0, none⟩ [bits .or .u8 (u % 256) 128] 1 1 rfl rfl (rd_one wr _ hxb) (by omega) (by omega) (le_alloc HW.out) ?_; intro g2 c2 w2 ho2 hg2)
      go_roundw
      case rel => exact ⟨u / 128, M + 1, _, by omega, by omega, rfl, ho2.v, by rw [HX.out]; exact HE.out.big (by omega), HG.out _ _ hg2⟩
      case measure => simp [intOf]; omega

theorem not_any (y : Int) : ((BitVec.ofInt 64 (-1) ^^^ BitVec.ofInt 64 y).toNat : Int) = 18446744073709551615 - y % 18446744073709551616 := by
  have e : BitVec.ofInt 64 (-1) = BitVec.allOnes 64 := by decide
  rw [e, BitVec.allOnes_xor, BitVec.toNat_not, BitVec.toNat_ofInt]
  have : ((2 ^ 64 : Nat) : Int) = 18446744073709551616 := by decide
  rw [this]
  omega
theorem wrap64_nat (t : Int) (h0 : 0 ≤ t) (h1 : t ≤ 18446744073709551615) : IntKind.i64.wrap t = (t + 9223372036854775808) % 18446744073709551616 - 9223372036854775808 := by
  simp [IntKind.wrap, IntKind.bits, IntKind.signed]
  split <;> omega
theorem not64 (y : Int) (h0 : 0 ≤ y) (h1 : y ≤ 18446744073709551615) : bits .xor .u64 18446744073709551615 y = 18446744073709551615 - y := by
  have e : bits .xor .u64 18446744073709551615 y = IntKind.u64.wrap ((BitVec.ofInt 64 18446744073709551615 ^^^ BitVec.ofInt 64 y).toNat : Int) := rfl
  rw [e, show BitVec.ofInt 64 18446744073709551615 = BitVec.ofInt 64 (-1) by decide, not_any, IntKind.wrap_u64]
  omega
theorem noti64 (y : Int) (h0 : 0 ≤ y) (h1 : y ≤ 9223372036854775807) : bits .xor .i64 (-1) y = -y - 1 := by
  have e : bits .xor .i64 (-1) y = IntKind.i64.wrap ((BitVec.ofInt 64 (-1) ^^^ BitVec.ofInt 64 y).toNat : Int) := rfl
  rw [e, not_any, wrap64_nat _ (by omega) (by omega)]
  omega

theorem g_needless (i : Nat) (c : Int) (w : World) (b : Bool) (hb : b = true ↔ 0 < i ∧ c = 0) :
    Calls Tryz.prog 135 #[.int .i64 i, .int .u8 c] w fun e w' => e = .returned (.bool b) ∧ w = w' := by
  by_cases h0 : 0 < i
  · by_cases h1 : c = 0
    · obtain rfl : b = true := hb.2 ⟨h0, h1⟩
      subst h1
      go_enter Tryz.func135, Tryz.ntmps135
      go_wp2
      go_ret
      exact ⟨rfl, rfl⟩
    · obtain rfl : b = false := Bool.eq_false_iff.2 (fun h => by have := hb.1 h; omega)
      have e : (c == 0) = false := by simpa using h1
      go_enter Tryz.func135, Tryz.ntmps135
      go_wp2
      go_ret
      exact ⟨rfl, rfl⟩
  · obtain rfl : b = false := Bool.eq_false_iff.2 (fun h => by have := hb.1 h; omega)
    go_enter Tryz.func135, Tryz.ntmps135
    go_wp2
    go_ret
    exact ⟨rfl, rfl⟩
theorem g_above (i : Nat) (c : Int) (w : World) (b : Bool) (hb : b = true ↔ i = 9 ∧ 1 < c) :
    Calls Tryz.prog 136 #[.int .i64 i, .int .u8 c] w fun e w' => e = .returned (.bool b) ∧ w = w' := by
  by_cases h0 : i = 9
  · have e0 : ((i : Int) == 9) = true := by simp; omega
    by_cases h1 : 1 < c
    · obtain rfl : b = true := hb.2 ⟨h0, h1⟩
      have e : decide (1 < c) = true := by simpa using h1
      clear h0 hb
      go_enter Tryz.func136, Tryz.ntmps136
      go_wp2
      go_ret
      exact ⟨rfl, rfl⟩
    · obtain rfl : b = false := Bool.eq_false_iff.2 (fun h => by have := hb.1 h; omega)
      have e : decide (1 < c) = false := by simpa using h1
      clear h0 hb
      go_enter Tryz.func136, Tryz.ntmps136
      go_wp2
      go_ret
      exact ⟨rfl, rfl⟩
  · obtain rfl : b = false := Bool.eq_false_iff.2 (fun h => by have := hb.1 h; omega)
    have e0 : ((i : Int) == 9) = false := by simp; omega
    clear hb
    go_enter Tryz.func136, Tryz.ntmps136
    go_wp2
    go_ret
    exact ⟨rfl, rfl⟩
end Go.Proofs.YtboamjhlaehoaaaGreat

/- The document's own Uint. -/
namespace Go.Proofs.YtboamjhlaehoaaaGreat
open Go.RowKit

theorem ret3 {a a' b b' c c' : Int} {ka kb kc : IntKind} (h : a = a') (h1 : b = b') (h2 : c = c') : Ending.returned (.tuple #[.int ka a, .int kb b, .int kc c]) = .returned (.tuple #[.int ka a', .int kb b', .int kc c']) := by rw [h, h1, h2]

set_option maxHeartbeats 2000000 in
theorem ruint_in (a : Option Addr) (zs : List Int) (L cap : Nat) (p : Nat) (r1 r2 r3 : Int) (w : World) (hr : Rd w a zs) (hL : zs.length = L) (hz : (L : Int) ≤ 140737488355000) (hp : p ≤ L) (hR : ud zs p 10 0 0 = (r1, r2, r3)) :
    Calls Tryz.prog 82 #[.slice a L cap, .int .i64 p] w fun e w' => e = .returned (.tuple #[.int .u64 r1, .int .i64 r2, .int .i64 r3]) ∧ w = w' := by
  have d1 : decide ((p : Int) < 0) = false := by simp
  have d2 : decide ((L : Int) < (p : Int)) = false := by simp; omega
  have HR : Hid (Rd w a zs) := hr
  have HL : Hid (zs.length = L) := hL
  have H0 : Hid (URel zs p 0 0 r1 r2 r3) := hR
  clear hr hL hR
  go_enter Tryz.func82, Tryz.ntmps82
  go_wp2
  go_loop [4, 5, 6, 7, 8] (fun t4 t5 t6 t7 t8 => ∃ (i : Nat) (v : Int), i ≤ 9 ∧ 0 ≤ v ∧ v ≤ 9223372036854775807 ∧ v < 2 ^ (7 * i) ∧ URel zs p i v r1 r2 r3 ∧ t7 = .int .u64 v ∧ t8 = .int .i64 i ∧ t4 = .int .u64 0 ∧ t5 = .int .i64 0 ∧ t6 = .int .i64 0) (fun _ _ _ _ t8 => 10 - (intOf t8).toNat)
  case atStart => exact ⟨0, 0, by omega, by omega, by omega, by decide, H0.out, rfl, rfl, rfl, rfl, rfl⟩
  case round =>
    obtain ⟨i, v, hi, hv0, hv1, hv2, hu, rfl, rfl, rfl, rfl, rfl⟩ := hrel
    have HU : Hid (URel zs p i v r1 r2 r3) := hu
    have HV : Hid (v < 2 ^ (7 * i)) := hv2
    clear hu hv2 H0
    by_cases hlt : p + i < L
    · have hl := HL.out
      obtain ⟨b, off, rfl, hc⟩ := HR.out.at (by omega)
      have hcell := hc (p + i) (by omega)
      have hby := HR.out.byte (p + i)
      have HlZ : Hid (p + i < zs.length) := by show _ < _; omega
      have hd : decide ((L : Int) ≤ (p : Int) + (i : Int)) = false := by simp; omega
      have HF : Hid (zs.getD (p + i) 0 = zs.getD (p + i) 0) := rfl
      obtain ⟨c, ec⟩ : ∃ c, c = zs.getD (p + i) 0 := ⟨_, rfl⟩
      rw [← ec] at hcell hby
      have HC : Hid (c = zs.getD (p + i) 0) := ec
      clear hc ec hl HF
      by_cases hform : i = 9 ∧ 1 < c ∨ 0 < i ∧ c = 0
      · have HRes : Hid (r1 = 0 ∧ r2 = 0 ∧ r3 = 21) := HU.out.form hi HlZ.out (by rw [← HC.out]; exact hform)
        rcases hform with ⟨h9, h1⟩ | ⟨h0, h1⟩
        · have e9 : ((i : Int) == 9) = true := by simp; omega
          have e1 : decide (1 < c) = true := by simpa using h1
          clear h9 h1
          clear HU HV HlZ HC
          go_wp2
          go_ret3
          exact ⟨ret3 HRes.out.1.symm HRes.out.2.1.symm HRes.out.2.2.symm, rfl⟩
        · subst h1
          clear HU HV HlZ HC
          by_cases h9 : i = 9
          · have e9 : ((i : Int) == 9) = true := by simp; omega
            have h0' : 0 < i := h0
            clear h9 h0
            go_wp2
            go_ret3
            exact ⟨ret3 HRes.out.1.symm HRes.out.2.1.symm HRes.out.2.2.symm, rfl⟩
          · have e9 : ((i : Int) == 9) = false := by simp; omega
            have h0' : 0 < i := h0
            clear h9 h0
            go_wp2
            go_ret3
            exact ⟨ret3 HRes.out.1.symm HRes.out.2.1.symm HRes.out.2.2.symm, rfl⟩
      · have HO7 : Hid (_ ∧ _ ∧ _) := or7 v c i hv0 HV.out hi hby (fun h => by omega)
        have HNF : Hid (¬ (i = 9 ∧ 1 < zs.getD (p + i) 0 ∨ 0 < i ∧ zs.getD (p + i) 0 = 0)) := by rw [← HC.out]; exact hform
        by_cases h9 : i = 9
        · obtain rfl : c = 1 := by omega
          have e9 : ((i : Int) == 9) = true := by simp; omega
          have h0' : 0 < i := by omega
          have HRes : Hid (_ ∧ _ ∧ _) := HU.out.done hi HlZ.out HNF.out (by rw [← HC.out]; omega)
          clear HU HV HNF hform h9
          go_wp2
          go_ret3
          refine ⟨ret3 ?_ ?_ ?_, rfl⟩
          · rw [← HRes.out.1, ← HC.out]; exact HO7.out.1
          · exact HRes.out.2.1
          · exact HRes.out.2.2
        · have e9 : ((i : Int) == 9) = false := by simp; omega
          by_cases h128 : c < 128
          · have e1 : decide (c < 128) = true := by simpa using h128
            have HRes : Hid (_ ∧ _ ∧ _) := HU.out.done hi HlZ.out HNF.out (by rw [← HC.out]; exact h128)
            by_cases h0 : 0 < i
            · have h0' : 0 < i := h0
              have ec0 : (c == 0) = false := by simp; omega
              clear HU HV HNF hform h9 h0 h128
              go_wp2
              go_ret3
              refine ⟨ret3 ?_ ?_ ?_, rfl⟩
              · rw [← HRes.out.1, ← HC.out]; exact HO7.out.1
              · exact HRes.out.2.1
              · exact HRes.out.2.2
            · have h0' : ¬ 0 < i := h0
              clear HU HV HNF hform h9 h0 h128
              go_wp2
              go_ret3
              refine ⟨ret3 ?_ ?_ ?_, rfl⟩
              · rw [← HRes.out.1, ← HC.out]; exact HO7.out.1
              · exact HRes.out.2.1
              · exact HRes.out.2.2
          · have e1 : decide (c < 128) = false := by simpa using h128
            have HS : Hid (URel zs p (i + 1) (v + c % 128 * 2 ^ (7 * i)) r1 r2 r3) := by
              have h := HU.out.step hi HlZ.out HNF.out (by rw [← HC.out]; exact h128)
              rw [← HC.out] at h
              exact h
            have h9' : i < 9 := by omega
            have HNN : Hid (0 ≤ v + c % 128 * 2 ^ (7 * i) ∧ v + c % 128 * 2 ^ (7 * i) ≤ 9223372036854775807) := by
              have hp : (0 : Int) < 2 ^ (7 * i) := Int.pow_pos (by decide)
              have := Int.mul_nonneg (show 0 ≤ c % 128 by omega) (Int.le_of_lt hp)
              have h1 := HO7.out.2.2 h9'
              have h2 : (2 : Int) ^ (7 * (i + 1)) ≤ 2 ^ 63 := by exact_mod_cast Nat.pow_le_pow_right (by decide) (by omega : 7 * (i + 1) ≤ 63)
              constructor <;> omega
            by_cases h0 : 0 < i
            · have h0' : 0 < i := h0
              have ec0 : (c == 0) = false := by simp; omega
              clear HU HV HNF hform h9 h0 h128
              go_wp2
              go_round
              case rel => exact ⟨i + 1, v + c % 128 * 2 ^ (7 * i), by omega, HNN.out.1, HNN.out.2, HO7.out.2.2 h9', HS.out, by rw [HO7.out.1], by go_num, rfl, rfl, rfl⟩
              case measure => simp [intOf]; omega
            · have h0' : ¬ 0 < i := h0
              clear HU HV HNF hform h9 h0 h128
              go_wp2
              go_round
              case rel => exact ⟨i + 1, v + c % 128 * 2 ^ (7 * i), by omega, HNN.out.1, HNN.out.2, HO7.out.2.2 h9', HS.out, by rw [HO7.out.1], by go_num, rfl, rfl, rfl⟩
              case measure => simp [intOf]; omega
    · have hd : decide ((L : Int) ≤ (p : Int) + (i : Int)) = true := by simp; omega
      have HRes : Hid (r1 = 0 ∧ r2 = 0 ∧ r3 = 20) := HU.out.over hi (by have := HL.out; omega)
      go_wp2
      go_ret3
      exact ⟨ret3 HRes.out.1.symm HRes.out.2.1.symm HRes.out.2.2.symm, rfl⟩
end Go.Proofs.YtboamjhlaehoaaaGreat

