/- Several texts in one: Cmath, Cref, Cumath, Cuint, Crest, Cframe, Ctext, Cback. -/
import Derived.Laws.BitsAllLaws
import Derived.Laws.Bits64
import Derived.Test.YtecnocdffhmkaaaDoorMa
import Derived.Laws.BytesArg
import Derived.Laws.IdiomStrings
import Derived.Lib.AppendStr
import Derived.Lib.Bytes
/- Plain facts on numbers' bytes and on sums. -/
namespace Go.Proofs.YtecnocdffhmkaaaDoor
set_option linter.unusedVariables false
set_option maxRecDepth 20000

/-- A number's bytes: seven bits a byte, the lowest first. -/
def enc (v : Nat) : List Int := if h : v < 128 then [(v : Int)] else ((v % 128 + 128 : Nat) : Int) :: enc (v / 128)
termination_by v
decreasing_by omega
theorem enc_small {v : Nat} (h : v < 128) : enc v = [(v : Int)] := by rw [enc, dif_pos h]
theorem enc_big {v : Nat} (h : ¬ v < 128) : enc v = ((v % 128 + 128 : Nat) : Int) :: enc (v / 128) := by rw [enc, dif_neg h]
theorem enc_byte (v : Nat) : ∀ z ∈ enc v, 0 ≤ z ∧ z ≤ 255 := by
  induction v using Nat.strongRecOn with
  | _ v ih =>
    by_cases h : v < 128
    · rw [enc_small h]; intro z hz; simp at hz; omega
    · rw [enc_big h]; intro z hz
      rcases List.mem_cons.1 hz with h1 | h1
      · omega
      · exact ih (v / 128) (by omega) z h1
theorem enc_len_pos (v : Nat) : 1 ≤ (enc v).length := by
  by_cases h : v < 128
  · rw [enc_small h]; simp
  · rw [enc_big h]; simp
theorem enc_len_le (f : Nat) : ∀ v, v < 128 ^ (f + 1) → (enc v).length ≤ f + 1 := by
  induction f with
  | zero => intro v hv; rw [enc_small (by omega)]; simp
  | succ f ih =>
    intro v hv
    by_cases h : v < 128
    · rw [enc_small h]; simp
    · rw [enc_big h]
      have := ih (v / 128) (by rw [Nat.pow_succ] at hv; omega)
      simp; omega
theorem enc_len (v : Nat) (hv : v < 18446744073709551616) : (enc v).length ≤ 10 := enc_len_le 9 v (by omega)

theorem or_128 (v : Int) (h0 : 0 ≤ v) (h1 : v ≤ 18446744073709551615) : bits .or .u64 (bits .and .u64 v 127) 128 = v % 128 + 128 := by
  obtain ⟨V, rfl⟩ := Int.eq_ofNat_of_zero_le h0
  have e1 : bits .and .u64 (V : Int) 127 = ((V % 128 : Nat) : Int) := by
    rw [show (127 : Int) = ((127 : Nat) : Int) from rfl, u64_and_nat V 127 (by omega) (by omega), nat_mask7]
  rw [e1, show (128 : Int) = ((128 : Nat) : Int) from rfl, u64_or_nat _ 128 (by omega) (by omega), Nat.or_comm, nat_join 7 128 (V % 128) (by omega) (by omega)]
  omega

/-- What is read from place p on: the number, the place behind it, the error. -/
def ud (zs : List Int) (p : Nat) : Nat → Nat → Int → Int × Int × Int
  | 0, _, _ => (0, 0, 0)
  | f + 1, i, v =>
    if zs.length ≤ p + i then (0, 0, 20)
    else if i = 9 ∧ 1 < zs.getD (p + i) 0 ∨ 0 < i ∧ zs.getD (p + i) 0 = 0 then (0, 0, 21)
    else if zs.getD (p + i) 0 < 128 then (v + zs.getD (p + i) 0 % 128 * 2 ^ (7 * i), (p + i + 1 : Nat), 0)
    else ud zs p f (i + 1) (v + zs.getD (p + i) 0 % 128 * 2 ^ (7 * i))
def uintR (zs : List Int) (p : Int) : Int × Int × Int := if p < 0 ∨ (zs.length : Int) < p then (0, 0, 20) else ud zs p.toNat 10 0 0

/-- One step of the sum, on 32 bits. -/
def crc1 (c : Int) : Int := if c % 2 = 1 then bits .xor .u32 (c / 2) 3988292384 else c / 2
def crcN : Nat → Int → Int
  | 0, c => c
  | k + 1, c => crcN k (crc1 c)
theorem crcN_succ (k : Nat) (c : Int) : crcN (k + 1) c = crc1 (crcN k c) := by
  induction k generalizing c with
  | zero => rfl
  | succ k ih => rw [crcN, ih, crcN]
def crcB (c z : Int) : Int := crcN 8 (bits .xor .u32 c z)
def crcL (c : Int) (l : List Int) : Int := l.foldl crcB c
def sumR (zs : List Int) : Int := bits .xor .u32 (crcL 4294967295 zs) 4294967295

theorem xor32_bd (a b : Int) (ha : 0 ≤ a ∧ a ≤ 4294967295) (hb : 0 ≤ b ∧ b ≤ 4294967295) : 0 ≤ bits .xor .u32 a b ∧ bits .xor .u32 a b ≤ 4294967295 := by
  rw [u32_xor a b ha.1 (by omega) hb.1 (by omega)]
  have : a.toNat ^^^ b.toNat < 2 ^ 32 := Nat.xor_lt_two_pow (by omega) (by omega)
  omega
theorem crc1_bd (c : Int) (h : 0 ≤ c ∧ c ≤ 4294967295) : 0 ≤ crc1 c ∧ crc1 c ≤ 4294967295 := by
  unfold crc1
  split
  · exact xor32_bd _ _ (by omega) (by omega)
  · omega
theorem crcN_bd (k : Nat) (c : Int) (h : 0 ≤ c ∧ c ≤ 4294967295) : 0 ≤ crcN k c ∧ crcN k c ≤ 4294967295 := by
  induction k with
  | zero => exact h
  | succ k ih => rw [crcN_succ]; exact crc1_bd _ ih
theorem crcB_bd (c z : Int) (h : 0 ≤ c ∧ c ≤ 4294967295) (hz : 0 ≤ z ∧ z ≤ 255) : 0 ≤ crcB c z ∧ crcB c z ≤ 4294967295 := crcN_bd 8 _ (xor32_bd _ _ h (by omega))
theorem crcL_snoc (c : Int) (l : List Int) (z : Int) : crcL c (l ++ [z]) = crcB (crcL c l) z := by
  unfold crcL
  rw [List.foldl_append, List.foldl_cons, List.foldl_nil]
theorem crcL_cons (c : Int) (z : Int) (l : List Int) : crcL c (z :: l) = crcL (crcB c z) l := by
  unfold crcL
  rw [List.foldl_cons]
theorem crcL_bd (l : List Int) : ∀ (c : Int), (0 ≤ c ∧ c ≤ 4294967295) → (∀ z ∈ l, 0 ≤ z ∧ z ≤ 255) → 0 ≤ crcL c l ∧ crcL c l ≤ 4294967295 := by
  induction l with
  | nil => intro c h _; exact h
  | cons a l ih =>
    intro c h hz
    have h1 := crcB_bd c a h (hz a (by simp))
    have h2 := ih (crcB c a) h1 (fun z hm => hz z (by simp [hm]))
    rw [crcL_cons]
    exact h2
theorem sumR_bd (l : List Int) (hz : ∀ z ∈ l, 0 ≤ z ∧ z ≤ 255) : 0 ≤ sumR l ∧ sumR l ≤ 4294967295 := xor32_bd _ _ (crcL_bd l _ (by omega) hz) (by omega)
theorem and_one32 (c : Int) (h : 0 ≤ c ∧ c ≤ 4294967295) : bits .and .u32 c 1 = c % 2 := by
  rw [u32_and c 1 h.1 (by omega) (by decide) (by decide)]
  have : (1 : Int).toNat = 1 := rfl
  rw [this, nat_mask1]
  omega
end Go.Proofs.YtecnocdffhmkaaaDoor

/- The document's own calls of layer 2: numbers. -/
namespace Go.Proofs.YtecnocdffhmkaaaDoor
set_option linter.unusedVariables false
set_option maxRecDepth 20000
open Go.RowKit

theorem rd_one (w : World) (z : Int) (hz : 0 ≤ z ∧ z ≤ 255) : Rd (w.alloc (.cells #[.int .u8 z] 5)) (some ⟨w.heap.size, 0, none⟩) [z] := rd_lit w [z] (by simpa using hz)

def EncRel (Y zk : List Int) (u : Int) : Prop := zk ++ enc u.toNat = Y
theorem EncRel.small {Y zk : List Int} {u : Int} (h : EncRel Y zk u) (h0 : 0 ≤ u) (h1 : u < 128) : zk ++ [u] = Y := by
  have e := enc_small (v := u.toNat) (by omega)
  unfold EncRel at h
  rw [e] at h
  have : ((u.toNat : Nat) : Int) = u := by omega
  rwa [this] at h
theorem EncRel.big {Y zk : List Int} {u : Int} (h : EncRel Y zk u) (h1 : 128 ≤ u) : EncRel Y (zk ++ [u % 128 + 128]) (u / 128) := by
  have e := enc_big (v := u.toNat) (by omega)
  unfold EncRel at h ⊢
  rw [e] at h
  have e1 : ((u.toNat % 128 + 128 : Nat) : Int) = u % 128 + 128 := by omega
  have e2 : u.toNat / 128 = (u / 128).toNat := by omega
  rw [e1, e2] at h
  rw [← h]; simp
theorem EncRel.len {Y zk : List Int} {u : Int} (h : EncRel Y zk u) : zk.length + 1 ≤ Y.length := by
  have h1 := enc_len_pos u.toNat
  unfold EncRel at h
  rw [← h]; simp; omega

set_option maxHeartbeats 400000 in
theorem rputuint (a : Option Addr) (zs : List Int) (L cap : Nat) (v : Int) (w : World) (hr : Rd w a zs) (hL : zs.length = L) (hnil : a = none → cap = 0) (hz : L ≤ 140737488355000) (hv : 0 ≤ v ∧ v ≤ 18446744073709551615) :
    Calls Tryd.prog 61 #[.slice a L cap, .int .u64 v] w fun e w' => ∃ g c N, e = .returned (.slice (some ⟨g, 0, none⟩) N c) ∧ Own w' w.heap.size g N c (zs ++ enc v.toNat) ∧ w.grownBy w' none := by
  have HR : Hid (Rd w a zs) := hr
  have HN : Hid (a = none → cap = 0) := hnil
  have HL : Hid (zs.length = L) := hL
  obtain ⟨Y, hY⟩ : ∃ Y, zs ++ enc v.toNat = Y := ⟨_, rfl⟩
  have HY : Hid (EncRel Y zs v) := hY
  have HYL : Hid (Y.length ≤ L + 10) := by
    show _ ≤ _
    have h2 := enc_len v.toNat (by omega)
    rw [← hY]; simp; omega
  rw [hY]
  clear hr hnil hL hY
  go_enter Tryd.func61, Tryd.ntmps61
  go_wp2_with (at_builtin; refine wpList_append_rd rfl (.tmp 6) (.tmp 7) rfl w.heap.size w.heap.size 0 0 [] rfl (own_empty w) a zs L cap rfl HL.out (HR.out.grown (World.grownBy_alloc w _ none) (by simp)) HN.out (by omega) ?_; intro g1 c1 w1 ho1 hg1)
  have HO1 : Hid (Own w1 w.heap.size g1 L c1 zs) := by
    have := ho1
    rw [List.nil_append, Nat.zero_add] at this
    exact this
  have HG1 : Hid (w.grownBy w1 none) := gb_trans (World.grownBy_alloc w _ none) hg1 (fun j hj => .inl (by simp at hj; omega))
  clear ho1 hg1
  go_loopw [1, 5] (fun t1 t5 wr => ∃ (u : Int) (g c M : Nat) (zk : List Int), 0 ≤ u ∧ u ≤ 18446744073709551615 ∧ t1 = .int .u64 u ∧ t5 = .slice (some ⟨g, 0, none⟩) M c ∧ Own wr w.heap.size g M c zk ∧ EncRel Y zk u ∧ w.grownBy wr none) (fun t1 _ _ => (intOf t1).toNat)
  case atStart => exact ⟨v, g1, c1, L, zs, hv.1, hv.2, rfl, rfl, HO1.out, HY.out, HG1.out⟩
  case round =>
    obtain ⟨u, g, c, M, zk, hu0, hu, rfl, rfl, ho, he, hg⟩ := hrel
    have HO : Hid (Own wr w.heap.size g M c zk) := ho
    have HE : Hid (EncRel Y zk u) := he
    have HG : Hid (w.grownBy wr none) := hg
    have hM : M ≤ 140737488355100 := by
      have h1 := he.len
      have h2 := HYL.out
      have h3 := ho.len
      omega
    clear ho he hg HO1 HG1 HR hv
    by_cases hlt : u < 128
    · have hub : 0 ≤ u ∧ u ≤ 255 := by omega
      have hd : decide (128 ≤ u) = false := by simp; omega
      go_wp2_with (at_builtin; refine wpList_append_rd rfl (.tmp 20) (.tmp 23) rfl w.heap.size g M c zk rfl (HO.out.kept (World.grownBy_alloc wr _ none) (by simp)) (some ⟨wr.heap.size, 0, none⟩) [u] 1 1 rfl rfl (rd_one wr u hub) (by simp) (by omega) ?_; intro g2 c2 w2 ho2 hg2)
      go_ret
      refine ⟨g2, c2, M + 1, rfl, ?_, gb_trans (gb_trans HG.out (World.grownBy_alloc wr _ none) (by simp)) hg2 (fun i hi => .inl (by simp at hi; have := HO.out.ge; omega))⟩
      rw [HE.out.small hu0 hlt] at ho2
      exact ho2
    · have hd : decide (128 ≤ u) = true := by simp; omega
      have HX : Hid (bits .or .u64 (bits .and .u64 u 127) 128 = u % 128 + 128) := or_128 u hu0 hu
      have hxb : 0 ≤ bits .or .u64 (bits .and .u64 u 127) 128 ∧ bits .or .u64 (bits .and .u64 u 127) 128 ≤ 255 := by rw [HX.out]; omega
      go_wp2_with (at_builtin; refine wpList_append_rd rfl (.tmp 11) (.tmp 16) rfl w.heap.size g M c zk rfl (HO.out.kept (World.grownBy_alloc wr _ none) (by simp)) (some ⟨wr.heap.size, 0, none⟩) [bits .or .u64 (bits .and .u64 u 127) 128] 1 1 rfl rfl (rd_one wr _ hxb) (by simp) (by omega) ?_; intro g2 c2 w2 ho2 hg2)
      go_roundw
      case rel => exact ⟨u / 128, g2, c2, M + 1, _, by omega, by omega, rfl, rfl, ho2, by rw [HX.out]; exact HE.out.big (by omega), gb_trans (gb_trans HG.out (World.grownBy_alloc wr _ none) (by simp)) hg2 (fun i hi => .inl (by simp at hi; have := HO.out.ge; omega))⟩
      case measure => simp [intOf]; omega

/-- A signed number stands as this number. -/
def zz (x : Int) : Int := if 0 ≤ x then x * 2 else -(x + 1) * 2 + 1
theorem zz_bd (x : Int) (h : -9223372036854775808 ≤ x ∧ x ≤ 9223372036854775807) : 0 ≤ zz x ∧ zz x ≤ 18446744073709551615 := by
  unfold zz; split <;> omega

end Go.Proofs.YtecnocdffhmkaaaDoor

/- Plain facts on reading numbers. -/
namespace Go.Proofs.YtecnocdffhmkaaaDoor
set_option linter.unusedVariables false
set_option maxRecDepth 20000

theorem or7 (v c : Int) (i : Nat) (hv0 : 0 ≤ v) (hv : v < 2 ^ (7 * i)) (hi : i ≤ 9) (hc : 0 ≤ c ∧ c ≤ 255) (h9 : i = 9 → c ≤ 1) :
    bits .or .u64 v (IntKind.u64.wrap (IntKind.u64.wrap (bits .and .u8 c 127) * 2 ^ (7 * i))) = v + c % 128 * 2 ^ (7 * i) ∧ v + c % 128 * 2 ^ (7 * i) ≤ 18446744073709551615 ∧ (i < 9 → v + c % 128 * 2 ^ (7 * i) < 2 ^ (7 * (i + 1))) := by
  have e1 : bits .and .u8 c 127 = c % 128 := by
    rw [u8_and c 127 hc.1 (by omega) (by decide) (by decide)]
    have : (127 : Int).toNat = 127 := rfl
    rw [this, nat_mask7]
    omega
  rw [e1, IntKind.wrap_u64, IntKind.wrap_u64, show c % 128 % 18446744073709551616 = c % 128 by omega]
  have hp : (0 : Int) < 2 ^ (7 * i) := Int.pow_pos (by decide)
  have hs : (2 : Int) ^ (7 * (i + 1)) = 2 ^ (7 * i) * 128 := by
    rw [show 7 * (i + 1) = 7 * i + 7 by omega, Int.pow_add]; rfl
  have hle : c % 128 * 2 ^ (7 * i) + 2 ^ (7 * i) ≤ 18446744073709551616 := by
    by_cases h : i = 9
    · have := h9 h
      subst h
      have : c % 128 ≤ 1 := by omega
      have e : (2 : Int) ^ (7 * 9) = 9223372036854775808 := by simp
      rw [e]; omega
    · have h1 : (2 : Int) ^ (7 * i) ≤ 2 ^ 56 := by exact_mod_cast Nat.pow_le_pow_right (by decide) (by omega : 7 * i ≤ 56)
      have h2 : c % 128 * 2 ^ (7 * i) ≤ 127 * 2 ^ (7 * i) := Int.mul_le_mul_of_nonneg_right (by omega) (Int.le_of_lt hp)
      have e : (2 : Int) ^ 56 = 72057594037927936 := by simp
      omega
  have hm0 : 0 ≤ c % 128 * 2 ^ (7 * i) := Int.mul_nonneg (by omega) (Int.le_of_lt hp)
  refine ⟨?_, by omega, fun h => ?_⟩
  · rw [Int.emod_eq_of_lt hm0 (by omega), u64_or v _ hv0 (by omega) hm0 (by omega), Nat.or_comm]
    obtain ⟨V, rfl⟩ := Int.eq_ofNat_of_zero_le hv0
    obtain ⟨C, hC⟩ := Int.eq_ofNat_of_zero_le (show 0 ≤ c % 128 by omega)
    rw [hC]
    have eP : (C : Int) * 2 ^ (7 * i) = ((C * 2 ^ (7 * i) : Nat) : Int) := by rw [Int.natCast_mul, Int.natCast_pow]; rfl
    have hV : V < 2 ^ (7 * i) := by
      have : ((2 ^ (7 * i) : Nat) : Int) = (2 : Int) ^ (7 * i) := by rw [Int.natCast_pow]; rfl
      rw [← this] at hv
      exact_mod_cast hv
    rw [eP, Int.toNat_natCast, Int.toNat_natCast, nat_join (7 * i) _ _ (Nat.mul_mod_left _ _) hV]
    omega
  · rw [hs]
    have h2 : c % 128 * 2 ^ (7 * i) ≤ 127 * 2 ^ (7 * i) := Int.mul_le_mul_of_nonneg_right (by omega) (Int.le_of_lt hp)
    omega

def URel (zs : List Int) (p i : Nat) (v r1 r2 r3 : Int) : Prop := ud zs p (10 - i) i v = (r1, r2, r3)
section
variable {zs : List Int} {p i : Nat} {v r1 r2 r3 : Int}
theorem URel.over (h : URel zs p i v r1 r2 r3) (hi : i ≤ 9) (hl : zs.length ≤ p + i) : r1 = 0 ∧ r2 = 0 ∧ r3 = 20 := by
  unfold URel at h
  rw [show 10 - i = (9 - i) + 1 by omega, ud, if_pos hl] at h
  simp only [Prod.mk.injEq] at h
  omega
theorem URel.form (h : URel zs p i v r1 r2 r3) (hi : i ≤ 9) (hl : p + i < zs.length) (hf : i = 9 ∧ 1 < zs.getD (p + i) 0 ∨ 0 < i ∧ zs.getD (p + i) 0 = 0) : r1 = 0 ∧ r2 = 0 ∧ r3 = 21 := by
  unfold URel at h
  rw [show 10 - i = (9 - i) + 1 by omega, ud, if_neg (by omega), if_pos hf] at h
  simp only [Prod.mk.injEq] at h
  omega
theorem URel.done (h : URel zs p i v r1 r2 r3) (hi : i ≤ 9) (hl : p + i < zs.length) (hf : ¬ (i = 9 ∧ 1 < zs.getD (p + i) 0 ∨ 0 < i ∧ zs.getD (p + i) 0 = 0)) (hc : zs.getD (p + i) 0 < 128) :
    v + zs.getD (p + i) 0 % 128 * 2 ^ (7 * i) = r1 ∧ (p : Int) + i + 1 = r2 ∧ 0 = r3 := by
  unfold URel at h
  rw [show 10 - i = (9 - i) + 1 by omega, ud, if_neg (by omega), if_neg hf, if_pos hc] at h
  simp only [Prod.mk.injEq] at h
  refine ⟨h.1, ?_, h.2.2⟩
  have := h.2.1
  omega
theorem URel.step (h : URel zs p i v r1 r2 r3) (hi : i ≤ 9) (hl : p + i < zs.length) (hf : ¬ (i = 9 ∧ 1 < zs.getD (p + i) 0 ∨ 0 < i ∧ zs.getD (p + i) 0 = 0)) (hc : ¬ zs.getD (p + i) 0 < 128) :
    URel zs p (i + 1) (v + zs.getD (p + i) 0 % 128 * 2 ^ (7 * i)) r1 r2 r3 := by
  unfold URel at h ⊢
  rw [show 10 - i = (9 - i) + 1 by omega, ud, if_neg (by omega), if_neg hf, if_neg hc] at h
  rw [show 10 - (i + 1) = 9 - i by omega]
  exact h
end
end Go.Proofs.YtecnocdffhmkaaaDoor

/- The document's own Uint. -/
namespace Go.Proofs.YtecnocdffhmkaaaDoor
set_option linter.unusedVariables false
set_option maxRecDepth 20000
open Go.RowKit

theorem ret3 {a a' b b' c c' : Int} {ka kb kc : IntKind} (h : a = a') (h1 : b = b') (h2 : c = c') : Ending.returned (.tuple #[.int ka a, .int kb b, .int kc c]) = .returned (.tuple #[.int ka a', .int kb b', .int kc c']) := by rw [h, h1, h2]

set_option maxHeartbeats 2000000 in
theorem ruint_in (a : Option Addr) (zs : List Int) (L cap : Nat) (p : Nat) (r1 r2 r3 : Int) (w : World) (hr : Rd w a zs) (hL : zs.length = L) (hz : (L : Int) ≤ 140737488355000) (hp : p ≤ L) (hR : ud zs p 10 0 0 = (r1, r2, r3)) :
    Calls Tryd.prog 53 #[.slice a L cap, .int .i64 p] w fun e w' => e = .returned (.tuple #[.int .u64 r1, .int .i64 r2, .int .i64 r3]) ∧ w = w' := by
  have d1 : decide ((p : Int) < 0) = false := by simp
  have d2 : decide ((L : Int) < (p : Int)) = false := by simp; omega
  have HR : Hid (Rd w a zs) := hr
  have HL : Hid (zs.length = L) := hL
  have H0 : Hid (URel zs p 0 0 r1 r2 r3) := hR
  clear hr hL hR
  go_enter Tryd.func53, Tryd.ntmps53
  go_wp2
  go_loop [4, 5, 6, 7, 8] (fun t4 t5 t6 t7 t8 => ∃ (i : Nat) (v : Int), i ≤ 9 ∧ 0 ≤ v ∧ v ≤ 9223372036854775807 ∧ v < 2 ^ (7 * i) ∧ URel zs p i v r1 r2 r3 ∧ t7 = .int .u64 v ∧ t8 = .int .i64 i ∧ t4 = .int .u64 0 ∧ t5 = .int .i64 0 ∧ t6 = .int .i64 0) (fun _ _ _ _ t8 => 10 - (intOf t8).toNat)
  case atStart => exact ⟨0, 0, by omega, by omega, by omega, by decide, H0.out, rfl, rfl, rfl, rfl, rfl⟩
  case round =>
    obtain ⟨i, v, hi, hv0, hv1, hv2, hu, rfl, rfl, rfl, rfl, rfl⟩ := hrel
    have HU : Hid (URel zs p i v r1 r2 r3) := hu
    have HV : Hid (v < 2 ^ (7 * i)) := hv2
    clear hu hv2 H0
    by_cases hlt : p + i < L
    · have hl := HL.out
      obtain ⟨b, off, rfl, hc⟩ := HR.out.at (by omega)
      have hcell := hc (p + i) (by omega)
      have hby := HR.out.byte (p + i)
      have HlZ : Hid (p + i < zs.length) := by show _ < _; omega
      have hd : decide ((L : Int) ≤ (p : Int) + (i : Int)) = false := by simp; omega
      have HF : Hid (zs.getD (p + i) 0 = zs.getD (p + i) 0) := rfl
      obtain ⟨c, ec⟩ : ∃ c, c = zs.getD (p + i) 0 := ⟨_, rfl⟩
      rw [← ec] at hcell hby
      have HC : Hid (c = zs.getD (p + i) 0) := ec
      clear hc ec hl HF
      by_cases hform : i = 9 ∧ 1 < c ∨ 0 < i ∧ c = 0
      · have HRes : Hid (r1 = 0 ∧ r2 = 0 ∧ r3 = 21) := HU.out.form hi HlZ.out (by rw [← HC.out]; exact hform)
        rcases hform with ⟨h9, h1⟩ | ⟨h0, h1⟩
        · have e9 : ((i : Int) == 9) = true := by simp; omega
          have e1 : decide (1 < c) = true := by simpa using h1
          clear h9 h1
          clear HU HV HlZ HC
          go_wp2
          go_ret3
          exact ⟨ret3 HRes.out.1.symm HRes.out.2.1.symm HRes.out.2.2.symm, rfl⟩
        · subst h1
          clear HU HV HlZ HC
          by_cases h9 : i = 9
          · have e9 : ((i : Int) == 9) = true := by simp; omega
            have h0' : 0 < i := h0
            clear h9 h0
            go_wp2
            go_ret3
            exact ⟨ret3 HRes.out.1.symm HRes.out.2.1.symm HRes.out.2.2.symm, rfl⟩
          · have e9 : ((i : Int) == 9) = false := by simp; omega
            have h0' : 0 < i := h0
            clear h9 h0
            go_wp2
            go_ret3
            exact ⟨ret3 HRes.out.1.symm HRes.out.2.1.symm HRes.out.2.2.symm, rfl⟩
      · have HO7 : Hid (_ ∧ _ ∧ _) := or7 v c i hv0 HV.out hi hby (fun h => by omega)
        have HNF : Hid (¬ (i = 9 ∧ 1 < zs.getD (p + i) 0 ∨ 0 < i ∧ zs.getD (p + i) 0 = 0)) := by rw [← HC.out]; exact hform
        by_cases h9 : i = 9
        · obtain rfl : c = 1 := by omega
          have e9 : ((i : Int) == 9) = true := by simp; omega
          have h0' : 0 < i := by omega
          have HRes : Hid (_ ∧ _ ∧ _) := HU.out.done hi HlZ.out HNF.out (by rw [← HC.out]; omega)
          clear HU HV HNF hform h9
          go_wp2
          go_ret3
          refine ⟨ret3 ?_ ?_ ?_, rfl⟩
          · rw [← HRes.out.1, ← HC.out]; exact HO7.out.1
          · exact HRes.out.2.1
          · exact HRes.out.2.2
        · have e9 : ((i : Int) == 9) = false := by simp; omega
          by_cases h128 : c < 128
          · have e1 : decide (c < 128) = true := by simpa using h128
            have HRes : Hid (_ ∧ _ ∧ _) := HU.out.done hi HlZ.out HNF.out (by rw [← HC.out]; exact h128)
            by_cases h0 : 0 < i
            · have h0' : 0 < i := h0
              have ec0 : (c == 0) = false := by simp; omega
              clear HU HV HNF hform h9 h0 h128
              go_wp2
              go_ret3
              refine ⟨ret3 ?_ ?_ ?_, rfl⟩
              · rw [← HRes.out.1, ← HC.out]; exact HO7.out.1
              · exact HRes.out.2.1
              · exact HRes.out.2.2
            · have h0' : ¬ 0 < i := h0
              clear HU HV HNF hform h9 h0 h128
              go_wp2
              go_ret3
              refine ⟨ret3 ?_ ?_ ?_, rfl⟩
              · rw [← HRes.out.1, ← HC.out]; exact HO7.out.1
              · exact HRes.out.2.1
              · exact HRes.out.2.2
          · have e1 : decide (c < 128) = false := by simpa using h128
            have HS : Hid (URel zs p (i + 1) (v + c % 128 * 2 ^ (7 * i)) r1 r2 r3) := by
              have h := HU.out.step hi HlZ.out HNF.out (by rw [← HC.out]; exact h128)
              rw [← HC.out] at h
              exact h
            have h9' : i < 9 := by omega
            have HNN : Hid (0 ≤ v + c % 128 * 2 ^ (7 * i) ∧ v + c % 128 * 2 ^ (7 * i) ≤ 9223372036854775807) := by
              have hp : (0 : Int) < 2 ^ (7 * i) := Int.pow_pos (by decide)
              have := Int.mul_nonneg (show 0 ≤ c % 128 by omega) (Int.le_of_lt hp)
              have h1 := HO7.out.2.2 h9'
              have h2 : (2 : Int) ^ (7 * (i + 1)) ≤ 2 ^ 63 := by exact_mod_cast Nat.pow_le_pow_right (by decide) (by omega : 7 * (i + 1) ≤ 63)
              constructor <;> omega
            by_cases h0 : 0 < i
            · have h0' : 0 < i := h0
              have ec0 : (c == 0) = false := by simp; omega
              clear HU HV HNF hform h9 h0 h128
              go_wp2
              go_round
              case rel => exact ⟨i + 1, v + c % 128 * 2 ^ (7 * i), by omega, HNN.out.1, HNN.out.2, HO7.out.2.2 h9', HS.out, by rw [HO7.out.1], by go_num, rfl, rfl, rfl⟩
              case measure => simp [intOf]; omega
            · have h0' : ¬ 0 < i := h0
              clear HU HV HNF hform h9 h0 h128
              go_wp2
              go_round
              case rel => exact ⟨i + 1, v + c % 128 * 2 ^ (7 * i), by omega, HNN.out.1, HNN.out.2, HO7.out.2.2 h9', HS.out, by rw [HO7.out.1], by go_num, rfl, rfl, rfl⟩
              case measure => simp [intOf]; omega
    · have hd : decide ((L : Int) ≤ (p : Int) + (i : Int)) = true := by simp; omega
      have HRes : Hid (r1 = 0 ∧ r2 = 0 ∧ r3 = 20) := HU.out.over hi (by have := HL.out; omega)
      go_wp2
      go_ret3
      exact ⟨ret3 HRes.out.1.symm HRes.out.2.1.symm HRes.out.2.2.symm, rfl⟩
end Go.Proofs.YtecnocdffhmkaaaDoor

/- The document's own calls of layer 2: texts, frames. -/
namespace Go.Proofs.YtecnocdffhmkaaaDoor
set_option linter.unusedVariables false
set_option maxRecDepth 20000
open Go.RowKit

theorem conv_rd (w : World) (a : Option Addr) (zs : List Int) (L cap : Nat) (hr : Rd w a zs) (hL : zs.length = L) : (convert 33 9 (.slice a L cap)).run Tryd.prog w = .ok (.string (strOfNums zs)) w := by
  subst hL
  cases a with
  | none =>
    obtain rfl := hr.none
    rw [run_convert_bytes_nil w 33 5 Tryd.underlying33 Tryd.underlying5 _ _ 9 Tryd.underlying9]
    rfl
  | some ad =>
    rcases hr.1 with rfl | ⟨b, off, e, hc⟩
    · rw [show ([] : List Int).length = ([] : List UInt8).length from rfl, run_convert_bytes_back w 33 9 5 ad cap [] Tryd.underlying33 Tryd.underlying5 Tryd.underlying9 (by intro j hj; simp at hj)]
      rfl
    · obtain rfl := Option.some.inj e
      exact run_convert_bytes_arg w 33 5 Tryd.underlying33 Tryd.underlying5 b off zs.length cap zs rfl hc 9 Tryd.underlying9

theorem strOfNums_inj {xs ys : List Int} (hx : ∀ z ∈ xs, 0 ≤ z ∧ z ≤ 255) (hy : ∀ z ∈ ys, 0 ≤ z ∧ z ≤ 255) (h : (strOfNums xs).data.toList = (strOfNums ys).data.toList) : xs = ys := by
  rw [strOfNums_data, strOfNums_data] at h
  have hl : xs.length = ys.length := by simpa using congrArg List.length h
  refine List.ext_getElem hl fun i h1 h2 => ?_
  have e := congrArg (fun l => l[i]?) h
  simp only [List.getElem?_map, List.getElem?_eq_getElem h1, List.getElem?_eq_getElem h2, Option.map_some, Option.some.injEq] at e
  have e2 := congrArg UInt8.toNat e
  have bx := hx _ (List.getElem_mem h1)
  have bY := hy _ (List.getElem_mem h2)
  simp only [UInt8.toNat_ofNat'] at e2
  omega

/-- A text's bytes, as numbers. -/
def sInts (s : ByteArray) : List Int := s.data.toList.map fun b => (b.toNat : Int)
theorem sInts_len (s : ByteArray) : (sInts s).length = s.size := by
  unfold sInts
  rw [List.length_map, Array.length_toList]
  rfl
theorem sInts_cells (s : ByteArray) : bs (sInts s) = Go.Lib.strCells s := by
  unfold bs sInts Go.Lib.strCells
  rw [List.map_map]
  rfl
theorem sInts_byte (s : ByteArray) : ∀ z ∈ sInts s, 0 ≤ z ∧ z ≤ 255 := by
  intro z hz
  simp only [sInts, List.mem_map] at hz
  obtain ⟨b, _, rfl⟩ := hz
  have := b.toNat_lt
  omega

/-- append(out, s...): out is the call's own, s a text. -/
theorem wpList_append_text {w : World} {ops : Array Oper} {rest : List Oper} {o : Oper} {a : Act} {Q : Exit → Act → World → Prop} (hgd : o.guard = none) (sl x : Operand)
    (ho : o.op = .call { callee := .builtin .append, args := #[sl, x], argTypes := #[33, 9] }) (base g0 n c0 : Nat) (xs : List Int) (hs : a.eval sl = .slice (some ⟨g0, 0, none⟩) n c0) (hown : Own w base g0 n c0 xs)
    (s : ByteArray) (m : Nat) (hm : s.size = m) (hx : a.eval x = .string s) (hlen : n + m ≤ 140737488355328)
    (h : ∀ g c w', Own w' base g (n + m) c (xs ++ sInts s) → w.grownBy w' (some g0) → wpList Tryd.prog ops Q rest (a.put o.dst (.slice (some ⟨g, 0, none⟩) (n + m) c)) w') : wpList Tryd.prog ops Q (o :: rest) a w := by
  obtain ⟨i0, hi, hz0, hz1, hz2⟩ := info_parts info5
  subst hm
  have hge := hown.ge
  refine Go.Lib.wpList_append_own_string _ hgd sl x 33 9 ho base 5 i0 Tryd.underlying33 Tryd.underlying9 hi hz0 hz1 hz2 _ n (bs xs) hs hown.1 s hx (by unfold maxLen; omega) (by omega) (by omega) ?_
  intro v' w' hown' hg hne
  rw [← sInts_cells, ← bs_app] at hown'
  obtain ⟨g, c, rfl, ho'⟩ := Own.of hown' (fun h => by simpa using hne.1 h) (fun z hz => by
    rcases List.mem_append.1 hz with h1 | h1
    · exact hown.2 z h1
    · exact sInts_byte s z h1)
  exact h g c w' ho' hg

set_option maxHeartbeats 400000 in
theorem rputtext (a : Option Addr) (zs : List Int) (L cap : Nat) (s : ByteArray) (w : World) (hr : Rd w a zs) (hL : zs.length = L) (hnil : a = none → cap = 0) (hz : L + s.size ≤ 140737488355000) :
    Calls Tryd.prog 45 #[.slice a L cap, .string s] w fun e w' => ∃ g c N, e = .returned (.slice (some ⟨g, 0, none⟩) N c) ∧ Own w' w.heap.size g N c (zs ++ enc s.size ++ sInts s) ∧ w.grownBy w' none := by
  have HC : Hid (∃ Y, Y = zs ++ enc s.size ∧ Y.length ≤ L + 10 ∧ Calls Tryd.prog 61 #[.slice a L cap, .int .u64 (s.size : Int)] w fun e w' => ∃ g c N, e = .returned (.slice (some ⟨g, 0, none⟩) N c) ∧ Own w' w.heap.size g N c Y ∧ w.grownBy w' none) := by
    have h := rputuint a zs L cap s.size w hr hL hnil (by omega) (by omega)
    rw [show ((s.size : Int)).toNat = s.size by omega] at h
    have h2 := enc_len s.size (by omega)
    exact ⟨_, rfl, by simp; omega, h⟩
  obtain ⟨Y, eY, hYL, HU⟩ := HC.out
  rw [← eY]
  have HUU : Hid (Calls Tryd.prog 61 #[.slice a L cap, .int .u64 (s.size : Int)] w fun e w' => ∃ g c N, e = .returned (.slice (some ⟨g, 0, none⟩) N c) ∧ Own w' w.heap.size g N c Y ∧ w.grownBy w' none) := HU
  clear eY HU HC hr hL hnil
  go_enter Tryd.func45, Tryd.ntmps45
  go_wp2_with fail
  refine HUU.out.mono ?_
  rintro e w1 ⟨g, c, N, rfl, ho, hg⟩
  have hN := ho.len
  have HN : Hid (N + s.size ≤ 140737488355328) := by show _ ≤ _; omega
  clear hN
  go_wp2_with (at_builtin; refine wpList_append_text rfl (.tmp 9) (.tmp 10) rfl w.heap.size g N c Y rfl ho s s.size rfl rfl HN.out ?_; intro g2 c2 w2 ho2 hg2)
  go_ret
  exact ⟨g2, c2, _, rfl, ho2, gb_trans hg hg2 (fun i hi => .inl (by simp at hi; have := ho.ge; omega))⟩

def four (c : Int) : List Int := [c / 16777216, c / 65536 % 256, c / 256 % 256, c % 256]
theorem four_byte (c : Int) (h : 0 ≤ c ∧ c ≤ 4294967295) : ∀ z ∈ four c, 0 ≤ z ∧ z ≤ 255 := by
  intro z hz
  simp [four] at hz
  omega

end Go.Proofs.YtecnocdffhmkaaaDoor

/- The document's own Frame, Int, Text. -/
namespace Go.Proofs.YtecnocdffhmkaaaDoor
set_option maxRecDepth 20000
open Go.RowKit
set_option linter.unusedVariables false

def frameR (zs : List Int) : List Int := enc zs.length ++ four (sumR zs) ++ zs

/-- What a number that is read is good for. -/
theorem URel.ok {zs : List Int} {p : Nat} {r1 r2 : Int} (hz : ∀ k, 0 ≤ zs.getD k 0 ∧ zs.getD k 0 ≤ 255) : ∀ (n i : Nat) (v : Int), 9 - i = n → i ≤ 9 → 0 ≤ v → v < 2 ^ (7 * i) → URel zs p i v r1 r2 0 → (p : Int) + i < r2 ∧ r2 ≤ zs.length ∧ 0 ≤ r1 ∧ r1 ≤ 18446744073709551615 := by
  intro n
  induction n with
  | zero =>
    intro i v hn hi hv0 hv h
    have hl : p + i < zs.length := by
      by_cases hl : p + i < zs.length
      · exact hl
      · have := h.over hi (by omega); omega
    by_cases hf : i = 9 ∧ 1 < zs.getD (p + i) 0 ∨ 0 < i ∧ zs.getD (p + i) 0 = 0
    · have := h.form hi hl hf; omega
    · have hc : zs.getD (p + i) 0 < 128 := by omega
      have hd := h.done hi hl hf hc
      have ho := or7 v (zs.getD (p + i) 0) i hv0 hv hi (hz _) (fun h9 => by omega)
      have hp : (0 : Int) < 2 ^ (7 * i) := Int.pow_pos (by decide)
      have hm := Int.mul_nonneg (show 0 ≤ zs.getD (p + i) 0 % 128 by omega) (Int.le_of_lt hp)
      omega
  | succ n ih =>
    intro i v hn hi hv0 hv h
    have hl : p + i < zs.length := by
      by_cases hl : p + i < zs.length
      · exact hl
      · have := h.over hi (by omega); omega
    by_cases hf : i = 9 ∧ 1 < zs.getD (p + i) 0 ∨ 0 < i ∧ zs.getD (p + i) 0 = 0
    · have := h.form hi hl hf; omega
    · have ho := or7 v (zs.getD (p + i) 0) i hv0 hv hi (hz _) (fun h9 => by omega)
      have hp : (0 : Int) < 2 ^ (7 * i) := Int.pow_pos (by decide)
      have hm := Int.mul_nonneg (show 0 ≤ zs.getD (p + i) 0 % 128 by omega) (Int.le_of_lt hp)
      by_cases hc : zs.getD (p + i) 0 < 128
      · have hd := h.done hi hl hf hc
        omega
      · have hs := h.step hi hl hf hc
        have := ih (i + 1) _ (by omega) (by omega) (by omega) (ho.2.2 (by omega)) hs
        omega
theorem ud_ok {zs : List Int} {p : Nat} {r1 r2 : Int} (hz : ∀ k, 0 ≤ zs.getD k 0 ∧ zs.getD k 0 ≤ 255) (h : ud zs p 10 0 0 = (r1, r2, 0)) : (p : Int) < r2 ∧ r2 ≤ zs.length ∧ 0 ≤ r1 ∧ r1 ≤ 18446744073709551615 := by
  have := URel.ok (p := p) hz 9 0 0 rfl (by omega) (by omega) (by decide) h
  simpa using this

set_option maxHeartbeats 400000 in
theorem ruint_out (a : Option Addr) (L cap : Nat) (p : Int) (w : World) (hz : (L : Int) ≤ 140737488355000) (hp : p < 0 ∨ (L : Int) < p) :
    Calls Tryd.prog 53 #[.slice a L cap, .int .i64 p] w fun e w' => e = .returned (.tuple #[.int .u64 0, .int .i64 0, .int .i64 20]) ∧ w = w' := by
  by_cases h : p < 0
  · have d1 : decide (p < 0) = true := by simpa using h
    go_enter Tryd.func53, Tryd.ntmps53
    go_wp2
    go_ret3
    exact ⟨rfl, rfl⟩
  · have d1 : decide (p < 0) = false := by simpa using h
    have d2 : decide ((L : Int) < p) = true := by simp; omega
    go_enter Tryd.func53, Tryd.ntmps53
    go_wp2
    go_ret3
    exact ⟨rfl, rfl⟩

/-- The document's Uint, at any place. -/
theorem ruint (a : Option Addr) (zs : List Int) (L cap : Nat) (p r1 r2 r3 : Int) (w : World) (hr : Rd w a zs) (hL : zs.length = L) (hz : (L : Int) ≤ 140737488355000) (hR : uintR zs p = (r1, r2, r3)) :
    Calls Tryd.prog 53 #[.slice a L cap, .int .i64 p] w fun e w' => e = .returned (.tuple #[.int .u64 r1, .int .i64 r2, .int .i64 r3]) ∧ w = w' := by
  unfold uintR at hR
  by_cases h : p < 0 ∨ (zs.length : Int) < p
  · rw [if_pos h] at hR
    simp only [Prod.mk.injEq] at hR
    obtain ⟨rfl, rfl, rfl⟩ := hR
    exact ruint_out a L cap p w hz (by omega)
  · rw [if_neg h] at hR
    obtain ⟨q, rfl⟩ := Int.eq_ofNat_of_zero_le (show 0 ≤ p by omega)
    exact ruint_in a zs L cap q r1 r2 r3 w hr hL hz (by omega) hR
theorem uintR_ok {zs : List Int} {p r1 r2 : Int} (hz : ∀ k, 0 ≤ zs.getD k 0 ∧ zs.getD k 0 ≤ 255) (h : uintR zs p = (r1, r2, 0)) : 0 ≤ p ∧ p < r2 ∧ r2 ≤ zs.length ∧ 0 ≤ r1 ∧ r1 ≤ 18446744073709551615 := by
  unfold uintR at h
  split at h
  · simp at h
  · have := ud_ok hz h
    omega

/-- The signed number that a number stands for. -/
def unzz (v : Int) : Int := if v % 2 = 0 then v / 2 else -(v / 2) - 1
def intR (zs : List Int) (p : Int) : Int × Int × Int := if (uintR zs p).2.2 = 0 then (unzz (uintR zs p).1, (uintR zs p).2.1, 0) else (0, 0, (uintR zs p).2.2)

theorem and_one_64 (a : Int) (h0 : 0 ≤ a) (h1 : a ≤ 18446744073709551615) : bits .and .u64 a 1 = a % 2 := by
  rw [u64_and _ _ h0 (by omega) (by decide) (by decide)]
  have : (1 : Int).toNat = 1 := rfl
  rw [this, nat_mask1]
  omega

end Go.Proofs.YtecnocdffhmkaaaDoor

/- The document's own Text and Unframe. -/
namespace Go.Proofs.YtecnocdffhmkaaaDoor
set_option linter.unusedVariables false
set_option maxRecDepth 20000
open Go.RowKit

theorem rd_window {w : World} {b off : Nat} {zs : List Int} (hc : ∀ i, i < zs.length → w.cell? ⟨b, off + i, none⟩ = some (.int .u8 (zs.getD i 0))) (hz : ∀ z ∈ zs, 0 ≤ z ∧ z ≤ 255) (k n : Nat) (h : k + n ≤ zs.length) :
    Rd w (some ⟨b, off + k, none⟩) ((zs.drop k).take n) ∧ ((zs.drop k).take n).length = n := by
  have hl : ((zs.drop k).take n).length = n := by simp; omega
  refine ⟨⟨.inr ⟨b, off + k, rfl, fun i hi => ?_⟩, fun z hm => hz z (List.mem_of_mem_drop (List.mem_of_mem_take hm))⟩, hl⟩
  rw [hl] at hi
  rw [Nat.add_assoc, hc (k + i) (by omega)]
  simp [List.getD_eq_getElem?_getD, hi]

def textR (zs : List Int) (p : Int) : ByteArray × Int × Int :=
  if (uintR zs p).2.2 = 0 then
    if (zs.length : Int) - (uintR zs p).2.1 < (uintR zs p).1 then (⟨#[]⟩, 0, 20)
    else (strOfNums ((zs.drop (uintR zs p).2.1.toNat).take (uintR zs p).1.toNat), (uintR zs p).2.1 + (uintR zs p).1, 0)
  else (⟨#[]⟩, 0, (uintR zs p).2.2)

set_option maxHeartbeats 400000 in
theorem rtext (a : Option Addr) (zs : List Int) (L cap : Nat) (p : Int) (s : ByteArray) (r2 r3 : Int) (w : World) (hr : Rd w a zs) (hL : zs.length = L) (hcap : L ≤ cap) (hz : (L : Int) ≤ 140737488355000) (hR : textR zs p = (s, r2, r3)) :
    Calls Tryd.prog 35 #[.slice a L cap, .int .i64 p] w fun e w' => e = .returned (.tuple #[.string s, .int .i64 r2, .int .i64 r3]) ∧ w = w' := by
  obtain ⟨u1, u2, u3, hU⟩ : ∃ u1 u2 u3, uintR zs p = (u1, u2, u3) := ⟨_, _, _, rfl⟩
  have HC := ruint a zs L cap p u1 u2 u3 w hr hL hz hU
  unfold textR at hR
  rw [hU] at hR
  by_cases h3 : u3 = 0
  · subst h3
    have hok := uintR_ok hr.byte hU
    obtain ⟨b, off, rfl, hc⟩ := hr.at (by omega)
    obtain ⟨k, rfl⟩ := Int.eq_ofNat_of_zero_le (show 0 ≤ u2 by omega)
    have hub : 0 ≤ u1 ∧ u1 ≤ 18446744073709551615 := by omega
    simp only [if_true] at hR
    by_cases hlt : (zs.length : Int) - (k : Int) < u1
    · rw [if_pos hlt] at hR
      simp only [Prod.mk.injEq] at hR
      obtain ⟨rfl, rfl, rfl⟩ := hR
      have hd : decide ((L : Int) - (k : Int) < u1) = true := by simp; omega
      have hk : (k : Int) ≤ (L : Int) := by omega
      clear hlt hok hr hU hc hL
      go_enter Tryd.func35, Tryd.ntmps35
      go_wp2_with fail
      refine HC.mono ?_
      rintro e w' ⟨rfl, rfl⟩
      go_wp2
      go_ret3
      exact ⟨rfl, rfl⟩
    · rw [if_neg hlt] at hR
      obtain ⟨n, rfl⟩ := Int.eq_ofNat_of_zero_le hub.1
      simp only [Prod.mk.injEq, Int.toNat_natCast] at hR
      obtain ⟨rfl, rfl, rfl⟩ := hR
      have hd : decide ((L : Int) - (k : Int) < (n : Int)) = false := by simp; omega
      have hk : k + n ≤ L := by omega
      have hw := rd_window hc hr.2 k n (by omega)
      have hconv := fun c => conv_rd w _ _ n c hw.1 hw.2
      obtain ⟨t, ht⟩ : ∃ t, t = strOfNums ((zs.drop k).take n) := ⟨_, rfl⟩
      rw [← ht] at hconv ⊢
      by_cases hck : cap = k
      · obtain rfl : n = 0 := by omega
        have hcv0 := fun c => conv_rd w (some ⟨b, off, none⟩) [] 0 c ⟨.inl rfl, by simp⟩ rfl
        rw [show strOfNums [] = t by rw [ht]; simp] at hcv0
        subst hck
        clear hlt hok hr hU hc hL hw ht hub hconv
        go_enter Tryd.func35, Tryd.ntmps35
        go_wp2_with fail
        refine HC.mono ?_
        rintro e w' ⟨rfl, rfl⟩
        go_wp2
        go_ret3
        exact ⟨by simp, rfl⟩
      · clear hlt hok hr hU hc hL hw ht hub
        go_enter Tryd.func35, Tryd.ntmps35
        go_wp2_with fail
        refine HC.mono ?_
        rintro e w' ⟨rfl, rfl⟩
        go_wp2
        go_ret3
        exact ⟨rfl, rfl⟩
  · rw [if_neg h3] at hR
    simp only [Prod.mk.injEq] at hR
    obtain ⟨rfl, rfl, rfl⟩ := hR
    have e3 : (u3 != 0) = true := by simpa using h3
    clear hr hL hU h3
    go_enter Tryd.func35, Tryd.ntmps35
    go_wp2_with fail
    refine HC.mono ?_
    rintro e w' ⟨rfl, rfl⟩
    go_wp2
    go_ret3
    exact ⟨rfl, rfl⟩
end Go.Proofs.YtecnocdffhmkaaaDoor

/- Numbers' bytes are read back, and there is one form of each. -/
namespace Go.Proofs.YtecnocdffhmkaaaDoor
set_option linter.unusedVariables false
set_option maxRecDepth 20000

theorem getD_app (xs ys : List Int) (i : Nat) : (xs ++ ys).getD (xs.length + i) 0 = ys.getD i 0 := by
  simp [List.getD_eq_getElem?_getD, List.getElem?_append_right]

theorem pow7 (i : Nat) : (2 : Int) ^ (7 * (i + 1)) = 2 ^ (7 * i) * 128 := by
  rw [show 7 * (i + 1) = 7 * i + 7 by omega, Int.pow_add]; rfl

/-- What stands from place p + i on is u's bytes: it is read. -/
theorem ud_enc (zs ys : List Int) (p : Nat) : ∀ (m i u : Nat) (a : Int), 9 - i = m → i ≤ 9 → (zs.drop (p + i) = enc u ++ ys) → (0 < i → 0 < u) → (u : Int) * 2 ^ (7 * i) < 18446744073709551616 →
    ud zs p (10 - i) i a = (a + u * 2 ^ (7 * i), ((p + i + (enc u).length : Nat) : Int), 0) := by
  intro m
  induction m with
  | zero =>
    intro i u a hm hi hd hu hb
    obtain rfl : i = 9 := by omega
    have e : (2 : Int) ^ (7 * 9) = 9223372036854775808 := by simp
    rw [e] at hb
    have hu1 : u = 1 := by omega
    subst hu1
    rw [enc_small (by omega)] at hd ⊢
    have hlen : p + 9 < zs.length := by
      have h := congrArg List.length hd
      simp at h; omega
    have hg : zs.getD (p + 9) 0 = 1 := by
      have h := congrArg (fun l => l.getD 0 0) hd
      simpa [List.getD_eq_getElem?_getD] using h
    rw [show 10 - 9 = 0 + 1 from rfl, ud, if_neg (by omega), hg, if_neg (by omega), if_pos (by omega)]
    simp
  | succ m ih =>
    intro i u a hm hi hd hu hb
    have hp : (0 : Int) < 2 ^ (7 * i) := Int.pow_pos (by decide)
    have hlen : p + i < zs.length := by
      have h := congrArg List.length hd
      have := enc_len_pos u
      simp at h; omega
    rw [show 10 - i = (9 - i) + 1 by omega, ud, if_neg (by omega)]
    by_cases h : u < 128
    · rw [enc_small h] at hd ⊢
      have hg : zs.getD (p + i) 0 = u := by
        have h := congrArg (fun l => l.getD 0 0) hd
        simpa [List.getD_eq_getElem?_getD] using h
      rw [hg, if_neg (by omega), if_pos (by omega), show (u : Int) % 128 = u by omega]
      simp
    · rw [enc_big h] at hd ⊢
      have hg : zs.getD (p + i) 0 = ((u % 128 + 128 : Nat) : Int) := by
        have h := congrArg (fun l => l.getD 0 0) hd
        simpa [List.getD_eq_getElem?_getD] using h
      rw [hg, if_neg (by omega), if_neg (by omega)]
      have hd' : zs.drop (p + (i + 1)) = enc (u / 128) ++ ys := by
        have h := congrArg (List.drop 1) hd
        rw [List.drop_drop] at h
        simpa [Nat.add_assoc] using h
      have hmul : ((u / 128 : Nat) : Int) * 2 ^ (7 * (i + 1)) ≤ (u : Int) * 2 ^ (7 * i) := by
        rw [pow7, show ((u / 128 : Nat) : Int) * (2 ^ (7 * i) * 128) = ((u / 128 : Nat) : Int) * 128 * 2 ^ (7 * i) by rw [Int.mul_comm (2 ^ (7 * i)) 128, Int.mul_assoc]]
        exact Int.mul_le_mul_of_nonneg_right (by omega) (Int.le_of_lt hp)
      have := ih (i + 1) (u / 128) (a + ((u % 128 + 128 : Nat) : Int) % 128 * 2 ^ (7 * i)) (by omega) (by omega) hd' (fun _ => by omega) (by omega)
      rw [show 9 - i = 10 - (i + 1) by omega, this]
      have e1 : ((u % 128 + 128 : Nat) : Int) % 128 = ((u % 128 : Nat) : Int) := by omega
      rw [e1, pow7]
      have e2 : a + ((u % 128 : Nat) : Int) * 2 ^ (7 * i) + ((u / 128 : Nat) : Int) * (2 ^ (7 * i) * 128) = a + (u : Int) * 2 ^ (7 * i) := by
        have e3 : (u : Int) = ((u % 128 : Nat) : Int) + ((u / 128 : Nat) : Int) * 128 := by omega
        have e4 : (u : Int) * 2 ^ (7 * i) = ((u % 128 : Nat) : Int) * 2 ^ (7 * i) + ((u / 128 : Nat) : Int) * 128 * 2 ^ (7 * i) := by
          conv => lhs; rw [e3]
          rw [Int.add_mul]
        rw [e4, Int.mul_comm (2 ^ (7 * i)) 128, ← Int.mul_assoc]
        omega
      rw [e2]
      have e5 : p + (i + 1) + (enc (u / 128)).length = p + i + (((u % 128 + 128 : Nat) : Int) :: enc (u / 128)).length := by simp; omega
      rw [e5]
theorem uintR_enc (xs ys : List Int) (v : Nat) (hv : v < 18446744073709551616) : uintR (xs ++ (enc v ++ ys)) xs.length = ((v : Int), ((xs.length + (enc v).length : Nat) : Int), 0) := by
  unfold uintR
  rw [if_neg (by simp; omega)]
  have h := ud_enc (xs ++ (enc v ++ ys)) ys xs.length 9 0 v 0 rfl (by omega) (by simp) (by omega) (by simp; omega)
  simp only [Nat.add_zero, Nat.mul_zero, Int.pow_zero, Int.mul_one, Int.zero_add, Nat.sub_zero] at h
  rw [Int.toNat_natCast, h]

/-- What is read as a number is that number's bytes. -/
theorem ud_back (zs : List Int) (p : Nat) (hz : ∀ k, 0 ≤ zs.getD k 0 ∧ zs.getD k 0 ≤ 255) : ∀ (m i : Nat) (a r1 r2 : Int), 9 - i = m → i ≤ 9 → ud zs p (10 - i) i a = (r1, r2, 0) →
    ∃ u : Nat, r1 = a + u * 2 ^ (7 * i) ∧ (0 < i → 0 < u) ∧ r2 = ((p + i + (enc u).length : Nat) : Int) ∧ (zs.drop (p + i)).take (enc u).length = enc u := by
  intro m
  induction m with
  | zero =>
    intro i a r1 r2 hm hi h
    obtain rfl : i = 9 := by omega
    have hr : URel zs p 9 a r1 r2 0 := h
    have hl : p + 9 < zs.length := by
      by_cases hl : p + 9 < zs.length
      · exact hl
      · have := hr.over hi (by omega); omega
    by_cases hf : 9 = 9 ∧ 1 < zs.getD (p + 9) 0 ∨ 0 < 9 ∧ zs.getD (p + 9) 0 = 0
    · have := hr.form hi hl hf; omega
    · have hb := hz (p + 9)
      have hd := hr.done hi hl hf (by omega)
      have hc : zs.getD (p + 9) 0 = 1 := by omega
      refine ⟨1, by rw [← hd.1, hc]; rfl, fun _ => by omega, ?_, ?_⟩
      · rw [enc_small (by omega)]; simp; omega
      · rw [enc_small (by omega)]
        refine List.ext_getElem (by simp; omega) fun j h1 h2 => ?_
        simp at h2
        subst h2
        have : zs[p + 9] = 1 := by simpa [List.getD_eq_getElem?_getD, hl] using hc
        simpa using this
  | succ m ih =>
    intro i a r1 r2 hm hi h
    have hr : URel zs p i a r1 r2 0 := h
    have hl : p + i < zs.length := by
      by_cases hl : p + i < zs.length
      · exact hl
      · have := hr.over hi (by omega); omega
    by_cases hf : i = 9 ∧ 1 < zs.getD (p + i) 0 ∨ 0 < i ∧ zs.getD (p + i) 0 = 0
    · have := hr.form hi hl hf; omega
    · have hb := hz (p + i)
      have hcons : zs.drop (p + i) = zs.getD (p + i) 0 :: zs.drop (p + (i + 1)) := by
        rw [List.drop_eq_getElem_cons hl]
        simp [List.getD_eq_getElem?_getD, hl, Nat.add_assoc]
      by_cases hc : zs.getD (p + i) 0 < 128
      · have hd := hr.done hi hl hf hc
        obtain ⟨C, hC⟩ := Int.eq_ofNat_of_zero_le hb.1
        refine ⟨C, ?_, fun h0 => by omega, ?_, ?_⟩
        · rw [← hd.1, hC, show (C : Int) % 128 = C by omega]
        · rw [enc_small (by omega)]; simp; omega
        · rw [enc_small (by omega), hcons, hC]; simp
      · have hs := hr.step hi hl hf hc
        obtain ⟨u, e1, e2, e3, e4⟩ := ih (i + 1) _ r1 r2 (by omega) (by omega) hs
        obtain ⟨C, hC⟩ := Int.eq_ofNat_of_zero_le hb.1
        have hu := e2 (by omega)
        have hbig : ¬ (C % 128 + 128 * u) < 128 := by omega
        have ed : (C % 128 + 128 * u) / 128 = u := by omega
        have em : ((((C % 128 + 128 * u) % 128 + 128 : Nat)) : Int) = (C : Int) := by omega
        refine ⟨C % 128 + 128 * u, ?_, fun _ => by omega, ?_, ?_⟩
        · rw [e1, hC, pow7]
          have e5 : (C : Int) % 128 = ((C % 128 : Nat) : Int) := by omega
          have e6 : ((C % 128 + 128 * u : Nat) : Int) = ((C % 128 : Nat) : Int) + (u : Int) * 128 := by omega
          rw [e5, e6, Int.add_mul, Int.mul_comm (2 ^ (7 * i)) 128, ← Int.mul_assoc]
          omega
        · rw [enc_big hbig, ed, e3]; simp; omega
        · rw [enc_big hbig, ed, em, hcons, hC]
          simp only [List.length_cons, List.take_succ_cons]
          rw [e4]
theorem uintR_back (zs : List Int) (p : Nat) (r1 r2 : Int) (hz : ∀ k, 0 ≤ zs.getD k 0 ∧ zs.getD k 0 ≤ 255) (h : uintR zs p = (r1, r2, 0)) :
    ∃ u : Nat, r1 = u ∧ r2 = ((p + (enc u).length : Nat) : Int) ∧ (zs.drop p).take (enc u).length = enc u := by
  unfold uintR at h
  split at h
  · simp at h
  · rw [Int.toNat_natCast] at h
    obtain ⟨u, e1, _, e3, e4⟩ := ud_back zs p hz 9 0 0 r1 r2 rfl (by omega) h
    exact ⟨u, by simpa using e1, by simpa using e3, by simpa using e4⟩
end Go.Proofs.YtecnocdffhmkaaaDoor

