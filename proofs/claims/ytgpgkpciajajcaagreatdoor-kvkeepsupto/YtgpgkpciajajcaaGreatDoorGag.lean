/- Several texts in one: Wn, Cmath, Cref, Cumath, Dnum, Cuint, Csum, Crest, Cframe, Ctext. -/
import Derived.Test.YtgpgkpciajajcaaGreatDoorGaa
import Derived.Test.YtgpgkpciajajcaaGreatDoorGaf
import Derived.Laws.BitsAllLaws
import Derived.Laws.Bits64
import Derived.Laws.BytesArg
import Derived.Laws.IdiomStrings
import Derived.Lib.AppendStr
import Derived.Lib.Bytes
/- The files of a folder: their names, in order. (No program's numbers.) -/
namespace Go.Proofs.YtgpgkpciajajcaaGreatDoor
open Go
set_option linter.unusedVariables false

def bN (l : List UInt8) : ByteArray := ⟨l.toArray⟩
theorem bN_list (l : List UInt8) : (bN l).data.toList = l := rfl
theorem bN_inj {l l' : List UInt8} (h : bN l = bN l') : l = l' := by
  have := congrArg (fun b : ByteArray => b.data.toList) h
  exact this
theorem bN_size (l : List UInt8) : (bN l).size = l.length := rfl
def segN (dir : ByteArray) (k : Nat) : ByteArray := bN (dir.data.toList ++ ([47, 115] ++ d8 k))
def cpN (dir : ByteArray) (k : Nat) : ByteArray := bN (dir.data.toList ++ ([47, 99] ++ d8 k))
def newN (dir : ByteArray) : ByteArray := bN (dir.data.toList ++ [47, 110, 101, 119])
def inN (dir : ByteArray) : ByteArray := bN (dir.data.toList ++ [47])
theorem pre_lt {a b : List UInt8} (p : List UInt8) (h : a < b) : p ++ a < p ++ b := by
  induction p with
  | nil => exact h
  | cons x p ih => rw [List.cons_append, List.cons_append, List.cons_lt_cons_iff]; exact .inr ⟨rfl, ih⟩
theorem seg_lt (dir : ByteArray) {k j : Nat} (hj : j < 100000000) (h : k < j) : (segN dir k).data.toList < (segN dir j).data.toList := pre_lt _ (pre_lt _ (d8_lt hj h))
theorem cp_lt (dir : ByteArray) {k j : Nat} (hj : j < 100000000) (h : k < j) : (cpN dir k).data.toList < (cpN dir j).data.toList := pre_lt _ (pre_lt _ (d8_lt hj h))
theorem cp_new_lt (dir : ByteArray) (k : Nat) : (cpN dir k).data.toList < (newN dir).data.toList := by
  refine pre_lt _ ?_
  rw [show ([47, 99] ++ d8 k : List UInt8) = 47 :: 99 :: d8 k from rfl, List.cons_lt_cons_iff, List.cons_lt_cons_iff]
  exact .inr ⟨rfl, .inl (by decide)⟩
theorem cp_seg_lt (dir : ByteArray) (k j : Nat) : (cpN dir k).data.toList < (segN dir j).data.toList := by
  refine pre_lt _ ?_
  rw [show ([47, 99] ++ d8 k : List UInt8) = 47 :: 99 :: d8 k from rfl, show ([47, 115] ++ d8 j : List UInt8) = 47 :: 115 :: d8 j from rfl, List.cons_lt_cons_iff, List.cons_lt_cons_iff]
  exact .inr ⟨rfl, .inl (by decide)⟩
theorem new_seg_lt (dir : ByteArray) (j : Nat) : (newN dir).data.toList < (segN dir j).data.toList := by
  refine pre_lt _ ?_
  rw [show ([47, 115] ++ d8 j : List UInt8) = 47 :: 115 :: d8 j from rfl, List.cons_lt_cons_iff, List.cons_lt_cons_iff]
  exact .inr ⟨rfl, .inl (by decide)⟩
theorem ba_ne {x y : ByteArray} (h : x.data.toList < y.data.toList) : x ≠ y := by
  intro e
  subst e
  exact List.lt_irrefl _ h
/-- The names of a folder's files, in order. -/
def namesL (dir : ByteArray) (cps : List Nat) (draft : Bool) (segs : List Nat) : List ByteArray := cps.map (cpN dir) ++ ((if draft = true then [newN dir] else []) ++ segs.map (segN dir))
def Rising (l : List Nat) : Prop := l.Pairwise (· < ·) ∧ ∀ k ∈ l, k < 100000000
theorem rising_map {l : List Nat} (h : Rising l) (f : Nat → ByteArray) (hf : ∀ k j, j < 100000000 → k < j → (f k).data.toList < (f j).data.toList) : (l.map f).Pairwise fun x y => x.data.toList < y.data.toList := by
  rw [List.pairwise_map]
  exact h.1.imp_of_mem (fun {a b} _ hb hab => hf a b (h.2 b hb) hab)
theorem names_lt (dir : ByteArray) {cps segs : List Nat} (draft : Bool) (hc : Rising cps) (hs : Rising segs) : (namesL dir cps draft segs).Pairwise fun x y => x.data.toList < y.data.toList := by
  unfold namesL
  rw [List.pairwise_append, List.pairwise_append]
  refine ⟨rising_map hc _ (fun k j => cp_lt dir), ⟨?_, rising_map hs _ (fun k j => seg_lt dir), ?_⟩, ?_⟩
  · split <;> simp
  · intro a ha b hb
    split at ha
    · simp only [List.mem_singleton] at ha
      obtain ⟨j, _, rfl⟩ := List.mem_map.1 hb
      subst ha
      exact new_seg_lt dir j
    · cases ha
  · intro a ha b hb
    obtain ⟨k, _, rfl⟩ := List.mem_map.1 ha
    rcases List.mem_append.1 hb with hb | hb
    · split at hb
      · simp only [List.mem_singleton] at hb
        subst hb
        exact cp_new_lt dir k
      · cases hb
    · obtain ⟨j, _, rfl⟩ := List.mem_map.1 hb
      exact cp_seg_lt dir k j
/-- The files of a folder are just these. -/
structure Folder (V : Cont) (dir : ByteArray) (cps : List Nat) (draft : Bool) (segs : List Nat) : Prop where
  cpr : Rising cps
  segr : Rising segs
  mem : ∀ s, (V s).isSome = true ∧ Lib.hasPrefix s.data.toList (inN dir).data.toList = true ↔ s ∈ namesL dir cps draft segs
theorem Folder.names {V : Cont} {dir : ByteArray} {cps segs : List Nat} {draft : Bool} (h : Folder V dir cps draft segs) : NamesOf V (inN dir) (namesL dir cps draft segs) := by
  have hl := names_lt dir draft h.cpr h.segr
  refine ⟨?_, hl.imp (fun hab => List.le_of_lt hab), fun s => (h.mem s).symm⟩
  exact hl.imp (fun hab => ba_ne hab)
theorem has_app (p q : List UInt8) : Lib.hasPrefix (p ++ q) p = true := by
  unfold Lib.hasPrefix
  rw [List.isPrefixOf_iff_prefix]
  exact List.prefix_append p q
theorem has_in (dir : ByteArray) (l : List UInt8) : Lib.hasPrefix (dir.data.toList ++ (47 :: l)) (inN dir).data.toList = true := by
  rw [show dir.data.toList ++ (47 :: l) = (inN dir).data.toList ++ l by rw [inN, bN_list]; simp]
  exact has_app _ _
theorem seg_in (dir : ByteArray) (k : Nat) : Lib.hasPrefix (segN dir k).data.toList (inN dir).data.toList = true := has_in dir _
theorem cp_in (dir : ByteArray) (k : Nat) : Lib.hasPrefix (cpN dir k).data.toList (inN dir).data.toList = true := has_in dir _
theorem new_in (dir : ByteArray) : Lib.hasPrefix (newN dir).data.toList (inN dir).data.toList = true := has_in dir _
theorem seg_inj (dir : ByteArray) {k j : Nat} (hk : k < 100000000) (hj : j < 100000000) (h : segN dir k = segN dir j) : k = j := by
  have h1 := bN_inj h
  have h2 := List.append_cancel_left h1
  exact d8_inj hk hj (List.append_cancel_left h2)
theorem cp_inj (dir : ByteArray) {k j : Nat} (hk : k < 100000000) (hj : j < 100000000) (h : cpN dir k = cpN dir j) : k = j := by
  have h1 := bN_inj h
  have h2 := List.append_cancel_left h1
  exact d8_inj hk hj (List.append_cancel_left h2)
theorem cp_ne_seg (dir : ByteArray) (k j : Nat) : cpN dir k ≠ segN dir j := ba_ne (cp_seg_lt dir k j)
theorem cp_ne_new (dir : ByteArray) (k : Nat) : cpN dir k ≠ newN dir := ba_ne (cp_new_lt dir k)
theorem new_ne_seg (dir : ByteArray) (j : Nat) : newN dir ≠ segN dir j := ba_ne (new_seg_lt dir j)
/-- A name that a disk takes, short enough for a folder. -/
def dirB (s : ByteArray) : Bool := nameB s && decide (s.size ≤ 32)
theorem d8_digit (k : Nat) : ∀ b ∈ d8 k, 48 ≤ b.toNat ∧ b.toNat ≤ 57 := by
  intro b hb
  rw [d8, eN_eq] at hb
  obtain ⟨t, _, rfl⟩ := List.mem_map.1 hb
  rw [dgv]
  have : k / 10 ^ (8 - 1 - t) % 10 < 10 := Nat.mod_lt _ (by decide)
  omega
theorem name_app {dir : ByteArray} (h : dirB dir = true) (l : List UInt8) (hl : l.length ≤ 32) (hc : ∀ b ∈ l, nameC (b.toNat : Int) = true) : nameB (bN (dir.data.toList ++ l)) = true := by
  simp only [dirB, nameB, Bool.and_eq_true, decide_eq_true_eq, List.all_eq_true] at h
  obtain ⟨⟨⟨h1, h2⟩, h3⟩, h4⟩ := h
  have e : dir.data.toList.length = dir.size := Array.length_toList
  simp only [nameB, Bool.and_eq_true, decide_eq_true_eq, List.all_eq_true]
  rw [bN_size, List.length_append, e]
  refine ⟨⟨by omega, by omega⟩, fun z hz => ?_⟩
  simp only [sInts, bN_list, List.map_append, List.mem_append] at hz
  rcases hz with hz | hz
  · exact h3 z hz
  · obtain ⟨b, hb, rfl⟩ := List.mem_map.1 hz
    exact hc b hb
theorem name_digits (k : Nat) : ∀ b ∈ d8 k, nameC (b.toNat : Int) = true := by
  intro b hb
  have := d8_digit k b hb
  simp only [nameC, Bool.or_eq_true, Bool.and_eq_true, decide_eq_true_eq]
  omega
theorem seg_name {dir : ByteArray} (h : dirB dir = true) (k : Nat) : nameB (segN dir k) = true := by
  refine name_app h _ (by rw [List.length_append, d8_len]; decide) (fun b hb => ?_)
  rcases List.mem_append.1 hb with hb | hb
  · simp only [List.mem_cons, List.not_mem_nil, or_false] at hb
    rcases hb with rfl | rfl <;> decide
  · exact name_digits k b hb
theorem cp_name {dir : ByteArray} (h : dirB dir = true) (k : Nat) : nameB (cpN dir k) = true := by
  refine name_app h _ (by rw [List.length_append, d8_len]; decide) (fun b hb => ?_)
  rcases List.mem_append.1 hb with hb | hb
  · simp only [List.mem_cons, List.not_mem_nil, or_false] at hb
    rcases hb with rfl | rfl <;> decide
  · exact name_digits k b hb
theorem new_name {dir : ByteArray} (h : dirB dir = true) : nameB (newN dir) = true := by
  refine name_app h _ (by decide) (fun b hb => ?_)
  simp only [List.mem_cons, List.not_mem_nil, or_false] at hb
  rcases hb with rfl | rfl | rfl | rfl <;> decide
end Go.Proofs.YtgpgkpciajajcaaGreatDoor

/- Plain facts on numbers' bytes and on sums. -/
namespace Go.Proofs.YtgpgkpciajajcaaGreatDoor

/-- A number's bytes: seven bits a byte, the lowest first. -/
def enc (v : Nat) : List Int := if h : v < 128 then [(v : Int)] else ((v % 128 + 128 : Nat) : Int) :: enc (v / 128)
termination_by v
decreasing_by omega
theorem enc_small {v : Nat} (h : v < 128) : enc v = [(v : Int)] := by rw [enc, dif_pos h]
theorem enc_big {v : Nat} (h : ¬ v < 128) : enc v = ((v % 128 + 128 : Nat) : Int) :: enc (v / 128) := by rw [enc, dif_neg h]
theorem enc_len_pos (v : Nat) : 1 ≤ (enc v).length := by
  by_cases h : v < 128
  · rw [enc_small h]; simp
  · rw [enc_big h]; simp
theorem enc_len_le (f : Nat) : ∀ v, v < 128 ^ (f + 1) → (enc v).length ≤ f + 1 := by
  induction f with
  | zero => intro v hv; rw [enc_small (by omega)]; simp
  | succ f ih =>
    intro v hv
    by_cases h : v < 128
    · rw [enc_small h]; simp
    · rw [enc_big h]
      have := ih (v / 128) (by rw [Nat.pow_succ] at hv; omega)
      simp; omega
theorem enc_len (v : Nat) (hv : v < 18446744073709551616) : (enc v).length ≤ 10 := enc_len_le 9 v (by omega)

/-- What is read from place p on: the number, the place behind it, the error. -/
def ud (zs : List Int) (p : Nat) : Nat → Nat → Int → Int × Int × Int
  | 0, _, _ => (0, 0, 0)
  | f + 1, i, v =>
    if zs.length ≤ p + i then (0, 0, 20)
    else if i = 9 ∧ 1 < zs.getD (p + i) 0 ∨ 0 < i ∧ zs.getD (p + i) 0 = 0 then (0, 0, 21)
    else if zs.getD (p + i) 0 < 128 then (v + zs.getD (p + i) 0 % 128 * 2 ^ (7 * i), (p + i + 1 : Nat), 0)
    else ud zs p f (i + 1) (v + zs.getD (p + i) 0 % 128 * 2 ^ (7 * i))
def uintR (zs : List Int) (p : Int) : Int × Int × Int := if p < 0 ∨ (zs.length : Int) < p then (0, 0, 20) else ud zs p.toNat 10 0 0

/-- One step of the sum, on 32 bits. -/
def crc1 (c : Int) : Int := if c % 2 = 1 then bits .xor .u32 (c / 2) 3988292384 else c / 2
def crcN : Nat → Int → Int
  | 0, c => c
  | k + 1, c => crcN k (crc1 c)
theorem crcN_succ (k : Nat) (c : Int) : crcN (k + 1) c = crc1 (crcN k c) := by
  induction k generalizing c with
  | zero => rfl
  | succ k ih => rw [crcN, ih, crcN]
def crcB (c z : Int) : Int := crcN 8 (bits .xor .u32 c z)
def crcL (c : Int) (l : List Int) : Int := l.foldl crcB c
def sumR (zs : List Int) : Int := bits .xor .u32 (crcL 4294967295 zs) 4294967295

theorem xor32_bd (a b : Int) (ha : 0 ≤ a ∧ a ≤ 4294967295) (hb : 0 ≤ b ∧ b ≤ 4294967295) : 0 ≤ bits .xor .u32 a b ∧ bits .xor .u32 a b ≤ 4294967295 := by
  rw [u32_xor a b ha.1 (by omega) hb.1 (by omega)]
  have : a.toNat ^^^ b.toNat < 2 ^ 32 := Nat.xor_lt_two_pow (by omega) (by omega)
  omega
theorem crc1_bd (c : Int) (h : 0 ≤ c ∧ c ≤ 4294967295) : 0 ≤ crc1 c ∧ crc1 c ≤ 4294967295 := by
  unfold crc1
  split
  · exact xor32_bd _ _ (by omega) (by omega)
  · omega
theorem crcN_bd (k : Nat) (c : Int) (h : 0 ≤ c ∧ c ≤ 4294967295) : 0 ≤ crcN k c ∧ crcN k c ≤ 4294967295 := by
  induction k with
  | zero => exact h
  | succ k ih => rw [crcN_succ]; exact crc1_bd _ ih
theorem crcB_bd (c z : Int) (h : 0 ≤ c ∧ c ≤ 4294967295) (hz : 0 ≤ z ∧ z ≤ 255) : 0 ≤ crcB c z ∧ crcB c z ≤ 4294967295 := crcN_bd 8 _ (xor32_bd _ _ h (by omega))
theorem crcL_snoc (c : Int) (l : List Int) (z : Int) : crcL c (l ++ [z]) = crcB (crcL c l) z := by
  unfold crcL
  rw [List.foldl_append, List.foldl_cons, List.foldl_nil]
theorem crcL_cons (c : Int) (z : Int) (l : List Int) : crcL c (z :: l) = crcL (crcB c z) l := by
  unfold crcL
  rw [List.foldl_cons]
theorem crcL_bd (l : List Int) : ∀ (c : Int), (0 ≤ c ∧ c ≤ 4294967295) → (∀ z ∈ l, 0 ≤ z ∧ z ≤ 255) → 0 ≤ crcL c l ∧ crcL c l ≤ 4294967295 := by
  induction l with
  | nil => intro c h _; exact h
  | cons a l ih =>
    intro c h hz
    have h1 := crcB_bd c a h (hz a (by simp))
    have h2 := ih (crcB c a) h1 (fun z hm => hz z (by simp [hm]))
    rw [crcL_cons]
    exact h2
theorem sumR_bd (l : List Int) (hz : ∀ z ∈ l, 0 ≤ z ∧ z ≤ 255) : 0 ≤ sumR l ∧ sumR l ≤ 4294967295 := xor32_bd _ _ (crcL_bd l _ (by omega) hz) (by omega)
end Go.Proofs.YtgpgkpciajajcaaGreatDoor

/- The document's own calls of layer 2: numbers. -/
namespace Go.Proofs.YtgpgkpciajajcaaGreatDoor
open Go.RowKit

theorem rd_one (w : World) (z : Int) (hz : 0 ≤ z ∧ z ≤ 255) : Rd (w.alloc (.cells #[.int .u8 z] 5)) (some ⟨w.heap.size, 0, none⟩) [z] := rd_lit w [z] (by simpa using hz)

def EncRel (Y zk : List Int) (u : Int) : Prop := zk ++ enc u.toNat = Y
theorem EncRel.small {Y zk : List Int} {u : Int} (h : EncRel Y zk u) (h0 : 0 ≤ u) (h1 : u < 128) : zk ++ [u] = Y := by
  have e := enc_small (v := u.toNat) (by omega)
  unfold EncRel at h
  rw [e] at h
  have : ((u.toNat : Nat) : Int) = u := by omega
  rwa [this] at h
theorem EncRel.big {Y zk : List Int} {u : Int} (h : EncRel Y zk u) (h1 : 128 ≤ u) : EncRel Y (zk ++ [u % 128 + 128]) (u / 128) := by
  have e := enc_big (v := u.toNat) (by omega)
  unfold EncRel at h ⊢
  rw [e] at h
  have e1 : ((u.toNat % 128 + 128 : Nat) : Int) = u % 128 + 128 := by omega
  have e2 : u.toNat / 128 = (u / 128).toNat := by omega
  rw [e1, e2] at h
  rw [← h]; simp
theorem EncRel.len {Y zk : List Int} {u : Int} (h : EncRel Y zk u) : zk.length + 1 ≤ Y.length := by
  have h1 := enc_len_pos u.toNat
  unfold EncRel at h
  rw [← h]; simp; omega

/-- A signed number stands as this number. -/
def zz (x : Int) : Int := if 0 ≤ x then x * 2 else -(x + 1) * 2 + 1
end Go.Proofs.YtgpgkpciajajcaaGreatDoor

/- Plain facts on reading numbers. -/
namespace Go.Proofs.YtgpgkpciajajcaaGreatDoor

theorem or7 (v c : Int) (i : Nat) (hv0 : 0 ≤ v) (hv : v < 2 ^ (7 * i)) (hi : i ≤ 9) (hc : 0 ≤ c ∧ c ≤ 255) (h9 : i = 9 → c ≤ 1) :
    bits .or .u64 v (IntKind.u64.wrap (IntKind.u64.wrap (bits .and .u8 c 127) * 2 ^ (7 * i))) = v + c % 128 * 2 ^ (7 * i) ∧ v + c % 128 * 2 ^ (7 * i) ≤ 18446744073709551615 ∧ (i < 9 → v + c % 128 * 2 ^ (7 * i) < 2 ^ (7 * (i + 1))) := by
  have e1 : bits .and .u8 c 127 = c % 128 := by
    rw [u8_and c 127 hc.1 (by omega) (by decide) (by decide)]
    have : (127 : Int).toNat = 127 := rfl
    rw [this, nat_mask7]
    omega
  rw [e1, IntKind.wrap_u64, IntKind.wrap_u64, show c % 128 % 18446744073709551616 = c % 128 by omega]
  have hp : (0 : Int) < 2 ^ (7 * i) := Int.pow_pos (by decide)
  have hs : (2 : Int) ^ (7 * (i + 1)) = 2 ^ (7 * i) * 128 := by
    rw [show 7 * (i + 1) = 7 * i + 7 by omega, Int.pow_add]; rfl
  have hle : c % 128 * 2 ^ (7 * i) + 2 ^ (7 * i) ≤ 18446744073709551616 := by
    by_cases h : i = 9
    · have := h9 h
      subst h
      have : c % 128 ≤ 1 := by omega
      have e : (2 : Int) ^ (7 * 9) = 9223372036854775808 := by simp
      rw [e]; omega
    · have h1 : (2 : Int) ^ (7 * i) ≤ 2 ^ 56 := by exact_mod_cast Nat.pow_le_pow_right (by decide) (by omega : 7 * i ≤ 56)
      have h2 : c % 128 * 2 ^ (7 * i) ≤ 127 * 2 ^ (7 * i) := Int.mul_le_mul_of_nonneg_right (by omega) (Int.le_of_lt hp)
      have e : (2 : Int) ^ 56 = 72057594037927936 := by simp
      omega
  have hm0 : 0 ≤ c % 128 * 2 ^ (7 * i) := Int.mul_nonneg (by omega) (Int.le_of_lt hp)
  refine ⟨?_, by omega, fun h => ?_⟩
  · rw [Int.emod_eq_of_lt hm0 (by omega), u64_or v _ hv0 (by omega) hm0 (by omega), Nat.or_comm]
    obtain ⟨V, rfl⟩ := Int.eq_ofNat_of_zero_le hv0
    obtain ⟨C, hC⟩ := Int.eq_ofNat_of_zero_le (show 0 ≤ c % 128 by omega)
    rw [hC]
    have eP : (C : Int) * 2 ^ (7 * i) = ((C * 2 ^ (7 * i) : Nat) : Int) := by rw [Int.natCast_mul, Int.natCast_pow]; rfl
    have hV : V < 2 ^ (7 * i) := by
      have : ((2 ^ (7 * i) : Nat) : Int) = (2 : Int) ^ (7 * i) := by rw [Int.natCast_pow]; rfl
      rw [← this] at hv
      exact_mod_cast hv
    rw [eP, Int.toNat_natCast, Int.toNat_natCast, nat_join (7 * i) _ _ (Nat.mul_mod_left _ _) hV]
    omega
  · rw [hs]
    have h2 : c % 128 * 2 ^ (7 * i) ≤ 127 * 2 ^ (7 * i) := Int.mul_le_mul_of_nonneg_right (by omega) (Int.le_of_lt hp)
    omega

def URel (zs : List Int) (p i : Nat) (v r1 r2 r3 : Int) : Prop := ud zs p (10 - i) i v = (r1, r2, r3)
section
variable {zs : List Int} {p i : Nat} {v r1 r2 r3 : Int}
theorem URel.over (h : URel zs p i v r1 r2 r3) (hi : i ≤ 9) (hl : zs.length ≤ p + i) : r1 = 0 ∧ r2 = 0 ∧ r3 = 20 := by
  unfold URel at h
  rw [show 10 - i = (9 - i) + 1 by omega, ud, if_pos hl] at h
  simp only [Prod.mk.injEq] at h
  omega
theorem URel.form (h : URel zs p i v r1 r2 r3) (hi : i ≤ 9) (hl : p + i < zs.length) (hf : i = 9 ∧ 1 < zs.getD (p + i) 0 ∨ 0 < i ∧ zs.getD (p + i) 0 = 0) : r1 = 0 ∧ r2 = 0 ∧ r3 = 21 := by
  unfold URel at h
  rw [show 10 - i = (9 - i) + 1 by omega, ud, if_neg (by omega), if_pos hf] at h
  simp only [Prod.mk.injEq] at h
  omega
theorem URel.done (h : URel zs p i v r1 r2 r3) (hi : i ≤ 9) (hl : p + i < zs.length) (hf : ¬ (i = 9 ∧ 1 < zs.getD (p + i) 0 ∨ 0 < i ∧ zs.getD (p + i) 0 = 0)) (hc : zs.getD (p + i) 0 < 128) :
    v + zs.getD (p + i) 0 % 128 * 2 ^ (7 * i) = r1 ∧ (p : Int) + i + 1 = r2 ∧ 0 = r3 := by
  unfold URel at h
  rw [show 10 - i = (9 - i) + 1 by omega, ud, if_neg (by omega), if_neg hf, if_pos hc] at h
  simp only [Prod.mk.injEq] at h
  refine ⟨h.1, ?_, h.2.2⟩
  have := h.2.1
  omega
theorem URel.step (h : URel zs p i v r1 r2 r3) (hi : i ≤ 9) (hl : p + i < zs.length) (hf : ¬ (i = 9 ∧ 1 < zs.getD (p + i) 0 ∨ 0 < i ∧ zs.getD (p + i) 0 = 0)) (hc : ¬ zs.getD (p + i) 0 < 128) :
    URel zs p (i + 1) (v + zs.getD (p + i) 0 % 128 * 2 ^ (7 * i)) r1 r2 r3 := by
  unfold URel at h ⊢
  rw [show 10 - i = (9 - i) + 1 by omega, ud, if_neg (by omega), if_neg hf, if_neg hc] at h
  rw [show 10 - (i + 1) = 9 - i by omega]
  exact h
end
end Go.Proofs.YtgpgkpciajajcaaGreatDoor

/- The program's number, folded, unfolded, needless, above, eightHalves. -/
namespace Go.Proofs.YtgpgkpciajajcaaGreatDoor
open Go.RowKit
set_option linter.unusedVariables false

/-- A slice of bytes that the call made, or none yet. -/
def OwnV (w : World) (base : Nat) (v : Value) (n : Nat) (zs : List Int) : Prop := w.ownsRow base 5 1 v n (bs zs) ∧ ∀ z ∈ zs, 0 ≤ z ∧ z ≤ 255
theorem OwnV.nil (w : World) (base : Nat) : OwnV w base (.slice none 0 0) 0 [] := ⟨World.ownsRow_nil w base 5 1, by simp⟩
theorem Own.v {w : World} {base g n cap : Nat} {zs : List Int} (h : Own w base g n cap zs) : OwnV w base (.slice (some ⟨g, 0, none⟩) n cap) n zs := h
theorem OwnV.len {w : World} {base n : Nat} {v : Value} {zs : List Int} (h : OwnV w base v n zs) : zs.length = n := by
  have := h.1.1; rw [bs_len] at this; omega
theorem OwnV.kept {w w' : World} {row : Option Nat} {base n : Nat} {v : Value} {zs : List Int} (h : OwnV w base v n zs) (hg : w.grownBy w' row) (hne : v.ownBlock = none ∨ v.ownBlock ≠ row) : OwnV w' base v n zs :=
  ⟨h.1.kept hg hne, h.2⟩
theorem OwnV.block {w : World} {base n : Nat} {v : Value} {zs : List Int} (h : OwnV w base v n zs) : ∀ k, v.ownBlock = some k → base ≤ k ∧ k < w.heap.size := h.1.lt

/-- append(out, xs...): out is the call's own or none, xs are some bytes. -/
theorem wpList_append_v {w : World} {ops : Array Oper} {rest : List Oper} {o : Oper} {a : Act} {Q : Exit → Act → World → Prop} (hgd : o.guard = none) (s x : Operand)
    (ho : o.op = .call { callee := .builtin .append, args := #[s, x], argTypes := #[37, 37] }) (base : Nat) (v : Value) (n : Nat) (xs : List Int) (hs : a.eval s = v) (hown : OwnV w base v n xs)
    (src : Addr) (zs : List Int) (m cap : Nat) (hx : a.eval x = .slice (some src) m cap) (hm : zs.length = m) (hr : Rd w (some src) zs) (h0 : 0 < m) (hlen : n + m ≤ 140737488355328) (hb : base ≤ w.heap.size)
    (h : ∀ g c w', Own w' base g (n + m) c (xs ++ zs) → w.grownBy w' v.ownBlock → wpList Tryz.prog ops Q rest (a.put o.dst (.slice (some ⟨g, 0, none⟩) (n + m) c)) w') : wpList Tryz.prog ops Q (o :: rest) a w := by
  obtain ⟨i0, hi, hz0, hz1, hz2⟩ := info_parts info5
  subst hm
  refine wpList_append_own _ hgd s x 37 ho base 5 i0 (.int .u8 0) 1 1 Tryz.underlying37 hi hz0 hz1 hz2 rfl (by decide) _ n (bs xs) hs hown.1 src zs.length cap (bs zs) hx (by rw [bs_len]; omega) hr.news (bs_one zs) (by unfold maxLen; omega) (by omega) hb ?_
  intro v' w' hown' hg hne
  rw [← bs_app] at hown'
  obtain ⟨g, c, rfl, ho'⟩ := Own.of hown' (fun h => by have := (hne.1 h).2; omega) (fun z hz => by
    rcases List.mem_append.1 hz with h1 | h1
    · exact hown.2 z h1
    · exact hr.2 z h1)
  exact h g c w' ho' hg

set_option maxRecDepth 100000 in
theorem or8_128 (v : Int) (h0 : 0 ≤ v) (h1 : v ≤ 255) : bits .or .u8 v 128 = v % 128 + 128 := by
  rw [u8_or v 128 h0 (by omega) (by decide) (by decide)]
  have e : (128 : Int).toNat = 128 := rfl
  rw [e]
  obtain ⟨V, rfl⟩ := Int.eq_ofNat_of_zero_le h0
  rw [Int.toNat_natCast]
  have hV : V ≤ 255 := by omega
  have key : ∀ V : Fin 256, V.val ||| 128 = V.val % 128 + 128 := by decide
  have := key ⟨V, by omega⟩
  simp only at this
  rw [this]
  omega
theorem le_alloc {n : Nat} {w : World} {o : Obj} (h : n ≤ w.heap.size) : n ≤ (w.alloc o).heap.size := Nat.le_trans h (World.grownBy_alloc w o none).size
theorem low_or (u : Int) (h0 : 0 ≤ u) : bits .or .u8 (u % 256) 128 = u % 128 + 128 := by
  rw [or8_128 _ (by omega) (by omega)]
  omega

set_option maxHeartbeats 400000 in
theorem g_number (v : Int) (w : World) (hv : 0 ≤ v ∧ v ≤ 18446744073709551615) :
    Calls Tryz.prog 95 #[.int .u64 v] w fun e w' => ∃ g c N, e = .returned (.slice (some ⟨g, 0, none⟩) N c) ∧ Own w' w.heap.size g N c (enc v.toNat) ∧ w.grownBy w' none := by
  obtain ⟨Y, hY⟩ : ∃ Y, enc v.toNat = Y := ⟨_, rfl⟩
  have HY : Hid (EncRel Y [] v) := by show [] ++ _ = _; rw [List.nil_append]; exact hY
  have HYL : Hid (Y.length ≤ 10) := by
    show _ ≤ _
    have h2 := enc_len v.toNat (by omega)
    rw [← hY]; omega
  rw [hY]
  clear hY
  go_enter Tryz.func95, Tryz.ntmps95
  go_wp2
  go_loopw [0, 3] (fun t0 t3 wr => ∃ (u : Int) (M : Nat) (zk : List Int), 0 ≤ u ∧ u ≤ 18446744073709551615 ∧ t0 = .int .u64 u ∧ OwnV wr w.heap.size t3 M zk ∧ EncRel Y zk u ∧ w.grownBy wr none) (fun t0 _ _ => (intOf t0).toNat)
  case atStart => exact ⟨v, 0, [], hv.1, hv.2, rfl, OwnV.nil _ _, HY.out, World.grownBy.refl _ _⟩
  case round =>
    obtain ⟨u, M, zk, hu0, hu, rfl, ho, he, hg⟩ := hrel
    have HO : Hid (OwnV wr w.heap.size u3 M zk) := ho
    have HE : Hid (EncRel Y zk u) := he
    have hM : M ≤ 100 := by
      have h1 := he.len
      have h2 := HYL.out
      have h3 := ho.len
      omega
    have HG : Hid (∀ (w2 : World) (o : Obj), (wr.alloc o).grownBy w2 u3.ownBlock → w.grownBy w2 none) := fun w2 o hg2 =>
      gb_trans (gb_trans hg (World.grownBy_alloc wr _ none) (by simp)) hg2 (fun i hi => .inl (ho.block i hi).1)
    have HW : Hid (w.heap.size ≤ wr.heap.size) := hg.size
    clear ho he hg hv HY
    by_cases hlt : u < 128
    · have hub : 0 ≤ u ∧ u ≤ 255 := by omega
      have hd : decide (128 ≤ u) = false := by simp; omega
      go_wp2_with (at_builtin; refine wpList_append_v rfl (.tmp 14) (.tmp 17) rfl w.heap.size u3 M zk rfl (HO.out.kept (World.grownBy_alloc wr _ none) (Classical.em _)) ⟨wr.heap.size, 0, none⟩ [u] 1 1 rfl rfl (rd_one wr _ hub) (by omega) (by omega) (le_alloc HW.out) ?_; intro g2 c2 w2 ho2 hg2)
      go_ret
      refine ⟨g2, c2, M + 1, rfl, ?_, HG.out _ _ hg2⟩
      rw [HE.out.small hu0 hlt] at ho2
      exact ho2
    · have hd : decide (128 ≤ u) = true := by simp; omega
      have HX : Hid (bits .or .u8 (u % 256) 128 = u % 128 + 128) := low_or u hu0
      have hxb : 0 ≤ bits .or .u8 (u % 256) 128 ∧ bits .or .u8 (u % 256) 128 ≤ 255 := by rw [HX.out]; omega
      go_wp2_with (at_builtin; refine wpList_append_v rfl (.tmp 6) (.tmp 10) rfl w.heap.size u3 M zk rfl (HO.out.kept (World.grownBy_alloc wr _ none) (Classical.em _)) ⟨wr.heap.size, 0, none⟩ [bits .or .u8 (u % 256) 128] 1 1 rfl rfl (rd_one wr _ hxb) (by omega) (by omega) (le_alloc HW.out) ?_; intro g2 c2 w2 ho2 hg2)
      go_roundw
      case rel => exact ⟨u / 128, M + 1, _, by omega, by omega, rfl, ho2.v, by rw [HX.out]; exact HE.out.big (by omega), HG.out _ _ hg2⟩
      case measure => simp [intOf]; omega

theorem g_needless (i : Nat) (c : Int) (w : World) (b : Bool) (hb : b = true ↔ 0 < i ∧ c = 0) :
    Calls Tryz.prog 176 #[.int .i64 i, .int .u8 c] w fun e w' => e = .returned (.bool b) ∧ w = w' := by
  by_cases h0 : 0 < i
  · by_cases h1 : c = 0
    · obtain rfl : b = true := hb.2 ⟨h0, h1⟩
      subst h1
      go_enter Tryz.func176, Tryz.ntmps176
      go_wp2
      go_ret
      exact ⟨rfl, rfl⟩
    · obtain rfl : b = false := Bool.eq_false_iff.2 (fun h => by have := hb.1 h; omega)
      have e : (c == 0) = false := by simpa using h1
      go_enter Tryz.func176, Tryz.ntmps176
      go_wp2
      go_ret
      exact ⟨rfl, rfl⟩
  · obtain rfl : b = false := Bool.eq_false_iff.2 (fun h => by have := hb.1 h; omega)
    go_enter Tryz.func176, Tryz.ntmps176
    go_wp2
    go_ret
    exact ⟨rfl, rfl⟩
theorem g_above (i : Nat) (c : Int) (w : World) (b : Bool) (hb : b = true ↔ i = 9 ∧ 1 < c) :
    Calls Tryz.prog 177 #[.int .i64 i, .int .u8 c] w fun e w' => e = .returned (.bool b) ∧ w = w' := by
  by_cases h0 : i = 9
  · have e0 : ((i : Int) == 9) = true := by simp; omega
    by_cases h1 : 1 < c
    · obtain rfl : b = true := hb.2 ⟨h0, h1⟩
      have e : decide (1 < c) = true := by simpa using h1
      clear h0 hb
      go_enter Tryz.func177, Tryz.ntmps177
      go_wp2
      go_ret
      exact ⟨rfl, rfl⟩
    · obtain rfl : b = false := Bool.eq_false_iff.2 (fun h => by have := hb.1 h; omega)
      have e : decide (1 < c) = false := by simpa using h1
      clear h0 hb
      go_enter Tryz.func177, Tryz.ntmps177
      go_wp2
      go_ret
      exact ⟨rfl, rfl⟩
  · obtain rfl : b = false := Bool.eq_false_iff.2 (fun h => by have := hb.1 h; omega)
    have e0 : ((i : Int) == 9) = false := by simp; omega
    clear hb
    go_enter Tryz.func177, Tryz.ntmps177
    go_wp2
    go_ret
    exact ⟨rfl, rfl⟩
end Go.Proofs.YtgpgkpciajajcaaGreatDoor

/- The document's own Uint. -/
namespace Go.Proofs.YtgpgkpciajajcaaGreatDoor
open Go.RowKit

end Go.Proofs.YtgpgkpciajajcaaGreatDoor

/- The document's own Sum. -/
namespace Go.Proofs.YtgpgkpciajajcaaGreatDoor
open Go.RowKit

def SumAt (zs : List Int) (j : Nat) (c : Int) : Prop := c = crcL 4294967295 (zs.take j)
theorem SumAt.next {zs : List Int} {j : Nat} {c : Int} (h : SumAt zs j c) (hj : j < zs.length) : SumAt zs (j + 1) (crcB c (zs.getD j 0)) := by
  unfold SumAt at h ⊢
  rw [List.take_succ_eq_append_getElem hj, crcL_snoc, ← h]
  simp [List.getD_eq_getElem?_getD, List.getElem?_eq_getElem hj]
theorem SumAt.bd {zs : List Int} {j : Nat} {c : Int} (h : SumAt zs j c) (hz : ∀ z ∈ zs, 0 ≤ z ∧ z ≤ 255) : 0 ≤ c ∧ c ≤ 4294967295 := by
  unfold SumAt at h
  rw [h]
  exact crcL_bd _ _ (by omega) (fun z hm => hz z (List.mem_of_mem_take hm))
def CrcAt (c0 : Int) (k : Nat) (c : Int) : Prop := c = crcN k c0
theorem CrcAt.odd {c0 : Int} {k : Nat} {c : Int} (h : CrcAt c0 k c) (ho : c % 2 = 1) : CrcAt c0 (k + 1) (bits .xor .u32 (c / 2) 3988292384) := by
  unfold CrcAt at h ⊢
  rw [crcN_succ, ← h, crc1, if_pos ho]
theorem CrcAt.even {c0 : Int} {k : Nat} {c : Int} (h : CrcAt c0 k c) (ho : ¬ c % 2 = 1) : CrcAt c0 (k + 1) (c / 2) := by
  unfold CrcAt at h ⊢
  rw [crcN_succ, ← h, crc1, if_neg ho]
theorem CrcAt.bd {c0 : Int} {k : Nat} {c : Int} (h : CrcAt c0 k c) (h0 : 0 ≤ c0 ∧ c0 ≤ 4294967295) : 0 ≤ c ∧ c ≤ 4294967295 := by
  unfold CrcAt at h
  rw [h]; exact crcN_bd _ _ h0

end Go.Proofs.YtgpgkpciajajcaaGreatDoor

/- The document's own calls of layer 2: texts, frames. -/
namespace Go.Proofs.YtgpgkpciajajcaaGreatDoor
open Go.RowKit

theorem conv_rd (w : World) (a : Option Addr) (zs : List Int) (L cap : Nat) (hr : Rd w a zs) (hL : zs.length = L) : (convert 37 9 (.slice a L cap)).run Tryz.prog w = .ok (.string (strOfNums zs)) w := by
  subst hL
  cases a with
  | none =>
    obtain rfl := hr.none
    rw [run_convert_bytes_nil w 37 5 Tryz.underlying37 Tryz.underlying5 _ _ 9 Tryz.underlying9]
    rfl
  | some ad =>
    rcases hr.1 with rfl | ⟨b, off, e, hc⟩
    · rw [show ([] : List Int).length = ([] : List UInt8).length from rfl, run_convert_bytes_back w 37 9 5 ad cap [] Tryz.underlying37 Tryz.underlying5 Tryz.underlying9 (by intro j hj; simp at hj)]
      rfl
    · obtain rfl := Option.some.inj e
      exact run_convert_bytes_arg w 37 5 Tryz.underlying37 Tryz.underlying5 b off zs.length cap zs rfl hc 9 Tryz.underlying9

theorem strOfNums_inj {xs ys : List Int} (hx : ∀ z ∈ xs, 0 ≤ z ∧ z ≤ 255) (hy : ∀ z ∈ ys, 0 ≤ z ∧ z ≤ 255) (h : (strOfNums xs).data.toList = (strOfNums ys).data.toList) : xs = ys := by
  rw [strOfNums_data, strOfNums_data] at h
  have hl : xs.length = ys.length := by simpa using congrArg List.length h
  refine List.ext_getElem hl fun i h1 h2 => ?_
  have e := congrArg (fun l => l[i]?) h
  simp only [List.getElem?_map, List.getElem?_eq_getElem h1, List.getElem?_eq_getElem h2, Option.map_some, Option.some.injEq] at e
  have e2 := congrArg UInt8.toNat e
  have bx := hx _ (List.getElem_mem h1)
  have bY := hy _ (List.getElem_mem h2)
  simp only [UInt8.toNat_ofNat'] at e2
  omega

def four (c : Int) : List Int := [c / 16777216, c / 65536 % 256, c / 256 % 256, c % 256]
theorem four_byte (c : Int) (h : 0 ≤ c ∧ c ≤ 4294967295) : ∀ z ∈ four c, 0 ≤ z ∧ z ≤ 255 := by
  intro z hz
  simp [four] at hz
  omega

end Go.Proofs.YtgpgkpciajajcaaGreatDoor

/- The document's own Frame, Int, Text. -/
namespace Go.Proofs.YtgpgkpciajajcaaGreatDoor
open Go.RowKit
set_option linter.unusedVariables false

def frameR (zs : List Int) : List Int := enc zs.length ++ four (sumR zs) ++ zs

/-- What a number that is read is good for. -/
theorem URel.ok {zs : List Int} {p : Nat} {r1 r2 : Int} (hz : ∀ k, 0 ≤ zs.getD k 0 ∧ zs.getD k 0 ≤ 255) : ∀ (n i : Nat) (v : Int), 9 - i = n → i ≤ 9 → 0 ≤ v → v < 2 ^ (7 * i) → URel zs p i v r1 r2 0 → (p : Int) + i < r2 ∧ r2 ≤ zs.length ∧ 0 ≤ r1 ∧ r1 ≤ 18446744073709551615 := by
  intro n
  induction n with
  | zero =>
    intro i v hn hi hv0 hv h
    have hl : p + i < zs.length := by
      by_cases hl : p + i < zs.length
      · exact hl
      · have := h.over hi (by omega); omega
    by_cases hf : i = 9 ∧ 1 < zs.getD (p + i) 0 ∨ 0 < i ∧ zs.getD (p + i) 0 = 0
    · have := h.form hi hl hf; omega
    · have hc : zs.getD (p + i) 0 < 128 := by omega
      have hd := h.done hi hl hf hc
      have ho := or7 v (zs.getD (p + i) 0) i hv0 hv hi (hz _) (fun h9 => by omega)
      have hp : (0 : Int) < 2 ^ (7 * i) := Int.pow_pos (by decide)
      have hm := Int.mul_nonneg (show 0 ≤ zs.getD (p + i) 0 % 128 by omega) (Int.le_of_lt hp)
      omega
  | succ n ih =>
    intro i v hn hi hv0 hv h
    have hl : p + i < zs.length := by
      by_cases hl : p + i < zs.length
      · exact hl
      · have := h.over hi (by omega); omega
    by_cases hf : i = 9 ∧ 1 < zs.getD (p + i) 0 ∨ 0 < i ∧ zs.getD (p + i) 0 = 0
    · have := h.form hi hl hf; omega
    · have ho := or7 v (zs.getD (p + i) 0) i hv0 hv hi (hz _) (fun h9 => by omega)
      have hp : (0 : Int) < 2 ^ (7 * i) := Int.pow_pos (by decide)
      have hm := Int.mul_nonneg (show 0 ≤ zs.getD (p + i) 0 % 128 by omega) (Int.le_of_lt hp)
      by_cases hc : zs.getD (p + i) 0 < 128
      · have hd := h.done hi hl hf hc
        omega
      · have hs := h.step hi hl hf hc
        have := ih (i + 1) _ (by omega) (by omega) (by omega) (ho.2.2 (by omega)) hs
        omega
theorem ud_ok {zs : List Int} {p : Nat} {r1 r2 : Int} (hz : ∀ k, 0 ≤ zs.getD k 0 ∧ zs.getD k 0 ≤ 255) (h : ud zs p 10 0 0 = (r1, r2, 0)) : (p : Int) < r2 ∧ r2 ≤ zs.length ∧ 0 ≤ r1 ∧ r1 ≤ 18446744073709551615 := by
  have := URel.ok (p := p) hz 9 0 0 rfl (by omega) (by omega) (by decide) h
  simpa using this

theorem uintR_ok {zs : List Int} {p r1 r2 : Int} (hz : ∀ k, 0 ≤ zs.getD k 0 ∧ zs.getD k 0 ≤ 255) (h : uintR zs p = (r1, r2, 0)) : 0 ≤ p ∧ p < r2 ∧ r2 ≤ zs.length ∧ 0 ≤ r1 ∧ r1 ≤ 18446744073709551615 := by
  unfold uintR at h
  split at h
  · simp at h
  · have := ud_ok hz h
    omega

/-- The signed number that a number stands for. -/
def unzz (v : Int) : Int := if v % 2 = 0 then v / 2 else -(v / 2) - 1
def intR (zs : List Int) (p : Int) : Int × Int × Int := if (uintR zs p).2.2 = 0 then (unzz (uintR zs p).1, (uintR zs p).2.1, 0) else (0, 0, (uintR zs p).2.2)

end Go.Proofs.YtgpgkpciajajcaaGreatDoor

/- The document's own Text and Unframe. -/
namespace Go.Proofs.YtgpgkpciajajcaaGreatDoor
open Go.RowKit

theorem rd_window {w : World} {b off : Nat} {zs : List Int} (hc : ∀ i, i < zs.length → w.cell? ⟨b, off + i, none⟩ = some (.int .u8 (zs.getD i 0))) (hz : ∀ z ∈ zs, 0 ≤ z ∧ z ≤ 255) (k n : Nat) (h : k + n ≤ zs.length) :
    Rd w (some ⟨b, off + k, none⟩) ((zs.drop k).take n) ∧ ((zs.drop k).take n).length = n := by
  have hl : ((zs.drop k).take n).length = n := by simp; omega
  refine ⟨⟨.inr ⟨b, off + k, rfl, fun i hi => ?_⟩, fun z hm => hz z (List.mem_of_mem_drop (List.mem_of_mem_take hm))⟩, hl⟩
  rw [hl] at hi
  rw [Nat.add_assoc, hc (k + i) (by omega)]
  simp [List.getD_eq_getElem?_getD, hi]

def textR (zs : List Int) (p : Int) : ByteArray × Int × Int :=
  if (uintR zs p).2.2 = 0 then
    if (zs.length : Int) - (uintR zs p).2.1 < (uintR zs p).1 then (⟨#[]⟩, 0, 20)
    else (strOfNums ((zs.drop (uintR zs p).2.1.toNat).take (uintR zs p).1.toNat), (uintR zs p).2.1 + (uintR zs p).1, 0)
  else (⟨#[]⟩, 0, (uintR zs p).2.2)

end Go.Proofs.YtgpgkpciajajcaaGreatDoor

