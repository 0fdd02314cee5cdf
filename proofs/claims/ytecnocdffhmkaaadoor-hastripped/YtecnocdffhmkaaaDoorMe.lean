/- Several texts in one: Rname, Rchar, Rcheck, Renc, Eenc. -/
import Derived.Test.YtecnocdffhmkaaaDoorMd
import Derived.Test.YtecnocdffhmkaaaDoorMb
import Derived.Test.YtecnocdffhmkaaaDoorMc
/- The document's own Name, Valid, Check. -/
namespace Go.Proofs.YtecnocdffhmkaaaDoor
set_option maxRecDepth 20000
open Go.RowKit
set_option linter.unusedVariables false

/-- The byte at a place of a text. -/
def byteAt (s : ByteArray) (i : Nat) : Int := (sInts s).getD i 0
theorem byteAt_eq (s : ByteArray) (i : Nat) (hi : i < s.size) : (s[i].toNat : Int) = byteAt s i := by
  unfold byteAt sInts
  rw [List.getD_eq_getElem?_getD, List.getElem?_map]
  have h : s.data.toList[i]? = some s[i] := by
    rw [Array.getElem?_toList]
    exact Array.getElem?_eq_getElem hi
  rw [h]
  rfl
theorem byteAt_bd (s : ByteArray) (i : Nat) : 0 ≤ byteAt s i ∧ byteAt s i ≤ 255 := by
  unfold byteAt
  rw [List.getD_eq_getElem?_getD]
  cases h : (sInts s)[i]? with
  | none => simp
  | some z => exact sInts_byte s z (List.mem_of_getElem? h)
theorem idx9 (s : ByteArray) (i : Nat) (hi : i < s.size) (w : World) : (Instr.index 9 (.string s) (.int .i64 (i : Int))).run Tryd.prog w = .ok (.int .u8 (byteAt s i)) w := by
  rw [run_index_string w 9 s .i64 (i : Int) Tryd.underlying9]
  simp [hi, byteAt_eq s i hi]
def nameB (c : Int) : Bool := decide (65 ≤ c) && decide (c ≤ 90) || decide (97 ≤ c) && decide (c ≤ 122) || decide (48 ≤ c) && decide (c ≤ 57) || decide (c = 95)
def nameR (s : ByteArray) : Bool := decide (0 < s.size) && decide (s.size ≤ 64) && !(decide (48 ≤ byteAt s 0) && decide (byteAt s 0 ≤ 57)) && (sInts s).all nameB
def NameAt (s : ByteArray) (k : Nat) (R : Bool) : Prop := ((sInts s).drop k).all nameB = R
theorem NameAt.next {s : ByteArray} {k : Nat} {R : Bool} (h : NameAt s k R) (hk : k < s.size) : (nameB (byteAt s k) && ((sInts s).drop (k + 1)).all nameB) = R := by
  unfold NameAt at h
  have hl : k < (sInts s).length := by rw [sInts_len]; exact hk
  rw [List.drop_eq_getElem_cons hl, List.all_cons] at h
  have : byteAt s k = (sInts s)[k] := by
    unfold byteAt
    rw [List.getD_eq_getElem?_getD, List.getElem?_eq_getElem hl]
    rfl
  rw [this]
  exact h

end Go.Proofs.YtecnocdffhmkaaaDoor

/- The document's own char. -/
namespace Go.Proofs.YtecnocdffhmkaaaDoor
open Go.RowKit
set_option linter.unusedVariables false

theorem and_mask (b : Int) (k : Nat) (h0 : 0 ≤ b) (h1 : b ≤ 255) (hk : k ≤ 8) : bits .and .u8 b ((2 ^ k - 1 : Nat) : Int) = b % ((2 ^ k : Nat) : Int) := by
  have hp : 2 ^ k ≤ 256 := Nat.pow_le_pow_right (by decide) hk
  rw [u8_and b _ h0 (by omega) (by omega) (by omega), Int.toNat_natCast, Nat.and_two_pow_sub_one_eq_mod]
  obtain ⟨B, rfl⟩ := Int.eq_ofNat_of_zero_le h0
  rw [Int.toNat_natCast, Int.natCast_emod]
theorem and31 (b : Int) (h : 0 ≤ b ∧ b ≤ 255) : bits .and .u8 b 31 = b % 32 := and_mask b 5 h.1 h.2 (by decide)
theorem and15 (b : Int) (h : 0 ≤ b ∧ b ≤ 255) : bits .and .u8 b 15 = b % 16 := and_mask b 4 h.1 h.2 (by decide)
theorem and7 (b : Int) (h : 0 ≤ b ∧ b ≤ 255) : bits .and .u8 b 7 = b % 8 := and_mask b 3 h.1 h.2 (by decide)
theorem and63 (b : Int) (h : 0 ≤ b ∧ b ≤ 255) : bits .and .u8 b 63 = b % 64 := and_mask b 6 h.1 h.2 (by decide)
set_option maxRecDepth 100000 in
theorem and192 (b : Int) (h : 0 ≤ b ∧ b ≤ 255) : bits .and .u8 b 192 = b / 64 * 64 := by
  rw [u8_and b 192 h.1 (by omega) (by decide) (by decide)]
  have key : ∀ V : Fin 256, V.val &&& 192 = V.val / 64 * 64 := by decide
  have := key ⟨b.toNat, by omega⟩
  simp only at this
  rw [show (192 : Int).toNat = 192 from rfl, this]
  omega

def cont (s : ByteArray) (p : Nat) : Nat → Nat → Int → Option Int
  | 0, _, v => some v
  | m + 1, i, v => if byteAt s (p + i) / 64 = 2 then cont s p m (i + 1) (v * 64 + byteAt s (p + i) % 64) else none
def fin (n least v : Int) : Int := if v < least ∨ 1114111 < v ∨ 55296 ≤ v ∧ v ≤ 57343 then 0 else n
def fini (n least : Int) : Option Int → Int
  | none => 0
  | some v => fin n least v
def multi (s : ByteArray) (p n : Nat) (least v : Int) : Int := if s.size < p + n then 0 else fini n least (cont s p (n - 1) 1 v)
def charR (s : ByteArray) (p : Nat) : Int :=
  if byteAt s p < 128 then 1
  else if 192 ≤ byteAt s p ∧ byteAt s p < 224 then multi s p 2 128 (byteAt s p % 32)
  else if 224 ≤ byteAt s p ∧ byteAt s p < 240 then multi s p 3 2048 (byteAt s p % 16)
  else if 240 ≤ byteAt s p ∧ byteAt s p < 248 then multi s p 4 65536 (byteAt s p % 8)
  else 0
def ContAt (s : ByteArray) (p n : Nat) (least : Int) (i : Nat) (v R : Int) : Prop := fini n least (cont s p (n - i) i v) = R
theorem ContAt.next {s : ByteArray} {p n i : Nat} {least v R : Int} (h : ContAt s p n least i v R) (hi : i < n) : (if byteAt s (p + i) / 64 = 2 then fini n least (cont s p (n - (i + 1)) (i + 1) (v * 64 + byteAt s (p + i) % 64)) else 0) = R := by
  unfold ContAt at h
  rw [show n - i = (n - (i + 1)) + 1 by omega, cont] at h
  split at h
  · rw [if_pos (by assumption)]; exact h
  · rw [if_neg (by assumption)]; exact h



theorem fini_bd (n least : Int) (hn : 0 ≤ n ∧ n ≤ 4) (o : Option Int) : 0 ≤ fini n least o ∧ fini n least o ≤ 4 := by
  cases o with
  | none => simp [fini]
  | some v => simp only [fini, fin]; split <;> omega
theorem multi_bd (s : ByteArray) (p n : Nat) (least v : Int) (hn : n ≤ 4) : 0 ≤ multi s p n least v ∧ multi s p n least v ≤ 4 := by
  unfold multi
  split
  · omega
  · exact fini_bd _ _ (by omega) _
theorem charR_bd (s : ByteArray) (p : Nat) : 0 ≤ charR s p ∧ charR s p ≤ 4 := by
  unfold charR
  split
  · omega
  · split
    · exact multi_bd _ _ _ _ _ (by omega)
    · split
      · exact multi_bd _ _ _ _ _ (by omega)
      · split
        · exact multi_bd _ _ _ _ _ (by omega)
        · omega
def vfrom (s : ByteArray) (p : Nat) : Bool :=
  if h : p < s.size ∧ 0 < charR s p then vfrom s (p + (charR s p).toNat) else decide (s.size ≤ p)
termination_by s.size - p
decreasing_by omega
def validR (s : ByteArray) : Bool := decide (0 < s.size) && decide (s.size ≤ 256) && vfrom s 0

end Go.Proofs.YtecnocdffhmkaaaDoor

/- The document's own Check. -/
namespace Go.Proofs.YtecnocdffhmkaaaDoor
set_option maxRecDepth 20000
open Go.RowKit
set_option linter.unusedVariables false

def sortB : Option ByteArray → ByteArray → Bool
  | none, _ => false
  | some q, n => leB n q
def chk : Option ByteArray → List Lab → Int
  | _, [] => 0
  | prev, p :: r => if nameR p.1 = false then 31 else if validR p.2 = false then 32 else if sortB prev p.1 = true then 33 else chk (some p.1) r
def checkR (ls : List Lab) : Int := if 16 < ls.length then 30 else chk none ls
def prevOf (ls : List Lab) (k : Nat) : Option ByteArray := if k = 0 then none else (ls[k - 1]?).map (·.1)
def ChkAt (ls : List Lab) (k : Nat) (R : Int) : Prop := chk (prevOf ls k) (ls.drop k) = R
theorem ChkAt.next {ls : List Lab} {k : Nat} {R : Int} {p : Lab} (h : ChkAt ls k R) (hp : ls[k]? = some p) : (if nameR p.1 = false then 31 else if validR p.2 = false then 32 else if sortB (prevOf ls k) p.1 = true then 33 else chk (some p.1) (ls.drop (k + 1))) = R := by
  unfold ChkAt at h
  obtain ⟨h1, h2⟩ := List.getElem?_eq_some_iff.1 hp
  rw [List.drop_eq_getElem_cons h1, h2, chk] at h
  exact h
theorem prevOf_next {ls : List Lab} {k : Nat} {p : Lab} (hp : ls[k]? = some p) : prevOf ls (k + 1) = some p.1 := by
  unfold prevOf
  rw [if_neg (by omega), Nat.add_sub_cancel, hp]
  rfl

end Go.Proofs.YtecnocdffhmkaaaDoor

/- The document's own Encode, Hash. -/
namespace Go.Proofs.YtecnocdffhmkaaaDoor
set_option maxRecDepth 20000
open Go.RowKit
set_option linter.unusedVariables false

def fnv1 (h z : Int) : Int := bits .xor .u32 h z * 16777619 % 4294967296
def fnvR (zs : List Int) : Int := zs.foldl fnv1 2166136261
def FnvAt (zs : List Int) (k : Nat) (h R : Int) : Prop := (zs.drop k).foldl fnv1 h = R
theorem r_fnv (a : Option Addr) (zs : List Int) (L cap : Nat) (R : Int) (w : World) (hr : Rd w a zs) (hL : zs.length = L) (hz : (L : Int) ≤ 140737488355328) (hR : fnvR zs = R) :
    Calls Tryd.prog 65 #[.slice a L cap] w fun e w' => e = .returned (.int .u32 R) ∧ w = w' := by
  have HR : Hid (Rd w a zs) := hr
  have HL : Hid (zs.length = L) := hL
  have H0 : Hid (FnvAt zs 0 2166136261 R) := hR
  clear hr hL hR
  go_enter Tryd.func65, Tryd.ntmps65
  go_wp2
  go_loop [3, 4] (fun t3 t4 => ∃ (j : Nat) (h : Int), j ≤ L ∧ t3 = .int .u32 h ∧ t4 = .int .i64 j ∧ 0 ≤ h ∧ h ≤ 4294967295 ∧ FnvAt zs j h R) (fun _ t4 => L - (intOf t4).toNat)
  case atStart => exact ⟨0, 2166136261, Nat.zero_le _, rfl, rfl, by omega, by omega, H0.out⟩
  case round =>
    obtain ⟨j, h, hj, rfl, rfl, h0, h1, hf⟩ := hrel
    have HF : Hid (FnvAt zs j h R) := hf
    clear hf H0
    by_cases hlt : j < L
    · have hl := HL.out
      obtain ⟨b, off, rfl, hc⟩ := HR.out.at (by omega)
      have hcell := hc j (by omega)
      have hby := HR.out.byte j
      have HN : Hid (FnvAt zs (j + 1) (fnv1 h (zs.getD j 0)) R) := by
        have hh := HF.out
        unfold FnvAt at hh ⊢
        rw [List.drop_eq_getElem_cons (by omega : j < zs.length), List.foldl_cons] at hh
        have e : zs.getD j 0 = zs[j] := by rw [List.getD_eq_getElem?_getD, List.getElem?_eq_getElem (by omega)]; rfl
        rw [e]
        exact hh
      generalize zs.getD j 0 = z at hcell hby HN
      have hxb := xor32_bd h z ⟨h0, h1⟩ (by omega)
      unfold fnv1 at HN
      clear hc hl
      go_wp2
      go_round
      case rel => exact ⟨j + 1, bits .xor .u32 h z * 16777619 % 4294967296, by omega, rfl, by go_num, by omega, by omega, HN.out⟩
      case measure => simp [intOf]; omega
    · have HS : Hid (h = R) := by
        have hh := HF.out
        unfold FnvAt at hh
        rw [List.drop_eq_nil_of_le (by have := HL.out; omega), List.foldl_nil] at hh
        exact hh
      go_wp2
      go_ret
      exact ⟨ret_int HS.out, rfl⟩

def encL (p : Lab) : List Int := enc p.1.size ++ sInts p.1 ++ enc p.2.size ++ sInts p.2
def encR (ls : List Lab) : List Int := enc ls.length ++ ls.flatMap encL
def EncAt (ls : List Lab) (k : Nat) (zk : List Int) : Prop := zk = enc ls.length ++ (ls.take k).flatMap encL
theorem EncAt.next {ls : List Lab} {k : Nat} {zk : List Int} {p : Lab} (h : EncAt ls k zk) (hp : ls[k]? = some p) : EncAt ls (k + 1) (zk ++ enc p.1.size ++ sInts p.1 ++ enc p.2.size ++ sInts p.2) := by
  unfold EncAt at h ⊢
  rw [h, List.take_add_one, hp]
  simp [encL]
theorem EncAt.le {ls : List Lab} {k : Nat} {zk : List Int} (h : EncAt ls k zk) : zk.length ≤ (encR ls).length := by
  unfold EncAt at h
  have e : encR ls = enc ls.length ++ ((ls.take k).flatMap encL ++ (ls.drop k).flatMap encL) := by
    unfold encR
    rw [← List.flatMap_append, List.take_append_drop]
  rw [h, e]
  simp only [List.length_append]
  omega

set_option maxHeartbeats 2000000 in
theorem r_encode (a : Option Addr) (ls : List Lab) (L c : Nat) (w : World) (hx : SRd labE w a ls) (hL : ls.length = L) (hz : L ≤ 4398046511104) (hB : (encR ls).length ≤ 140737488354000) :
    Calls Tryd.prog 66 #[.slice a L c] w fun e w' => ∃ g c N, e = .returned (.slice (some ⟨g, 0, none⟩) N c) ∧ Own w' w.heap.size g N c (encR ls) ∧ w.grownBy w' none := by
  have HX : Hid (SRd labE w a ls) := hx
  have HL : Hid (ls.length = L) := hL
  have HBB : Hid ((encR ls).length ≤ 140737488354000) := hB
  have HP := rputuint none [] 0 0 (L : Int) w ⟨.inl rfl, by simp⟩ rfl (fun _ => rfl) (by omega) (by omega)
  rw [Int.toNat_natCast, List.nil_append] at HP
  have HPP : Hid (Calls Tryd.prog 61 #[.slice none 0 0, .int .u64 (L : Int)] w fun e w' => ∃ g c N, e = .returned (.slice (some ⟨g, 0, none⟩) N c) ∧ Own w' w.heap.size g N c (enc L) ∧ w.grownBy w' none) := HP
  have HE0 : Hid (EncAt ls 0 (enc L)) := by show _ = _; rw [hL]; simp
  have HEE : Hid (∀ zk, EncAt ls L zk → zk = encR ls) := by
    intro zk h
    unfold EncAt at h
    rw [h, List.take_of_length_le (by omega)]
    rfl
  generalize encR ls = Y at HBB HEE ⊢
  have HLE : Hid (∀ k zk, EncAt ls k zk → zk.length ≤ 140737488354000) := fun k zk h => Nat.le_trans h.le hB
  clear hx hL hB HP
  go_enter Tryd.func66, Tryd.ntmps66
  go_wp2_with fail
  refine HPP.out.mono ?_
  rintro e w1 ⟨g1, c1, N1, rfl, ho1, hg1⟩
  have HO1 : Hid (Own w1 w.heap.size g1 N1 c1 (enc L)) := ho1
  have HG1 : Hid (w.grownBy w1 none) := hg1
  clear ho1 hg1 HPP
  go_wp2
  go_loopw [3, 4] (fun t3 t4 wr => ∃ (k g cc N : Nat) (zk : List Int), k ≤ L ∧ t4 = .int .i64 k ∧ t3 = .slice (some ⟨g, 0, none⟩) N cc ∧ Own wr w.heap.size g N cc zk ∧ EncAt ls k zk ∧ w.grownBy wr none) (fun _ t4 _ => L - (intOf t4).toNat)
  case atStart => exact ⟨0, g1, c1, N1, enc L, Nat.zero_le _, rfl, rfl, HO1.out, HE0.out, HG1.out⟩
  case round =>
    obtain ⟨k, g, cc, N, zk, hk, rfl, rfl, ho, he, hg⟩ := hrel
    have HO : Hid (Own wr w.heap.size g N cc zk) := ho
    have HE : Hid (EncAt ls k zk) := he
    have HG : Hid (w.grownBy wr none) := hg
    clear ho he hg HO1 HG1 HE0
    by_cases hlt : k < L
    · have hl := HL.out
      obtain ⟨b, off, rfl, hc⟩ := HX.out.at (by omega)
      obtain ⟨⟨s1, s2⟩, ex⟩ : ∃ x, ls[k]? = some x := ⟨_, List.getElem?_eq_getElem (by omega)⟩
      have a0 : wr.cell? ⟨b, off + k * 2, none⟩ = some (.string s1) := HG.out.cell (hc k _ 0 _ ex rfl) (by simp)
      have a1 : wr.cell? ⟨b, off + k * 2 + 1, none⟩ = some (.string s2) := by rw [Nat.add_assoc]; exact HG.out.cell (hc k _ 1 _ ex rfl) (by simp)
      have HN : Hid (EncAt ls (k + 1) (zk ++ enc s1.size ++ sInts s1 ++ enc s2.size ++ sInts s2)) := HE.out.next ex
      have hlen := HLE.out _ _ HN.out
      simp only [List.length_append, sInts_len] at hlen
      have HB1 : Hid (N + s1.size ≤ 140737488355000) := by show _ ≤ _; have := HO.out.len; omega
      have HB2 : Hid ((zk ++ enc s1.size ++ sInts s1).length + s2.size ≤ 140737488355000) := by show _ ≤ _; simp only [List.length_append, sInts_len]; omega
      have hki : (k : Int) < (L : Int) := by omega
      clear hc ex hl hlen
      go_wp2
      refine wp_region_held_drew (S := fun w' => wr.grownBy w' none) (by kernel_rfl) (gb_drew (World.grownBy.refl wr none)) (fun hSS => ?_)
      refine draw_takeS 0 (v := ?_) rfl (by kernel_rfl) (by kernel_rfl) (by kernel_rfl) (fun _ _ _ h => h) (by rfl) hSS ?_ ?_
      rotate_left
      · intro w hS; have c0 := hS.cell a0 (by simp); have c1 := hS.cell a1 (by simp); go_simp; try with_reducible rfl
      try simp only [Act.put, List.setIfInBounds_toArray, List.set_cons_zero, List.set_cons_succ]
      refine draw_takeS 1 (v := ?_) rfl (by kernel_rfl) (by kernel_rfl) (by kernel_rfl) (fun _ _ _ h => h) (by rfl) hSS ?_ ?_
      rotate_left
      · intro w hS; have c0 := hS.cell a0 (by simp); have c1 := hS.cell a1 (by simp); go_simp; try with_reducible rfl
      try simp only [Act.put, List.setIfInBounds_toArray, List.set_cons_zero, List.set_cons_succ]
      refine draw_takeS 2 (v := ?_) rfl (by kernel_rfl) (by kernel_rfl) (by kernel_rfl) (fun _ _ _ h => h) (by rfl) hSS ?_ ?_
      rotate_left
      · intro w hS; have c0 := hS.cell a0 (by simp); have c1 := hS.cell a1 (by simp); go_simp; try with_reducible rfl
      try simp only [Act.put, List.setIfInBounds_toArray, List.set_cons_zero, List.set_cons_succ]
      refine draw_takeS 3 (v := ?_) rfl (by kernel_rfl) (by kernel_rfl) (by kernel_rfl) (fun _ _ _ h => h) (by rfl) hSS ?_ ?_
      rotate_left
      · intro w hS; have c0 := hS.cell a0 (by simp); have c1 := hS.cell a1 (by simp); go_simp; try with_reducible rfl
      try simp only [Act.put, List.setIfInBounds_toArray, List.set_cons_zero, List.set_cons_succ]
      refine draw_takeS 4 (v := ?_) rfl (by kernel_rfl) (by kernel_rfl) (by kernel_rfl) (fun _ _ _ h => h) (by rfl) hSS ?_ ?_
      rotate_left
      · intro w hS; have c0 := hS.cell a0 (by simp); have c1 := hS.cell a1 (by simp); go_simp; try with_reducible rfl
      try simp only [Act.put, List.setIfInBounds_toArray, List.set_cons_zero, List.set_cons_succ]
      refine draw_takeS 5 (v := ?_) rfl (by kernel_rfl) (by kernel_rfl) (by kernel_rfl) (fun _ _ _ h => h) (by rfl) hSS ?_ ?_
      rotate_left
      · intro w hS; have c0 := hS.cell a0 (by simp); have c1 := hS.cell a1 (by simp); go_simp; try with_reducible rfl
      try simp only [Act.put, List.setIfInBounds_toArray, List.set_cons_zero, List.set_cons_succ]
      refine draw_takeS 7 (v := ?_) rfl (by kernel_rfl) (by kernel_rfl) (by kernel_rfl) (fun _ _ _ h => h) (by rfl) hSS ?_ ?_
      rotate_left
      · intro w hS; have c0 := hS.cell a0 (by simp); have c1 := hS.cell a1 (by simp); go_simp; try with_reducible rfl
      try simp only [Act.put, List.setIfInBounds_toArray, List.set_cons_zero, List.set_cons_succ]
      refine draw_takeS 8 (v := ?_) rfl (by kernel_rfl) (by kernel_rfl) (by kernel_rfl) (fun _ _ _ h => h) (by rfl) hSS ?_ ?_
      rotate_left
      · intro w hS; have c0 := hS.cell a0 (by simp); have c1 := hS.cell a1 (by simp); go_simp; try with_reducible rfl
      try simp only [Act.put, List.setIfInBounds_toArray, List.set_cons_zero, List.set_cons_succ]
      refine draw_takeS 9 (v := ?_) rfl (by kernel_rfl) (by kernel_rfl) (by kernel_rfl) (fun _ _ _ h => h) (by rfl) hSS ?_ ?_
      rotate_left
      · intro w hS; have c0 := hS.cell a0 (by simp); have c1 := hS.cell a1 (by simp); go_simp; try with_reducible rfl
      try simp only [Act.put, List.setIfInBounds_toArray, List.set_cons_zero, List.set_cons_succ]
      refine draw_takeS 10 (v := ?_) rfl (by kernel_rfl) (by kernel_rfl) (by kernel_rfl) (fun _ _ _ h => h) (by rfl) hSS ?_ ?_
      rotate_left
      · intro w hS; have c0 := hS.cell a0 (by simp); have c1 := hS.cell a1 (by simp); go_simp; try with_reducible rfl
      try simp only [Act.put, List.setIfInBounds_toArray, List.set_cons_zero, List.set_cons_succ]
      refine draw_takeS 11 (v := ?_) rfl (by kernel_rfl) (by kernel_rfl) (by kernel_rfl) (fun _ _ _ h => h) (by rfl) hSS ?_ ?_
      rotate_left
      · intro w hS; have c0 := hS.cell a0 (by simp); have c1 := hS.cell a1 (by simp); go_simp; try with_reducible rfl
      try simp only [Act.put, List.setIfInBounds_toArray, List.set_cons_zero, List.set_cons_succ]
      refine draw_oneS 6 rfl (by kernel_rfl) (by rfl) (fun K hK => ?_)
      go_simp
      refine (rputtext (some ⟨g, 0, none⟩) zk N cc s1 _ (HO.out.rd.grown hSS (by simp)) HO.out.len (by simp) HB1.out).mono ?_
      rintro e w2 ⟨g2, c2, N2, rfl, ho2, hg2⟩
      have HO2 : Hid (Own w2 wr.heap.size g2 N2 c2 (zk ++ enc s1.size ++ sInts s1)) := ho2
      have hSS2 := hSS.trans hg2
      clear hSS ho2 hg2
      have hSS := hSS2
      clear hSS2
      refine hK.out _ _ hSS ?_
      clear hK K
      try simp only [Act.put, List.setIfInBounds_toArray, List.set_cons_zero, List.set_cons_succ]
      refine draw_oneS 12 rfl (by kernel_rfl) (by rfl) (fun K hK => ?_)
      go_simp
      refine (rputtext (some ⟨g2, 0, none⟩) _ N2 c2 s2 _ HO2.out.rd HO2.out.len (by simp) (by have h1 := HO2.out.len; have h2 := HB2.out; omega)).mono ?_
      rintro e w3 ⟨g3, c3, N3, rfl, ho3, hg3⟩
      have HO3 : Hid (Own w3 w.heap.size g3 N3 c3 (zk ++ enc s1.size ++ sInts s1 ++ enc s2.size ++ sInts s2)) := ho3.base (Nat.le_trans HG.out.size hSS.size)
      have hSS2 := hSS.trans hg3
      clear hSS ho3 hg3 HO2
      have hSS := hSS2
      clear hSS2
      refine hK.out _ _ hSS ?_
      clear hK K
      try simp only [Act.put, List.setIfInBounds_toArray, List.set_cons_zero, List.set_cons_succ]
      refine draw_takeS 13 (v := ?_) rfl (by kernel_rfl) (by kernel_rfl) (by kernel_rfl) (fun _ _ _ h => h) (by rfl) hSS ?_ ?_
      rotate_left
      · intro w hS; go_simp; try with_reducible rfl
      try simp only [Act.put, List.setIfInBounds_toArray, List.set_cons_zero, List.set_cons_succ]
      refine wpAnyH_done (by kernel_rfl) ?_ _
      go_wp2
      go_roundw
      case rel => exact ⟨k + 1, g3, c3, N3, _, by omega, by go_num, rfl, HO3.out, HN.out, HG.out.trans hSS⟩
      case measure => simp [intOf]; omega
    · obtain rfl : k = L := by omega
      have HY : Hid (zk = Y) := HEE.out zk HE.out
      have hki : ¬ (k : Int) < (k : Int) := by omega
      go_wp2
      go_ret
      exact ⟨g, cc, N, rfl, by rw [← HY.out]; exact HO.out, HG.out⟩
theorem r_hash (a : Option Addr) (ls : List Lab) (L c : Nat) (R : Int) (w : World) (hx : SRd labE w a ls) (hL : ls.length = L) (hz : L ≤ 4398046511104) (hB : (encR ls).length ≤ 140737488354000) (hR : fnvR (encR ls) = R) :
    Calls Tryd.prog 48 #[.slice a L c] w fun e w' => e = .returned (.int .u32 R) ∧ w.grownBy w' none := by
  have HE := r_encode a ls L c w hx hL hz hB
  have HB : Hid ((encR ls).length ≤ 140737488354000) := hB
  have HR : Hid (fnvR (encR ls) = R) := hR
  generalize encR ls = Y at HE HB HR
  clear hx hL hB hR
  go_enter Tryd.func48, Tryd.ntmps48
  go_wp2_with fail
  refine HE.mono ?_
  rintro e w1 ⟨g, cc, N, rfl, ho, hg⟩
  have HG : Hid (w.grownBy w1 none) := hg
  have HC : Hid (Calls Tryd.prog 65 #[.slice (some ⟨g, 0, none⟩) N cc] w1 fun e w' => e = .returned (.int .u32 R) ∧ w1 = w') := r_fnv _ Y N cc R w1 ho.rd ho.len (by have := ho.len; have := HB.out; omega) HR.out
  clear ho hg
  go_wp2_with fail
  refine HC.out.mono ?_
  rintro e w2 ⟨rfl, rfl⟩
  go_wp2
  go_ret
  exact ⟨rfl, HG.out⟩
end Go.Proofs.YtecnocdffhmkaaaDoor

/- The program's own Encode, Hash. -/
namespace Go.Proofs.YtecnocdffhmkaaaDoor
set_option maxRecDepth 20000
open Go.RowKit
set_option linter.unusedVariables false

theorem one_text (s : ByteArray) (w : World) (hz : s.size ≤ 140737488355000) :
    Calls Tryd.prog 43 #[.slice none 0 0, .string s] w fun e w' => ∃ g c N, e = .returned (.slice (some ⟨g, 0, none⟩) N c) ∧ Own w' w.heap.size g N c (enc s.size ++ sInts s) ∧ w.grownBy w' none := by
  have h := f_puttext none [] 0 0 s w ⟨.inl rfl, by simp⟩ rfl (fun _ => rfl) (by omega)
  rwa [List.nil_append] at h
theorem lab_cells (w : World) (p : Lab) : (w.alloc (.cells #[.string p.1, .string p.2] 63)).cell? ⟨w.heap.size, 0, none⟩ = some (.string p.1) ∧ (w.alloc (.cells #[.string p.1, .string p.2] 63)).cell? ⟨w.heap.size, 1, none⟩ = some (.string p.2) := by
  constructor
  · rw [cell_of_row _ w.heap.size 0 _ _ _ (heap_alloc_new w _)]; rfl
  · rw [cell_of_row _ w.heap.size 1 _ _ _ (heap_alloc_new w _)]; rfl

set_option maxHeartbeats 2000000 in
theorem f_encode (a : Option Addr) (ls : List Lab) (L c : Nat) (Y : List Int) (w : World) (hx : SRd labE w a ls) (hL : ls.length = L) (hz : L ≤ 4398046511104) (hB : (encR ls).length ≤ 140737488354000) (hY : encR ls = Y) :
    Calls Tryd.prog 63 #[.slice a L c] w fun e w' => ∃ g c N, e = .returned (.slice (some ⟨g, 0, none⟩) N c) ∧ Own w' w.heap.size g N c Y ∧ w.grownBy w' none := by
  subst hY
  have HX : Hid (SRd labE w a ls) := hx
  have HL : Hid (ls.length = L) := hL
  have HBB : Hid ((encR ls).length ≤ 140737488354000) := hB
  have HP := f_putuint none [] 0 0 (L : Int) w ⟨.inl rfl, by simp⟩ rfl (fun _ => rfl) (by omega) (by omega)
  rw [Int.toNat_natCast, List.nil_append] at HP
  have HPP : Hid (Calls Tryd.prog 73 #[.slice none 0 0, .int .u64 (L : Int)] w fun e w' => ∃ g c N, e = .returned (.slice (some ⟨g, 0, none⟩) N c) ∧ Own w' w.heap.size g N c (enc L) ∧ w.grownBy w' none) := HP
  have HE0 : Hid (EncAt ls 0 (enc L)) := by show _ = _; rw [hL]; simp
  have HEE : Hid (∀ zk, EncAt ls L zk → zk = encR ls) := by
    intro zk h
    unfold EncAt at h
    rw [h, List.take_of_length_le (by omega)]
    rfl
  generalize encR ls = Y at HBB HEE ⊢
  have HLE : Hid (∀ k zk, EncAt ls k zk → zk.length ≤ 140737488354000) := fun k zk h => Nat.le_trans h.le hB
  clear hx hL hB HP
  go_enter Tryd.func63, Tryd.ntmps63
  go_wp2_with fail
  refine HPP.out.mono ?_
  rintro e w1 ⟨g1, c1, N1, rfl, ho1, hg1⟩
  have HO1 : Hid (Own w1 w.heap.size g1 N1 c1 (enc L)) := ho1
  have HG1 : Hid (w.grownBy w1 none) := hg1
  clear ho1 hg1 HPP
  go_wp2
  go_loopw [3, 12] (fun t3 t4 wr => ∃ (k g cc N : Nat) (zk : List Int), k ≤ L ∧ t4 = .int .i64 k ∧ t3 = .slice (some ⟨g, 0, none⟩) N cc ∧ Own wr w.heap.size g N cc zk ∧ EncAt ls k zk ∧ w.grownBy wr none) (fun _ t4 _ => L - (intOf t4).toNat)
  case atStart => exact ⟨0, g1, c1, N1, enc L, Nat.zero_le _, rfl, rfl, HO1.out, HE0.out, HG1.out⟩
  case round =>
    obtain ⟨k, g, cc, N, zk, hk, rfl, rfl, ho, he, hg⟩ := hrel
    have HO : Hid (Own wr w.heap.size g N cc zk) := ho
    have HE : Hid (EncAt ls k zk) := he
    have HG : Hid (w.grownBy wr none) := hg
    clear ho he hg HO1 HG1 HE0
    by_cases hlt : k < L
    · have hl := HL.out
      obtain ⟨b, off, rfl, hc⟩ := HX.out.at (by omega)
      obtain ⟨⟨s1, s2⟩, ex⟩ : ∃ x, ls[k]? = some x := ⟨_, List.getElem?_eq_getElem (by omega)⟩
      have a0 : wr.cell? ⟨b, off + k * 2, none⟩ = some (.string s1) := HG.out.cell (hc k _ 0 _ ex rfl) (by simp)
      have a1 : wr.cell? ⟨b, off + k * 2 + 1, none⟩ = some (.string s2) := by rw [Nat.add_assoc]; exact HG.out.cell (hc k _ 1 _ ex rfl) (by simp)
      have HN : Hid (EncAt ls (k + 1) (zk ++ (enc s1.size ++ sInts s1) ++ (enc s2.size ++ sInts s2))) := by have h := HE.out.next ex; show EncAt _ _ _; simpa only [List.append_assoc] using h
      have hlen := HLE.out _ _ HN.out
      simp only [List.length_append, sInts_len] at hlen
      have hki : (k : Int) < (L : Int) := by omega
      have HC1 : Hid (∀ w, Calls Tryd.prog 43 #[.slice none 0 0, .string s1] w fun e w' => ∃ g c N, e = .returned (.slice (some ⟨g, 0, none⟩) N c) ∧ Own w' w.heap.size g N c (enc s1.size ++ sInts s1) ∧ w.grownBy w' none) := fun w => one_text s1 w (by omega)
      have HC2 : Hid (∀ w, Calls Tryd.prog 43 #[.slice none 0 0, .string s2] w fun e w' => ∃ g c N, e = .returned (.slice (some ⟨g, 0, none⟩) N c) ∧ Own w' w.heap.size g N c (enc s2.size ++ sInts s2) ∧ w.grownBy w' none) := fun w => one_text s2 w (by omega)
      have HB : Hid (zk.length + ((enc s1.size ++ sInts s1).length + (enc s2.size ++ sInts s2).length) ≤ 140737488354000) := by show _ ≤ _; simp only [List.length_append, sInts_len]; omega
      generalize enc s1.size ++ sInts s1 = E1 at HC1 HN HB
      generalize enc s2.size ++ sInts s2 = E2 at HC2 HN HB
      clear hc ex hl hlen
      go_wp2_with fail
      refine (HC1.out _).mono ?_
      rintro e w1 ⟨g1, c1, N1, rfl, ho1, hg1⟩
      have HO1 : Hid (Own w1 wr.heap.size g1 N1 c1 E1) := ho1.base (World.grownBy_alloc wr _ none).size
      have HGr : Hid (wr.grownBy w1 none) := (World.grownBy_alloc wr _ none).trans hg1
      have d1 : w1.cell? ⟨wr.heap.size, 1, none⟩ = some (.string s2) := hg1.cell (lab_cells wr (s1, s2)).2 (by simp)
      have HOu : Hid (Own w1 w.heap.size g N cc zk) := HO.out.kept HGr.out (by simp)
      have HGw : Hid (w.grownBy w1 none) := HG.out.trans HGr.out
      have HLT : Hid (g < wr.heap.size) := HO.out.ge.2
      clear ho1 hg1
      go_wp2_with (at_builtin; refine wpList_append_rd rfl (.tmp 16) (.tmp 19) rfl w.heap.size g N cc zk rfl HOu.out (some ⟨g1, 0, none⟩) E1 N1 c1 rfl HO1.out.len HO1.out.rd (by simp) (by have := HB.out; have := HOu.out.len; have := HO1.out.len; omega) ?_; intro g2 c2 w2 ho2 hg2; have d2 : w2.cell? ⟨wr.heap.size, 1, none⟩ = some (.string s2) := hg2.cell d1 (by have := HLT.out; simp; omega))
      have HO2 : Hid (Own w2 w.heap.size g2 (N + N1) c2 (zk ++ E1)) := ho2
      have HG2 : Hid (w.grownBy w2 none) := gb_trans HGw.out hg2 (fun j hj => .inl (by cases hj; exact HO.out.ge.1))
      have HL1 : Hid (N = zk.length ∧ N1 = E1.length) := ⟨HOu.out.len.symm, HO1.out.len.symm⟩
      clear ho2 hg2 d1 d2 HO1 HGr HOu HGw
      refine (HC2.out _).mono ?_
      rintro e w3 ⟨g3, c3, N3, rfl, ho3, hg3⟩
      have HO3 : Hid (Own w3 w2.heap.size g3 N3 c3 E2) := ho3
      have HOu : Hid (Own w3 w.heap.size g2 (N + N1) c2 (zk ++ E1)) := HO2.out.kept hg3 (by simp)
      have HG3 : Hid (w.grownBy w3 none) := HG2.out.trans hg3
      clear ho3 hg3
      go_wp2_with (at_builtin; refine wpList_append_rd rfl (.tmp 21) (.tmp 24) rfl w.heap.size g2 (N + N1) c2 (zk ++ E1) rfl HOu.out (some ⟨g3, 0, none⟩) E2 N3 c3 rfl HO3.out.len HO3.out.rd (by simp) (by have := HB.out; have := HL1.out; have := HO3.out.len; omega) ?_; intro g4 c4 w4 ho4 hg4)
      go_roundw
      case rel => exact ⟨k + 1, g4, c4, N + N1 + N3, _, by omega, by go_num, rfl, ho4, HN.out, gb_trans HG3.out hg4 (fun j hj => .inl (by cases hj; exact HO2.out.ge.1))⟩
      case measure => simp [intOf]; omega
    · obtain rfl : k = L := by omega
      have HY : Hid (zk = Y) := HEE.out zk HE.out
      have hki : ¬ (k : Int) < (k : Int) := by omega
      go_wp2
      go_ret
      exact ⟨g, cc, N, rfl, by rw [← HY.out]; exact HO.out, HG.out⟩

/-- fnv.Sum. -/
theorem g_fnvsum (a : Option Addr) (zs : List Int) (N cc : Nat) (R : Int) (w : World) (hr : Rd w a zs) (hL : zs.length = N) (hz : N ≤ 140737488354000) (hR : fnvR zs = R) :
    Calls Tryd.prog 62 #[.slice a N cc] w fun e w' => e = .returned (.int .u32 R) ∧ w = w' := by
  have HO : Hid (Rd w a zs) := hr
  have HL : Hid (zs.length = N) := hL
  have H0 : Hid (FnvAt zs 0 2166136261 R) := hR
  have hN : (N : Int) ≤ 140737488354000 := by omega
  clear hr hL hR
  go_enter Tryd.func62, Tryd.ntmps62
  go_wp2
  go_loop [3, 8] (fun t3 t4 => ∃ (j : Nat) (h : Int), j ≤ N ∧ t3 = .int .u32 h ∧ t4 = .int .i64 j ∧ 0 ≤ h ∧ h ≤ 4294967295 ∧ FnvAt zs j h R) (fun _ t4 => N - (intOf t4).toNat)
  case atStart => exact ⟨0, 2166136261, Nat.zero_le _, rfl, rfl, by omega, by omega, H0.out⟩
  case round =>
    obtain ⟨j, h, hj, rfl, rfl, h0, h1, hf⟩ := hrel
    have HF : Hid (FnvAt zs j h R) := hf
    clear hf H0
    by_cases hlt : j < N
    · have hl := HL.out
      obtain ⟨b, off, rfl, hc⟩ := HO.out.at (by omega)
      have hcell := hc j (by omega)
      have hby := HO.out.byte j
      have HN : Hid (FnvAt zs (j + 1) (fnv1 h (zs.getD j 0)) R) := by
        have hh := HF.out
        unfold FnvAt at hh ⊢
        rw [List.drop_eq_getElem_cons (by omega : j < zs.length), List.foldl_cons] at hh
        have e : zs.getD j 0 = zs[j] := by rw [List.getD_eq_getElem?_getD, List.getElem?_eq_getElem (by omega)]; rfl
        rw [e]
        exact hh
      generalize zs.getD j 0 = z at hcell hby HN
      have hxb := xor32_bd h z ⟨h0, h1⟩ (by omega)
      unfold fnv1 at HN
      clear hl hc
      go_wp2
      go_round
      case rel => exact ⟨j + 1, bits .xor .u32 h z * 16777619 % 4294967296, by omega, rfl, by go_num, by omega, by omega, HN.out⟩
      case measure => simp [intOf]; omega
    · have HS : Hid (h = R) := by
        have hh := HF.out
        unfold FnvAt at hh
        rw [List.drop_eq_nil_of_le (by have := HL.out; omega), List.foldl_nil] at hh
        exact hh
      go_wp2
      go_ret
      exact ⟨ret_int HS.out, rfl⟩
theorem f_hash (a : Option Addr) (ls : List Lab) (L c : Nat) (R : Int) (w : World) (hx : SRd labE w a ls) (hL : ls.length = L) (hz : L ≤ 4398046511104) (hB : (encR ls).length ≤ 140737488354000) (hR : fnvR (encR ls) = R) :
    Calls Tryd.prog 46 #[.slice a L c] w fun e w' => e = .returned (.int .u32 R) ∧ w.grownBy w' none := by
  have HE := f_encode a ls L c _ w hx hL hz hB rfl
  have HB : Hid ((encR ls).length ≤ 140737488354000) := hB
  have HR : Hid (fnvR (encR ls) = R) := hR
  generalize encR ls = Y at HE HB HR
  clear hx hL hB hR
  go_enter Tryd.func46, Tryd.ntmps46
  go_wp2_with fail
  refine HE.mono ?_
  rintro e w1 ⟨g, cc, N, rfl, ho, hg⟩
  have HG : Hid (w.grownBy w1 none) := hg
  have HC : Hid (Calls Tryd.prog 62 #[.slice (some ⟨g, 0, none⟩) N cc] w1 fun e w' => e = .returned (.int .u32 R) ∧ w1 = w') := g_fnvsum _ Y N cc R w1 ho.rd ho.len (by have := ho.len; have := HB.out; omega) HR.out
  clear ho hg
  go_wp2_with fail
  refine HC.out.mono ?_
  rintro e w2 ⟨rfl, rfl⟩
  go_wp2
  go_ret
  exact ⟨rfl, HG.out⟩
end Go.Proofs.YtecnocdffhmkaaaDoor

