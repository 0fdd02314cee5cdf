/- Several texts in one: Crest, Cframe, Ctext, Rname, Rchar, Draw. -/
import Derived.Test.YtpabbmiibehfjaaGreatDoorGb
import Derived.Laws.BytesArg
import Derived.Laws.IdiomStrings
import Derived.Lib.AppendStr
import Derived.Lib.Bytes
import Derived.Test.YtpabbmiibehfjaaGreatDoorGa
import Derived.Deep.RegionHeld3
/- The document's own calls of layer 2: texts, frames. -/
namespace Go.Proofs.YtpabbmiibehfjaaGreatDoor
set_option maxRecDepth 20000
open Go.RowKit

theorem conv_rd (w : World) (a : Option Addr) (zs : List Int) (L cap : Nat) (hr : Rd w a zs) (hL : zs.length = L) : (convert 120 9 (.slice a L cap)).run Tryz.prog w = .ok (.string (strOfNums zs)) w := by
  subst hL
  cases a with
  | none =>
    obtain rfl := hr.none
    rw [run_convert_bytes_nil w 120 5 Tryz.underlying120 Tryz.underlying5 _ _ 9 Tryz.underlying9]
    rfl
  | some ad =>
    rcases hr.1 with rfl | ⟨b, off, e, hc⟩
    · rw [show ([] : List Int).length = ([] : List UInt8).length from rfl, run_convert_bytes_back w 120 9 5 ad cap [] Tryz.underlying120 Tryz.underlying5 Tryz.underlying9 (by intro j hj; simp at hj)]
      rfl
    · obtain rfl := Option.some.inj e
      exact run_convert_bytes_arg w 120 5 Tryz.underlying120 Tryz.underlying5 b off zs.length cap zs rfl hc 9 Tryz.underlying9

theorem strOfNums_inj {xs ys : List Int} (hx : ∀ z ∈ xs, 0 ≤ z ∧ z ≤ 255) (hy : ∀ z ∈ ys, 0 ≤ z ∧ z ≤ 255) (h : (strOfNums xs).data.toList = (strOfNums ys).data.toList) : xs = ys := by
  rw [strOfNums_data, strOfNums_data] at h
  have hl : xs.length = ys.length := by simpa using congrArg List.length h
  refine List.ext_getElem hl fun i h1 h2 => ?_
  have e := congrArg (fun l => l[i]?) h
  simp only [List.getElem?_map, List.getElem?_eq_getElem h1, List.getElem?_eq_getElem h2, Option.map_some, Option.some.injEq] at e
  have e2 := congrArg UInt8.toNat e
  have bx := hx _ (List.getElem_mem h1)
  have bY := hy _ (List.getElem_mem h2)
  simp only [UInt8.toNat_ofNat'] at e2
  omega

/-- A text's bytes, as numbers. -/
def sInts (s : ByteArray) : List Int := s.data.toList.map fun b => (b.toNat : Int)
theorem sInts_len (s : ByteArray) : (sInts s).length = s.size := by
  unfold sInts
  rw [List.length_map, Array.length_toList]
  rfl
theorem sInts_cells (s : ByteArray) : bs (sInts s) = Go.Lib.strCells s := by
  unfold bs sInts Go.Lib.strCells
  rw [List.map_map]
  rfl
theorem sInts_byte (s : ByteArray) : ∀ z ∈ sInts s, 0 ≤ z ∧ z ≤ 255 := by
  intro z hz
  simp only [sInts, List.mem_map] at hz
  obtain ⟨b, _, rfl⟩ := hz
  have := b.toNat_lt
  omega

/-- append(out, s...): out is the call's own, s a text. -/
theorem wpList_append_text {w : World} {ops : Array Oper} {rest : List Oper} {o : Oper} {a : Act} {Q : Exit → Act → World → Prop} (hgd : o.guard = none) (sl x : Operand)
    (ho : o.op = .call { callee := .builtin .append, args := #[sl, x], argTypes := #[120, 9] }) (base g0 n c0 : Nat) (xs : List Int) (hs : a.eval sl = .slice (some ⟨g0, 0, none⟩) n c0) (hown : Own w base g0 n c0 xs)
    (s : ByteArray) (m : Nat) (hm : s.size = m) (hx : a.eval x = .string s) (hlen : n + m ≤ 140737488355328)
    (h : ∀ g c w', Own w' base g (n + m) c (xs ++ sInts s) → w.grownBy w' (some g0) → wpList Tryz.prog ops Q rest (a.put o.dst (.slice (some ⟨g, 0, none⟩) (n + m) c)) w') : wpList Tryz.prog ops Q (o :: rest) a w := by
  obtain ⟨i0, hi, hz0, hz1, hz2⟩ := info_parts info5
  subst hm
  have hge := hown.ge
  refine Go.Lib.wpList_append_own_string _ hgd sl x 120 9 ho base 5 i0 Tryz.underlying120 Tryz.underlying9 hi hz0 hz1 hz2 _ n (bs xs) hs hown.1 s hx (by unfold maxLen; omega) (by omega) (by omega) ?_
  intro v' w' hown' hg hne
  rw [← sInts_cells, ← bs_app] at hown'
  obtain ⟨g, c, rfl, ho'⟩ := Own.of hown' (fun h => by simpa using hne.1 h) (fun z hz => by
    rcases List.mem_append.1 hz with h1 | h1
    · exact hown.2 z h1
    · exact sInts_byte s z h1)
  exact h g c w' ho' hg

def four (c : Int) : List Int := [c / 16777216, c / 65536 % 256, c / 256 % 256, c % 256]
theorem four_byte (c : Int) (h : 0 ≤ c ∧ c ≤ 4294967295) : ∀ z ∈ four c, 0 ≤ z ∧ z ≤ 255 := by
  intro z hz
  simp [four] at hz
  omega

end Go.Proofs.YtpabbmiibehfjaaGreatDoor

/- The document's own Frame, Int, Text. -/
namespace Go.Proofs.YtpabbmiibehfjaaGreatDoor
set_option maxRecDepth 20000
open Go.RowKit
set_option linter.unusedVariables false

def frameR (zs : List Int) : List Int := enc zs.length ++ four (sumR zs) ++ zs

/-- What a number that is read is good for. -/
theorem URel.ok {zs : List Int} {p : Nat} {r1 r2 : Int} (hz : ∀ k, 0 ≤ zs.getD k 0 ∧ zs.getD k 0 ≤ 255) : ∀ (n i : Nat) (v : Int), 9 - i = n → i ≤ 9 → 0 ≤ v → v < 2 ^ (7 * i) → URel zs p i v r1 r2 0 → (p : Int) + i < r2 ∧ r2 ≤ zs.length ∧ 0 ≤ r1 ∧ r1 ≤ 18446744073709551615 := by
  intro n
  induction n with
  | zero =>
    intro i v hn hi hv0 hv h
    have hl : p + i < zs.length := by
      by_cases hl : p + i < zs.length
      · exact hl
      · have := h.over hi (by omega); omega
    by_cases hf : i = 9 ∧ 1 < zs.getD (p + i) 0 ∨ 0 < i ∧ zs.getD (p + i) 0 = 0
    · have := h.form hi hl hf; omega
    · have hc : zs.getD (p + i) 0 < 128 := by omega
      have hd := h.done hi hl hf hc
      have ho := or7 v (zs.getD (p + i) 0) i hv0 hv hi (hz _) (fun h9 => by omega)
      have hp : (0 : Int) < 2 ^ (7 * i) := Int.pow_pos (by decide)
      have hm := Int.mul_nonneg (show 0 ≤ zs.getD (p + i) 0 % 128 by omega) (Int.le_of_lt hp)
      omega
  | succ n ih =>
    intro i v hn hi hv0 hv h
    have hl : p + i < zs.length := by
      by_cases hl : p + i < zs.length
      · exact hl
      · have := h.over hi (by omega); omega
    by_cases hf : i = 9 ∧ 1 < zs.getD (p + i) 0 ∨ 0 < i ∧ zs.getD (p + i) 0 = 0
    · have := h.form hi hl hf; omega
    · have ho := or7 v (zs.getD (p + i) 0) i hv0 hv hi (hz _) (fun h9 => by omega)
      have hp : (0 : Int) < 2 ^ (7 * i) := Int.pow_pos (by decide)
      have hm := Int.mul_nonneg (show 0 ≤ zs.getD (p + i) 0 % 128 by omega) (Int.le_of_lt hp)
      by_cases hc : zs.getD (p + i) 0 < 128
      · have hd := h.done hi hl hf hc
        omega
      · have hs := h.step hi hl hf hc
        have := ih (i + 1) _ (by omega) (by omega) (by omega) (ho.2.2 (by omega)) hs
        omega
theorem ud_ok {zs : List Int} {p : Nat} {r1 r2 : Int} (hz : ∀ k, 0 ≤ zs.getD k 0 ∧ zs.getD k 0 ≤ 255) (h : ud zs p 10 0 0 = (r1, r2, 0)) : (p : Int) < r2 ∧ r2 ≤ zs.length ∧ 0 ≤ r1 ∧ r1 ≤ 18446744073709551615 := by
  have := URel.ok (p := p) hz 9 0 0 rfl (by omega) (by omega) (by decide) h
  simpa using this

theorem uintR_ok {zs : List Int} {p r1 r2 : Int} (hz : ∀ k, 0 ≤ zs.getD k 0 ∧ zs.getD k 0 ≤ 255) (h : uintR zs p = (r1, r2, 0)) : 0 ≤ p ∧ p < r2 ∧ r2 ≤ zs.length ∧ 0 ≤ r1 ∧ r1 ≤ 18446744073709551615 := by
  unfold uintR at h
  split at h
  · simp at h
  · have := ud_ok hz h
    omega

/-- The signed number that a number stands for. -/
def unzz (v : Int) : Int := if v % 2 = 0 then v / 2 else -(v / 2) - 1
def intR (zs : List Int) (p : Int) : Int × Int × Int := if (uintR zs p).2.2 = 0 then (unzz (uintR zs p).1, (uintR zs p).2.1, 0) else (0, 0, (uintR zs p).2.2)

theorem and_one_64 (a : Int) (h0 : 0 ≤ a) (h1 : a ≤ 18446744073709551615) : bits .and .u64 a 1 = a % 2 := by
  rw [u64_and _ _ h0 (by omega) (by decide) (by decide)]
  have : (1 : Int).toNat = 1 := rfl
  rw [this, nat_mask1]
  omega

end Go.Proofs.YtpabbmiibehfjaaGreatDoor

/- The document's own Text and Unframe. -/
namespace Go.Proofs.YtpabbmiibehfjaaGreatDoor
set_option maxRecDepth 20000
open Go.RowKit

theorem rd_window {w : World} {b off : Nat} {zs : List Int} (hc : ∀ i, i < zs.length → w.cell? ⟨b, off + i, none⟩ = some (.int .u8 (zs.getD i 0))) (hz : ∀ z ∈ zs, 0 ≤ z ∧ z ≤ 255) (k n : Nat) (h : k + n ≤ zs.length) :
    Rd w (some ⟨b, off + k, none⟩) ((zs.drop k).take n) ∧ ((zs.drop k).take n).length = n := by
  have hl : ((zs.drop k).take n).length = n := by simp; omega
  refine ⟨⟨.inr ⟨b, off + k, rfl, fun i hi => ?_⟩, fun z hm => hz z (List.mem_of_mem_drop (List.mem_of_mem_take hm))⟩, hl⟩
  rw [hl] at hi
  rw [Nat.add_assoc, hc (k + i) (by omega)]
  simp [List.getD_eq_getElem?_getD, hi]

def textR (zs : List Int) (p : Int) : ByteArray × Int × Int :=
  if (uintR zs p).2.2 = 0 then
    if (zs.length : Int) - (uintR zs p).2.1 < (uintR zs p).1 then (⟨#[]⟩, 0, 20)
    else (strOfNums ((zs.drop (uintR zs p).2.1.toNat).take (uintR zs p).1.toNat), (uintR zs p).2.1 + (uintR zs p).1, 0)
  else (⟨#[]⟩, 0, (uintR zs p).2.2)

end Go.Proofs.YtpabbmiibehfjaaGreatDoor

/- The document's own Name, Valid, Check. -/
namespace Go.Proofs.YtpabbmiibehfjaaGreatDoor
set_option maxRecDepth 20000
open Go.RowKit
set_option linter.unusedVariables false

/-- The byte at a place of a text. -/
def byteAt (s : ByteArray) (i : Nat) : Int := (sInts s).getD i 0
theorem byteAt_eq (s : ByteArray) (i : Nat) (hi : i < s.size) : (s[i].toNat : Int) = byteAt s i := by
  unfold byteAt sInts
  rw [List.getD_eq_getElem?_getD, List.getElem?_map]
  have h : s.data.toList[i]? = some s[i] := by
    rw [Array.getElem?_toList]
    exact Array.getElem?_eq_getElem hi
  rw [h]
  rfl
theorem byteAt_bd (s : ByteArray) (i : Nat) : 0 ≤ byteAt s i ∧ byteAt s i ≤ 255 := by
  unfold byteAt
  rw [List.getD_eq_getElem?_getD]
  cases h : (sInts s)[i]? with
  | none => simp
  | some z => exact sInts_byte s z (List.mem_of_getElem? h)
theorem idx9 (s : ByteArray) (i : Nat) (hi : i < s.size) (w : World) : (Instr.index 9 (.string s) (.int .i64 (i : Int))).run Tryz.prog w = .ok (.int .u8 (byteAt s i)) w := by
  rw [run_index_string w 9 s .i64 (i : Int) Tryz.underlying9]
  simp [hi, byteAt_eq s i hi]
def nameB (c : Int) : Bool := decide (65 ≤ c) && decide (c ≤ 90) || decide (97 ≤ c) && decide (c ≤ 122) || decide (48 ≤ c) && decide (c ≤ 57) || decide (c = 95)
def nameR (s : ByteArray) : Bool := decide (0 < s.size) && decide (s.size ≤ 64) && !(decide (48 ≤ byteAt s 0) && decide (byteAt s 0 ≤ 57)) && (sInts s).all nameB
def NameAt (s : ByteArray) (k : Nat) (R : Bool) : Prop := ((sInts s).drop k).all nameB = R
theorem NameAt.next {s : ByteArray} {k : Nat} {R : Bool} (h : NameAt s k R) (hk : k < s.size) : (nameB (byteAt s k) && ((sInts s).drop (k + 1)).all nameB) = R := by
  unfold NameAt at h
  have hl : k < (sInts s).length := by rw [sInts_len]; exact hk
  rw [List.drop_eq_getElem_cons hl, List.all_cons] at h
  have : byteAt s k = (sInts s)[k] := by
    unfold byteAt
    rw [List.getD_eq_getElem?_getD, List.getElem?_eq_getElem hl]
    rfl
  rw [this]
  exact h

set_option maxHeartbeats 1000000 in
theorem name_loop (s : ByteArray) (R : Bool) (w : World) (h1 : 1 ≤ s.size) (h2 : s.size ≤ 64) (hd : ¬ (48 ≤ byteAt s 0 ∧ byteAt s 0 ≤ 57)) (hR : (sInts s).all nameB = R) :
    Calls Tryz.prog 70 #[.string s] w fun e w' => e = .returned (.bool R) ∧ w = w' := by
  have H0 : Hid (NameAt s 0 R) := hR
  have e0 := byteAt_eq s 0 (by omega)
  clear hR
  have q1 : decide ((s.size : Int) < 1) = false := by simp; omega
  have q2 : decide ((64 : Int) < (s.size : Int)) = false := by simp; omega
  have hidx : ∀ w, (Instr.index 9 (.string s) (.int .i64 0)).run Tryz.prog w = .ok (.int .u8 (byteAt s 0)) w := idx9 s 0 (by omega)
  generalize byteAt s 0 = c0 at hd hidx e0
  by_cases h48 : 48 ≤ c0
  · have h57 : ¬ c0 ≤ 57 := by omega
    have q4 : decide (48 ≤ c0) = true := by simpa using h48
    have q5 : decide (c0 ≤ 57) = false := by simpa using h57
    clear hd h48 h57 e0
    go_enter Tryz.func70, Tryz.ntmps70
    go_wp2
    go_loop [3] (fun i => ∃ k : Nat, k ≤ s.size ∧ i = .int .i64 k ∧ NameAt s k R) (fun i => s.size - (intOf i).toNat)
    case atStart => exact ⟨0, Nat.zero_le _, rfl, H0.out⟩
    case round =>
      obtain ⟨k, hk, rfl, hn⟩ := hrel
      have HN : Hid (NameAt s k R) := hn
      clear hn H0 hidx
      by_cases hlt : k < s.size
      · have hidx := idx9 s k hlt
        have HNx : Hid (_ = R) := HN.out.next hlt
        have hb := byteAt_bd s k
        have hki : (k : Int) < (s.size : Int) := by omega
        generalize byteAt s k = c at hidx HNx hb
        by_cases hc : nameB c = true
        · have HS : Hid (NameAt s (k + 1) R) := by have h := HNx.out; rw [hc, Bool.true_and] at h; exact h
          have hcc : (decide (65 ≤ c) && decide (c ≤ 90) || decide (97 ≤ c) && decide (c ≤ 122) || decide (48 ≤ c) && decide (c ≤ 57) || decide (c = 95)) = true := hc
          simp only [Bool.or_eq_true, Bool.and_eq_true, decide_eq_true_eq] at hcc
          clear HNx hc
          rcases hcc with ((hcc | hcc) | hcc) | hcc
          · have r1 : decide (65 ≤ c) = true := by simp; omega
            have r2 : decide (c ≤ 90) = true := by simp; omega
            clear hcc
            go_wp2
            go_round
            case rel => exact ⟨k + 1, by omega, by go_num, HS.out⟩
            case measure => simp [intOf]; omega
          · have r1 : decide (65 ≤ c) = true := by simp; omega
            have r2 : decide (c ≤ 90) = false := by simp; omega
            have r3 : decide (97 ≤ c) = true := by simp; omega
            have r4 : decide (c ≤ 122) = true := by simp; omega
            clear hcc
            go_wp2
            go_round
            case rel => exact ⟨k + 1, by omega, by go_num, HS.out⟩
            case measure => simp [intOf]; omega
          · have r1 : decide (65 ≤ c) = false := by simp; omega
            have r3 : decide (97 ≤ c) = false := by simp; omega
            have r5 : decide (48 ≤ c) = true := by simp; omega
            have r6 : decide (c ≤ 57) = true := by simp; omega
            clear hcc
            go_wp2
            go_round
            case rel => exact ⟨k + 1, by omega, by go_num, HS.out⟩
            case measure => simp [intOf]; omega
          · subst hcc
            go_wp2
            go_round
            case rel => exact ⟨k + 1, by omega, by go_num, HS.out⟩
            case measure => simp [intOf]; omega
        · have HS : Hid (false = R) := by have h := HNx.out; rw [show nameB c = false by simpa using hc, Bool.false_and] at h; exact h
          have hcc : ¬ ((decide (65 ≤ c) && decide (c ≤ 90) || decide (97 ≤ c) && decide (c ≤ 122) || decide (48 ≤ c) && decide (c ≤ 57) || decide (c = 95)) = true) := hc
          simp only [Bool.or_eq_true, Bool.and_eq_true, decide_eq_true_eq] at hcc
          have r7 : (c == 95) = false := by simp; omega
          clear HNx hc
          by_cases t1 : 65 ≤ c
          · have r1 : decide (65 ≤ c) = true := by simpa using t1
            have r2 : decide (c ≤ 90) = false := by simp; omega
            have r5 : decide (48 ≤ c) = true := by simp; omega
            have r6 : decide (c ≤ 57) = false := by simp; omega
            by_cases t2 : 97 ≤ c
            · have r3 : decide (97 ≤ c) = true := by simpa using t2
              have r4 : decide (c ≤ 122) = false := by simp; omega
              clear hcc t1 t2
              go_wp2
              go_ret
              exact ⟨ret_bool HS.out, rfl⟩
            · have r3 : decide (97 ≤ c) = false := by simpa using t2
              clear hcc t1 t2
              go_wp2
              go_ret
              exact ⟨ret_bool HS.out, rfl⟩
          · have r1 : decide (65 ≤ c) = false := by simpa using t1
            have r3 : decide (97 ≤ c) = false := by simp; omega
            by_cases t2 : 48 ≤ c
            · have r5 : decide (48 ≤ c) = true := by simpa using t2
              have r6 : decide (c ≤ 57) = false := by simp; omega
              clear hcc t1 t2
              go_wp2
              go_ret
              exact ⟨ret_bool HS.out, rfl⟩
            · have r5 : decide (48 ≤ c) = false := by simpa using t2
              clear hcc t1 t2
              go_wp2
              go_ret
              exact ⟨ret_bool HS.out, rfl⟩
      · have HS : Hid (true = R) := by
          have h := HN.out
          unfold NameAt at h
          rw [List.drop_eq_nil_of_le (by rw [sInts_len]; omega), List.all_nil] at h
          exact h
        have hki : ¬ (k : Int) < (s.size : Int) := by omega
        go_wp2
        go_ret
        exact ⟨ret_bool HS.out, rfl⟩
  · have q4 : decide (48 ≤ c0) = false := by simpa using h48
    clear hd h48 e0
    go_enter Tryz.func70, Tryz.ntmps70
    go_wp2
    go_loop [3] (fun i => ∃ k : Nat, k ≤ s.size ∧ i = .int .i64 k ∧ NameAt s k R) (fun i => s.size - (intOf i).toNat)
    case atStart => exact ⟨0, Nat.zero_le _, rfl, H0.out⟩
    case round =>
      obtain ⟨k, hk, rfl, hn⟩ := hrel
      have HN : Hid (NameAt s k R) := hn
      clear hn H0 hidx
      by_cases hlt : k < s.size
      · have hidx := idx9 s k hlt
        have HNx : Hid (_ = R) := HN.out.next hlt
        have hb := byteAt_bd s k
        have hki : (k : Int) < (s.size : Int) := by omega
        generalize byteAt s k = c at hidx HNx hb
        by_cases hc : nameB c = true
        · have HS : Hid (NameAt s (k + 1) R) := by have h := HNx.out; rw [hc, Bool.true_and] at h; exact h
          have hcc : (decide (65 ≤ c) && decide (c ≤ 90) || decide (97 ≤ c) && decide (c ≤ 122) || decide (48 ≤ c) && decide (c ≤ 57) || decide (c = 95)) = true := hc
          simp only [Bool.or_eq_true, Bool.and_eq_true, decide_eq_true_eq] at hcc
          clear HNx hc
          rcases hcc with ((hcc | hcc) | hcc) | hcc
          · have r1 : decide (65 ≤ c) = true := by simp; omega
            have r2 : decide (c ≤ 90) = true := by simp; omega
            clear hcc
            go_wp2
            go_round
            case rel => exact ⟨k + 1, by omega, by go_num, HS.out⟩
            case measure => simp [intOf]; omega
          · have r1 : decide (65 ≤ c) = true := by simp; omega
            have r2 : decide (c ≤ 90) = false := by simp; omega
            have r3 : decide (97 ≤ c) = true := by simp; omega
            have r4 : decide (c ≤ 122) = true := by simp; omega
            clear hcc
            go_wp2
            go_round
            case rel => exact ⟨k + 1, by omega, by go_num, HS.out⟩
            case measure => simp [intOf]; omega
          · have r1 : decide (65 ≤ c) = false := by simp; omega
            have r3 : decide (97 ≤ c) = false := by simp; omega
            have r5 : decide (48 ≤ c) = true := by simp; omega
            have r6 : decide (c ≤ 57) = true := by simp; omega
            clear hcc
            go_wp2
            go_round
            case rel => exact ⟨k + 1, by omega, by go_num, HS.out⟩
            case measure => simp [intOf]; omega
          · subst hcc
            go_wp2
            go_round
            case rel => exact ⟨k + 1, by omega, by go_num, HS.out⟩
            case measure => simp [intOf]; omega
        · have HS : Hid (false = R) := by have h := HNx.out; rw [show nameB c = false by simpa using hc, Bool.false_and] at h; exact h
          have hcc : ¬ ((decide (65 ≤ c) && decide (c ≤ 90) || decide (97 ≤ c) && decide (c ≤ 122) || decide (48 ≤ c) && decide (c ≤ 57) || decide (c = 95)) = true) := hc
          simp only [Bool.or_eq_true, Bool.and_eq_true, decide_eq_true_eq] at hcc
          have r7 : (c == 95) = false := by simp; omega
          clear HNx hc
          by_cases t1 : 65 ≤ c
          · have r1 : decide (65 ≤ c) = true := by simpa using t1
            have r2 : decide (c ≤ 90) = false := by simp; omega
            have r5 : decide (48 ≤ c) = true := by simp; omega
            have r6 : decide (c ≤ 57) = false := by simp; omega
            by_cases t2 : 97 ≤ c
            · have r3 : decide (97 ≤ c) = true := by simpa using t2
              have r4 : decide (c ≤ 122) = false := by simp; omega
              clear hcc t1 t2
              go_wp2
              go_ret
              exact ⟨ret_bool HS.out, rfl⟩
            · have r3 : decide (97 ≤ c) = false := by simpa using t2
              clear hcc t1 t2
              go_wp2
              go_ret
              exact ⟨ret_bool HS.out, rfl⟩
          · have r1 : decide (65 ≤ c) = false := by simpa using t1
            have r3 : decide (97 ≤ c) = false := by simp; omega
            by_cases t2 : 48 ≤ c
            · have r5 : decide (48 ≤ c) = true := by simpa using t2
              have r6 : decide (c ≤ 57) = false := by simp; omega
              clear hcc t1 t2
              go_wp2
              go_ret
              exact ⟨ret_bool HS.out, rfl⟩
            · have r5 : decide (48 ≤ c) = false := by simpa using t2
              clear hcc t1 t2
              go_wp2
              go_ret
              exact ⟨ret_bool HS.out, rfl⟩
      · have HS : Hid (true = R) := by
          have h := HN.out
          unfold NameAt at h
          rw [List.drop_eq_nil_of_le (by rw [sInts_len]; omega), List.all_nil] at h
          exact h
        have hki : ¬ (k : Int) < (s.size : Int) := by omega
        go_wp2
        go_ret
        exact ⟨ret_bool HS.out, rfl⟩

theorem r_name (s : ByteArray) (w : World) :
    Calls Tryz.prog 70 #[.string s] w fun e w' => e = .returned (.bool (nameR s)) ∧ w = w' := by
  by_cases h1 : s.size < 1
  · have e : nameR s = false := by unfold nameR; rw [decide_eq_false (by omega : ¬ 0 < s.size)]; simp
    rw [e]
    have q1 : decide ((s.size : Int) < 1) = true := by simp; omega
    clear e
    go_enter Tryz.func70, Tryz.ntmps70
    go_wp2
    go_ret
    exact ⟨rfl, rfl⟩
  · by_cases h2 : 64 < s.size
    · have e : nameR s = false := by unfold nameR; rw [decide_eq_false (by omega : ¬ s.size ≤ 64)]; simp
      rw [e]
      have q1 : decide ((s.size : Int) < 1) = false := by simp; omega
      have q2 : decide ((64 : Int) < (s.size : Int)) = true := by simp; omega
      clear e
      go_enter Tryz.func70, Tryz.ntmps70
      go_wp2
      go_ret
      exact ⟨rfl, rfl⟩
    · by_cases hd : 48 ≤ byteAt s 0 ∧ byteAt s 0 ≤ 57
      · have e : nameR s = false := by
          unfold nameR
          rw [show (decide (48 ≤ byteAt s 0) && decide (byteAt s 0 ≤ 57)) = true by simp [hd]]
          simp
        rw [e]
        have q1 : decide ((s.size : Int) < 1) = false := by simp; omega
        have q2 : decide ((64 : Int) < (s.size : Int)) = false := by simp; omega
        have hidx : ∀ w, (Instr.index 9 (.string s) (.int .i64 0)).run Tryz.prog w = .ok (.int .u8 (byteAt s 0)) w := idx9 s 0 (by omega)
        generalize byteAt s 0 = c0 at hd hidx
        have q4 : decide (48 ≤ c0) = true := by simpa using hd.1
        have q5 : decide (c0 ≤ 57) = true := by simpa using hd.2
        clear e hd
        go_enter Tryz.func70, Tryz.ntmps70
        go_wp2
        go_ret
        exact ⟨rfl, rfl⟩
      · have e : nameR s = (sInts s).all nameB := by
          unfold nameR
          rw [decide_eq_true (by omega : 0 < s.size), decide_eq_true (by omega : s.size ≤ 64), show (decide (48 ≤ byteAt s 0) && decide (byteAt s 0 ≤ 57)) = false by simp only [Bool.and_eq_false_iff, decide_eq_false_iff_not]; omega]
          simp
        rw [e]
        exact name_loop s _ w (by omega) (by omega) hd rfl
end Go.Proofs.YtpabbmiibehfjaaGreatDoor

/- The document's own char. -/
namespace Go.Proofs.YtpabbmiibehfjaaGreatDoor
open Go.RowKit
set_option linter.unusedVariables false

theorem and_mask (b : Int) (k : Nat) (h0 : 0 ≤ b) (h1 : b ≤ 255) (hk : k ≤ 8) : bits .and .u8 b ((2 ^ k - 1 : Nat) : Int) = b % ((2 ^ k : Nat) : Int) := by
  have hp : 2 ^ k ≤ 256 := Nat.pow_le_pow_right (by decide) hk
  rw [u8_and b _ h0 (by omega) (by omega) (by omega), Int.toNat_natCast, Nat.and_two_pow_sub_one_eq_mod]
  obtain ⟨B, rfl⟩ := Int.eq_ofNat_of_zero_le h0
  rw [Int.toNat_natCast, Int.natCast_emod]
theorem and31 (b : Int) (h : 0 ≤ b ∧ b ≤ 255) : bits .and .u8 b 31 = b % 32 := and_mask b 5 h.1 h.2 (by decide)
theorem and15 (b : Int) (h : 0 ≤ b ∧ b ≤ 255) : bits .and .u8 b 15 = b % 16 := and_mask b 4 h.1 h.2 (by decide)
theorem and7 (b : Int) (h : 0 ≤ b ∧ b ≤ 255) : bits .and .u8 b 7 = b % 8 := and_mask b 3 h.1 h.2 (by decide)
theorem and63 (b : Int) (h : 0 ≤ b ∧ b ≤ 255) : bits .and .u8 b 63 = b % 64 := and_mask b 6 h.1 h.2 (by decide)
set_option maxRecDepth 100000 in
theorem and192 (b : Int) (h : 0 ≤ b ∧ b ≤ 255) : bits .and .u8 b 192 = b / 64 * 64 := by
  rw [u8_and b 192 h.1 (by omega) (by decide) (by decide)]
  have key : ∀ V : Fin 256, V.val &&& 192 = V.val / 64 * 64 := by decide
  have := key ⟨b.toNat, by omega⟩
  simp only at this
  rw [show (192 : Int).toNat = 192 from rfl, this]
  omega

def cont (s : ByteArray) (p : Nat) : Nat → Nat → Int → Option Int
  | 0, _, v => some v
  | m + 1, i, v => if byteAt s (p + i) / 64 = 2 then cont s p m (i + 1) (v * 64 + byteAt s (p + i) % 64) else none
def fin (n least v : Int) : Int := if v < least ∨ 1114111 < v ∨ 55296 ≤ v ∧ v ≤ 57343 then 0 else n
def fini (n least : Int) : Option Int → Int
  | none => 0
  | some v => fin n least v
def multi (s : ByteArray) (p n : Nat) (least v : Int) : Int := if s.size < p + n then 0 else fini n least (cont s p (n - 1) 1 v)
def charR (s : ByteArray) (p : Nat) : Int :=
  if byteAt s p < 128 then 1
  else if 192 ≤ byteAt s p ∧ byteAt s p < 224 then multi s p 2 128 (byteAt s p % 32)
  else if 224 ≤ byteAt s p ∧ byteAt s p < 240 then multi s p 3 2048 (byteAt s p % 16)
  else if 240 ≤ byteAt s p ∧ byteAt s p < 248 then multi s p 4 65536 (byteAt s p % 8)
  else 0
def ContAt (s : ByteArray) (p n : Nat) (least : Int) (i : Nat) (v R : Int) : Prop := fini n least (cont s p (n - i) i v) = R
theorem ContAt.next {s : ByteArray} {p n i : Nat} {least v R : Int} (h : ContAt s p n least i v R) (hi : i < n) : (if byteAt s (p + i) / 64 = 2 then fini n least (cont s p (n - (i + 1)) (i + 1) (v * 64 + byteAt s (p + i) % 64)) else 0) = R := by
  unfold ContAt at h
  rw [show n - i = (n - (i + 1)) + 1 by omega, cont] at h
  split at h
  · rw [if_pos (by assumption)]; exact h
  · rw [if_neg (by assumption)]; exact h



set_option maxHeartbeats 2000000 in
theorem char2 (s : ByteArray) (p : Nat) (R : Int) (w : World) (hp : p < s.size) (hs : s.size ≤ 1000000000) (h1 : 192 ≤ byteAt s p ∧ byteAt s p < 224) (hR : multi s p 2 128 (byteAt s p % 32) = R) :
    Calls Tryz.prog 81 #[.string s, .int .i64 p] w fun e w' => e = .returned (.int .i64 R) ∧ w = w' := by
  have hidx := idx9 s p hp
  have hcb := byteAt_bd s p
  unfold multi at hR
  have hv := and31 (byteAt s p) hcb
  generalize byteAt s p = c at hidx hcb h1 hR hv
  have q1 : decide (c < 128) = false := by simp; omega
  have t0 : decide (192 ≤ c) = true := by simp; omega
  have t1 : decide (c < 224) = true := by simp; omega
  have hpi : (p : Int) < (s.size : Int) := by omega
  by_cases hl : s.size < p + 2
  · rw [if_pos hl] at hR
    subst hR
    have q4 : decide ((s.size : Int) < (p : Int) + 2) = true := by simp; omega
    clear h1 hl
    go_enter Tryz.func81, Tryz.ntmps81
    go_wp2
    go_ret
    exact ⟨rfl, rfl⟩
  · rw [if_neg hl] at hR
    have H0 : Hid (ContAt s p 2 128 1 (c % 32) R) := hR
    have q4 : decide ((s.size : Int) < (p : Int) + 2) = false := by simp; omega
    clear h1 hR
    go_enter Tryz.func81, Tryz.ntmps81
    go_wp2
    go_loop [8, 9] (fun t8 t9 => ∃ (i : Nat) (v : Int), 1 ≤ i ∧ i ≤ 2 ∧ t9 = .int .i64 i ∧ t8 = .int .i32 v ∧ 0 ≤ v ∧ v < 8388608 ∧ (i ≤ 3 → v < 131072) ∧ (i ≤ 2 → v < 2048) ∧ (i ≤ 1 → v < 32) ∧ ContAt s p 2 128 i v R) (fun _ t9 => 2 - (intOf t9).toNat)
    case atStart => exact ⟨1, c % 32, by omega, by omega, rfl, rfl, by omega, by omega, fun _ => by omega, fun _ => by omega, fun _ => by omega, H0.out⟩
    case round =>
      obtain ⟨i, v, hi1, hi, rfl, rfl, v0, v1, v2, v3, v4, hc⟩ := hrel
      have HC : Hid (ContAt s p 2 128 i v R) := hc
      clear hc H0 hidx hv q1 q4
      by_cases hlt : i < 2
      · have hidx : ∀ w, (Instr.index 9 (.string s) (.int .i64 ((p : Int) + (i : Int)))).run Tryz.prog w = .ok (.int .u8 (byteAt s (p + i))) w := by
          have h := idx9 s (p + i) (by omega)
          rwa [Int.natCast_add] at h
        have hbb := byteAt_bd s (p + i)
        have hm1 := and192 _ hbb
        have hm2 := and63 _ hbb
        have HN : Hid (_ = R) := HC.out.next hlt
        generalize byteAt s (p + i) = b at hidx hbb hm1 hm2 HN
        have hvv : v < 131072 := v2 (by omega)
        have hor := i32_or6 (x := v * 64) (y := b % 64) (by omega) (by omega) (by omega) (by omega) (by omega)
        have HB : Hid ((i + 1 ≤ 3 → v * 64 + b % 64 < 131072) ∧ (i + 1 ≤ 2 → v * 64 + b % 64 < 2048)) := ⟨fun h => by have := v3 (by omega); omega, fun h => by have := v4 (by omega); omega⟩
        clear v2 v3 v4
        by_cases h2 : b / 64 = 2
        · have q5 : (b / 64 * 64 != 128) = false := by simp; omega
          have HS : Hid (ContAt s p 2 128 (i + 1) (v * 64 + b % 64) R) := by have h := HN.out; rw [if_pos h2] at h; exact h
          clear h2 HN
          go_wp2
          go_round
          case rel => exact ⟨i + 1, v * 64 + b % 64, by omega, by omega, by go_num, by first | rfl | (rw [hor]) | (simp [hor]), by omega, by omega, HB.out.1, HB.out.2, fun h => by omega, HS.out⟩
          case measure => simp [intOf]; omega
        · have q5 : (b / 64 * 64 != 128) = true := by simp; omega
          have HS : Hid ((0 : Int) = R) := by have h := HN.out; rw [if_neg h2] at h; exact h
          clear h2 HN
          go_wp2
          go_ret
          exact ⟨ret_int HS.out, rfl⟩
      · obtain rfl : i = 2 := by omega
        have HF : Hid (fin 2 128 v = R) := by
          have h := HC.out
          unfold ContAt at h
          rw [Nat.sub_self, cont] at h
          exact h
        clear v2 v3 v4 hlt HC
        by_cases hb : v < 128 ∨ 1114111 < v ∨ 55296 ≤ v ∧ v ≤ 57343
        · have HS : Hid ((0 : Int) = R) := by have h := HF.out; unfold fin at h; rw [if_pos hb] at h; exact h
          clear HF
          by_cases b1 : v < 128
          · have r1 : decide (v < 128) = true := by simpa using b1
            clear hb b1
            go_wp2
            go_ret
            exact ⟨ret_int HS.out, rfl⟩
          · have r1 : decide (v < 128) = false := by simpa using b1
            by_cases b2 : 1114111 < v
            · have r2 : decide (1114111 < v) = true := by simpa using b2
              clear hb b1 b2
              go_wp2
              go_ret
              exact ⟨ret_int HS.out, rfl⟩
            · have r2 : decide (1114111 < v) = false := by simpa using b2
              have r3 : decide (55296 ≤ v) = true := by simp; omega
              have r4 : decide (v ≤ 57343) = true := by simp; omega
              clear hb b1 b2
              go_wp2
              go_ret
              exact ⟨ret_int HS.out, rfl⟩
        · have HS : Hid ((2 : Int) = R) := by have h := HF.out; unfold fin at h; rw [if_neg hb] at h; exact h
          clear HF
          have r1 : decide (v < 128) = false := by simp; omega
          have r2 : decide (1114111 < v) = false := by simp; omega
          by_cases b1 : 55296 ≤ v
          · have r3 : decide (55296 ≤ v) = true := by simpa using b1
            have r4 : decide (v ≤ 57343) = false := by simp; omega
            clear hb b1
            go_wp2
            go_ret
            exact ⟨ret_int HS.out, rfl⟩
          · have r3 : decide (55296 ≤ v) = false := by simpa using b1
            clear hb b1
            go_wp2
            go_ret
            exact ⟨ret_int HS.out, rfl⟩

set_option maxHeartbeats 2000000 in
theorem char3 (s : ByteArray) (p : Nat) (R : Int) (w : World) (hp : p < s.size) (hs : s.size ≤ 1000000000) (h1 : 224 ≤ byteAt s p ∧ byteAt s p < 240) (hR : multi s p 3 2048 (byteAt s p % 16) = R) :
    Calls Tryz.prog 81 #[.string s, .int .i64 p] w fun e w' => e = .returned (.int .i64 R) ∧ w = w' := by
  have hidx := idx9 s p hp
  have hcb := byteAt_bd s p
  unfold multi at hR
  have hv := and15 (byteAt s p) hcb
  generalize byteAt s p = c at hidx hcb h1 hR hv
  have q1 : decide (c < 128) = false := by simp; omega
  have t0 : decide (192 ≤ c) = true := by simp; omega
  have t1 : decide (c < 224) = false := by simp; omega
  have t2 : decide (224 ≤ c) = true := by simp; omega
  have t3 : decide (c < 240) = true := by simp; omega
  have hpi : (p : Int) < (s.size : Int) := by omega
  by_cases hl : s.size < p + 3
  · rw [if_pos hl] at hR
    subst hR
    have q4 : decide ((s.size : Int) < (p : Int) + 3) = true := by simp; omega
    clear h1 hl
    go_enter Tryz.func81, Tryz.ntmps81
    go_wp2
    go_ret
    exact ⟨rfl, rfl⟩
  · rw [if_neg hl] at hR
    have H0 : Hid (ContAt s p 3 2048 1 (c % 16) R) := hR
    have q4 : decide ((s.size : Int) < (p : Int) + 3) = false := by simp; omega
    clear h1 hR
    go_enter Tryz.func81, Tryz.ntmps81
    go_wp2
    go_loop [8, 9] (fun t8 t9 => ∃ (i : Nat) (v : Int), 1 ≤ i ∧ i ≤ 3 ∧ t9 = .int .i64 i ∧ t8 = .int .i32 v ∧ 0 ≤ v ∧ v < 8388608 ∧ (i ≤ 3 → v < 131072) ∧ (i ≤ 2 → v < 2048) ∧ (i ≤ 1 → v < 32) ∧ ContAt s p 3 2048 i v R) (fun _ t9 => 3 - (intOf t9).toNat)
    case atStart => exact ⟨1, c % 16, by omega, by omega, rfl, rfl, by omega, by omega, fun _ => by omega, fun _ => by omega, fun _ => by omega, H0.out⟩
    case round =>
      obtain ⟨i, v, hi1, hi, rfl, rfl, v0, v1, v2, v3, v4, hc⟩ := hrel
      have HC : Hid (ContAt s p 3 2048 i v R) := hc
      clear hc H0 hidx hv q1 q4
      by_cases hlt : i < 3
      · have hidx : ∀ w, (Instr.index 9 (.string s) (.int .i64 ((p : Int) + (i : Int)))).run Tryz.prog w = .ok (.int .u8 (byteAt s (p + i))) w := by
          have h := idx9 s (p + i) (by omega)
          rwa [Int.natCast_add] at h
        have hbb := byteAt_bd s (p + i)
        have hm1 := and192 _ hbb
        have hm2 := and63 _ hbb
        have HN : Hid (_ = R) := HC.out.next hlt
        generalize byteAt s (p + i) = b at hidx hbb hm1 hm2 HN
        have hvv : v < 131072 := v2 (by omega)
        have hor := i32_or6 (x := v * 64) (y := b % 64) (by omega) (by omega) (by omega) (by omega) (by omega)
        have HB : Hid ((i + 1 ≤ 3 → v * 64 + b % 64 < 131072) ∧ (i + 1 ≤ 2 → v * 64 + b % 64 < 2048)) := ⟨fun h => by have := v3 (by omega); omega, fun h => by have := v4 (by omega); omega⟩
        clear v2 v3 v4
        by_cases h2 : b / 64 = 2
        · have q5 : (b / 64 * 64 != 128) = false := by simp; omega
          have HS : Hid (ContAt s p 3 2048 (i + 1) (v * 64 + b % 64) R) := by have h := HN.out; rw [if_pos h2] at h; exact h
          clear h2 HN
          go_wp2
          go_round
          case rel => exact ⟨i + 1, v * 64 + b % 64, by omega, by omega, by go_num, by first | rfl | (rw [hor]) | (simp [hor]), by omega, by omega, HB.out.1, HB.out.2, fun h => by omega, HS.out⟩
          case measure => simp [intOf]; omega
        · have q5 : (b / 64 * 64 != 128) = true := by simp; omega
          have HS : Hid ((0 : Int) = R) := by have h := HN.out; rw [if_neg h2] at h; exact h
          clear h2 HN
          go_wp2
          go_ret
          exact ⟨ret_int HS.out, rfl⟩
      · obtain rfl : i = 3 := by omega
        have HF : Hid (fin 3 2048 v = R) := by
          have h := HC.out
          unfold ContAt at h
          rw [Nat.sub_self, cont] at h
          exact h
        clear v2 v3 v4 hlt HC
        by_cases hb : v < 2048 ∨ 1114111 < v ∨ 55296 ≤ v ∧ v ≤ 57343
        · have HS : Hid ((0 : Int) = R) := by have h := HF.out; unfold fin at h; rw [if_pos hb] at h; exact h
          clear HF
          by_cases b1 : v < 2048
          · have r1 : decide (v < 2048) = true := by simpa using b1
            clear hb b1
            go_wp2
            go_ret
            exact ⟨ret_int HS.out, rfl⟩
          · have r1 : decide (v < 2048) = false := by simpa using b1
            by_cases b2 : 1114111 < v
            · have r2 : decide (1114111 < v) = true := by simpa using b2
              clear hb b1 b2
              go_wp2
              go_ret
              exact ⟨ret_int HS.out, rfl⟩
            · have r2 : decide (1114111 < v) = false := by simpa using b2
              have r3 : decide (55296 ≤ v) = true := by simp; omega
              have r4 : decide (v ≤ 57343) = true := by simp; omega
              clear hb b1 b2
              go_wp2
              go_ret
              exact ⟨ret_int HS.out, rfl⟩
        · have HS : Hid ((3 : Int) = R) := by have h := HF.out; unfold fin at h; rw [if_neg hb] at h; exact h
          clear HF
          have r1 : decide (v < 2048) = false := by simp; omega
          have r2 : decide (1114111 < v) = false := by simp; omega
          by_cases b1 : 55296 ≤ v
          · have r3 : decide (55296 ≤ v) = true := by simpa using b1
            have r4 : decide (v ≤ 57343) = false := by simp; omega
            clear hb b1
            go_wp2
            go_ret
            exact ⟨ret_int HS.out, rfl⟩
          · have r3 : decide (55296 ≤ v) = false := by simpa using b1
            clear hb b1
            go_wp2
            go_ret
            exact ⟨ret_int HS.out, rfl⟩

set_option maxHeartbeats 2000000 in
theorem char4 (s : ByteArray) (p : Nat) (R : Int) (w : World) (hp : p < s.size) (hs : s.size ≤ 1000000000) (h1 : 240 ≤ byteAt s p ∧ byteAt s p < 248) (hR : multi s p 4 65536 (byteAt s p % 8) = R) :
    Calls Tryz.prog 81 #[.string s, .int .i64 p] w fun e w' => e = .returned (.int .i64 R) ∧ w = w' := by
  have hidx := idx9 s p hp
  have hcb := byteAt_bd s p
  unfold multi at hR
  have hv := and7 (byteAt s p) hcb
  generalize byteAt s p = c at hidx hcb h1 hR hv
  have q1 : decide (c < 128) = false := by simp; omega
  have t0 : decide (192 ≤ c) = true := by simp; omega
  have t1 : decide (c < 224) = false := by simp; omega
  have t2 : decide (224 ≤ c) = true := by simp; omega
  have t3 : decide (c < 240) = false := by simp; omega
  have t4 : decide (240 ≤ c) = true := by simp; omega
  have t5 : decide (c < 248) = true := by simp; omega
  have hpi : (p : Int) < (s.size : Int) := by omega
  by_cases hl : s.size < p + 4
  · rw [if_pos hl] at hR
    subst hR
    have q4 : decide ((s.size : Int) < (p : Int) + 4) = true := by simp; omega
    clear h1 hl
    go_enter Tryz.func81, Tryz.ntmps81
    go_wp2
    go_ret
    exact ⟨rfl, rfl⟩
  · rw [if_neg hl] at hR
    have H0 : Hid (ContAt s p 4 65536 1 (c % 8) R) := hR
    have q4 : decide ((s.size : Int) < (p : Int) + 4) = false := by simp; omega
    clear h1 hR
    go_enter Tryz.func81, Tryz.ntmps81
    go_wp2
    go_loop [8, 9] (fun t8 t9 => ∃ (i : Nat) (v : Int), 1 ≤ i ∧ i ≤ 4 ∧ t9 = .int .i64 i ∧ t8 = .int .i32 v ∧ 0 ≤ v ∧ v < 8388608 ∧ (i ≤ 3 → v < 131072) ∧ (i ≤ 2 → v < 2048) ∧ (i ≤ 1 → v < 32) ∧ ContAt s p 4 65536 i v R) (fun _ t9 => 4 - (intOf t9).toNat)
    case atStart => exact ⟨1, c % 8, by omega, by omega, rfl, rfl, by omega, by omega, fun _ => by omega, fun _ => by omega, fun _ => by omega, H0.out⟩
    case round =>
      obtain ⟨i, v, hi1, hi, rfl, rfl, v0, v1, v2, v3, v4, hc⟩ := hrel
      have HC : Hid (ContAt s p 4 65536 i v R) := hc
      clear hc H0 hidx hv q1 q4
      by_cases hlt : i < 4
      · have hidx : ∀ w, (Instr.index 9 (.string s) (.int .i64 ((p : Int) + (i : Int)))).run Tryz.prog w = .ok (.int .u8 (byteAt s (p + i))) w := by
          have h := idx9 s (p + i) (by omega)
          rwa [Int.natCast_add] at h
        have hbb := byteAt_bd s (p + i)
        have hm1 := and192 _ hbb
        have hm2 := and63 _ hbb
        have HN : Hid (_ = R) := HC.out.next hlt
        generalize byteAt s (p + i) = b at hidx hbb hm1 hm2 HN
        have hvv : v < 131072 := v2 (by omega)
        have hor := i32_or6 (x := v * 64) (y := b % 64) (by omega) (by omega) (by omega) (by omega) (by omega)
        have HB : Hid ((i + 1 ≤ 3 → v * 64 + b % 64 < 131072) ∧ (i + 1 ≤ 2 → v * 64 + b % 64 < 2048)) := ⟨fun h => by have := v3 (by omega); omega, fun h => by have := v4 (by omega); omega⟩
        clear v2 v3 v4
        by_cases h2 : b / 64 = 2
        · have q5 : (b / 64 * 64 != 128) = false := by simp; omega
          have HS : Hid (ContAt s p 4 65536 (i + 1) (v * 64 + b % 64) R) := by have h := HN.out; rw [if_pos h2] at h; exact h
          clear h2 HN
          go_wp2
          go_round
          case rel => exact ⟨i + 1, v * 64 + b % 64, by omega, by omega, by go_num, by first | rfl | (rw [hor]) | (simp [hor]), by omega, by omega, HB.out.1, HB.out.2, fun h => by omega, HS.out⟩
          case measure => simp [intOf]; omega
        · have q5 : (b / 64 * 64 != 128) = true := by simp; omega
          have HS : Hid ((0 : Int) = R) := by have h := HN.out; rw [if_neg h2] at h; exact h
          clear h2 HN
          go_wp2
          go_ret
          exact ⟨ret_int HS.out, rfl⟩
      · obtain rfl : i = 4 := by omega
        have HF : Hid (fin 4 65536 v = R) := by
          have h := HC.out
          unfold ContAt at h
          rw [Nat.sub_self, cont] at h
          exact h
        clear v2 v3 v4 hlt HC
        by_cases hb : v < 65536 ∨ 1114111 < v ∨ 55296 ≤ v ∧ v ≤ 57343
        · have HS : Hid ((0 : Int) = R) := by have h := HF.out; unfold fin at h; rw [if_pos hb] at h; exact h
          clear HF
          by_cases b1 : v < 65536
          · have r1 : decide (v < 65536) = true := by simpa using b1
            clear hb b1
            go_wp2
            go_ret
            exact ⟨ret_int HS.out, rfl⟩
          · have r1 : decide (v < 65536) = false := by simpa using b1
            by_cases b2 : 1114111 < v
            · have r2 : decide (1114111 < v) = true := by simpa using b2
              clear hb b1 b2
              go_wp2
              go_ret
              exact ⟨ret_int HS.out, rfl⟩
            · have r2 : decide (1114111 < v) = false := by simpa using b2
              have r3 : decide (55296 ≤ v) = true := by simp; omega
              have r4 : decide (v ≤ 57343) = true := by simp; omega
              clear hb b1 b2
              go_wp2
              go_ret
              exact ⟨ret_int HS.out, rfl⟩
        · have HS : Hid ((4 : Int) = R) := by have h := HF.out; unfold fin at h; rw [if_neg hb] at h; exact h
          clear HF
          have r1 : decide (v < 65536) = false := by simp; omega
          have r2 : decide (1114111 < v) = false := by simp; omega
          by_cases b1 : 55296 ≤ v
          · have r3 : decide (55296 ≤ v) = true := by simpa using b1
            have r4 : decide (v ≤ 57343) = false := by simp; omega
            clear hb b1
            go_wp2
            go_ret
            exact ⟨ret_int HS.out, rfl⟩
          · have r3 : decide (55296 ≤ v) = false := by simpa using b1
            clear hb b1
            go_wp2
            go_ret
            exact ⟨ret_int HS.out, rfl⟩


theorem r_char (s : ByteArray) (p : Nat) (R : Int) (w : World) (hp : p < s.size) (hs : s.size ≤ 1000000000) (hR : charR s p = R) :
    Calls Tryz.prog 81 #[.string s, .int .i64 p] w fun e w' => e = .returned (.int .i64 R) ∧ w = w' := by
  unfold charR at hR
  have hcb := byteAt_bd s p
  by_cases h1 : byteAt s p < 128
  · rw [if_pos h1] at hR
    subst hR
    have hidx := idx9 s p hp
    generalize byteAt s p = c at hidx h1 hcb
    have q1 : decide (c < 128) = true := by simpa using h1
    have hpi : (p : Int) < (s.size : Int) := by omega
    clear h1
    go_enter Tryz.func81, Tryz.ntmps81
    go_wp2
    go_ret
    exact ⟨rfl, rfl⟩
  · rw [if_neg h1] at hR
    by_cases h2 : 192 ≤ byteAt s p ∧ byteAt s p < 224
    · rw [if_pos h2] at hR; exact char2 s p R w hp hs h2 hR
    · rw [if_neg h2] at hR
      by_cases h3 : 224 ≤ byteAt s p ∧ byteAt s p < 240
      · rw [if_pos h3] at hR; exact char3 s p R w hp hs h3 hR
      · rw [if_neg h3] at hR
        by_cases h4 : 240 ≤ byteAt s p ∧ byteAt s p < 248
        · rw [if_pos h4] at hR; exact char4 s p R w hp hs h4 hR
        · rw [if_neg h4] at hR
          subst hR
          have hidx := idx9 s p hp
          generalize byteAt s p = c at hidx h1 h2 h3 h4 hcb
          have q1 : decide (c < 128) = false := by simpa using h1
          have hpi : (p : Int) < (s.size : Int) := by omega
          by_cases h5 : 192 ≤ c
          · have t0 : decide (192 ≤ c) = true := by simpa using h5
            have t1 : decide (c < 224) = false := by simp; omega
            have t2 : decide (224 ≤ c) = true := by simp; omega
            have t3 : decide (c < 240) = false := by simp; omega
            have t4 : decide (240 ≤ c) = true := by simp; omega
            have t5 : decide (c < 248) = false := by simp; omega
            clear h1 h2 h3 h4 h5
            go_enter Tryz.func81, Tryz.ntmps81
            go_wp2
            go_ret
            exact ⟨rfl, rfl⟩
          · have t0 : decide (192 ≤ c) = false := by simpa using h5
            have t2 : decide (224 ≤ c) = false := by simp; omega
            have t4 : decide (240 ≤ c) = false := by simp; omega
            clear h1 h2 h3 h4 h5
            go_enter Tryz.func81, Tryz.ntmps81
            go_wp2
            go_ret
            exact ⟨rfl, rfl⟩

theorem fini_bd (n least : Int) (hn : 0 ≤ n ∧ n ≤ 4) (o : Option Int) : 0 ≤ fini n least o ∧ fini n least o ≤ 4 := by
  cases o with
  | none => simp [fini]
  | some v => simp only [fini, fin]; split <;> omega
theorem multi_bd (s : ByteArray) (p n : Nat) (least v : Int) (hn : n ≤ 4) : 0 ≤ multi s p n least v ∧ multi s p n least v ≤ 4 := by
  unfold multi
  split
  · omega
  · exact fini_bd _ _ (by omega) _
theorem charR_bd (s : ByteArray) (p : Nat) : 0 ≤ charR s p ∧ charR s p ≤ 4 := by
  unfold charR
  split
  · omega
  · split
    · exact multi_bd _ _ _ _ _ (by omega)
    · split
      · exact multi_bd _ _ _ _ _ (by omega)
      · split
        · exact multi_bd _ _ _ _ _ (by omega)
        · omega
def vfrom (s : ByteArray) (p : Nat) : Bool :=
  if h : p < s.size ∧ 0 < charR s p then vfrom s (p + (charR s p).toNat) else decide (s.size ≤ p)
termination_by s.size - p
decreasing_by omega
def validR (s : ByteArray) : Bool := decide (0 < s.size) && decide (s.size ≤ 256) && vfrom s 0

set_option maxHeartbeats 400000 in
theorem valid_loop (s : ByteArray) (R : Bool) (w : World) (h1 : 1 ≤ s.size) (h2 : s.size ≤ 256) (hR : vfrom s 0 = R) :
    Calls Tryz.prog 71 #[.string s] w fun e w' => e = .returned (.bool R) ∧ w = w' := by
  have H0 : Hid (vfrom s 0 = R) := hR
  clear hR
  have q1 : decide ((s.size : Int) < 1) = false := by simp; omega
  have q2 : decide ((256 : Int) < (s.size : Int)) = false := by simp; omega
  go_enter Tryz.func71, Tryz.ntmps71
  go_wp2
  go_loop [3] (fun i => ∃ k : Nat, k ≤ s.size + 4 ∧ i = .int .i64 k ∧ vfrom s k = R) (fun i => s.size + 5 - (intOf i).toNat)
  case atStart => exact ⟨0, by omega, rfl, H0.out⟩
  case round =>
    obtain ⟨k, hk, rfl, hv⟩ := hrel
    have HV : Hid (vfrom s k = R) := hv
    clear hv H0
    by_cases hlt : k < s.size
    · have HC : Hid (∀ w, Calls Tryz.prog 81 #[.string s, .int .i64 k] w fun e w' => e = .returned (.int .i64 (charR s k)) ∧ w = w') := fun w => r_char s k _ w hlt (by omega) rfl
      have hb := charR_bd s k
      have HN : Hid ((if 0 < charR s k then vfrom s (k + (charR s k).toNat) else false) = R) := by
        have h := HV.out
        rw [vfrom] at h
        show _ = R
        rw [← h]
        by_cases hc : 0 < charR s k
        · rw [if_pos hc, dif_pos ⟨hlt, hc⟩]
        · rw [if_neg hc, dif_neg (by intro x; exact hc x.2)]
          exact (decide_eq_false (by omega)).symm
      obtain ⟨m, hm⟩ := Int.eq_ofNat_of_zero_le hb.1
      rw [hm] at HC HN hb
      have hki : (k : Int) < (s.size : Int) := by omega
      by_cases hz : m = 0
      · have q3 : ((m : Int) == 0) = true := by simpa using hz
        have HS : Hid (false = R) := by have h := HN.out; rw [if_neg (by omega)] at h; exact h
        clear HN hz hm
        go_wp2_with (go_at_call 81; refine (HC.out _).mono ?_; rintro e w1 ⟨rfl, rfl⟩)
        go_ret
        exact ⟨ret_bool HS.out, rfl⟩
      · have q3 : ((m : Int) == 0) = false := by simpa using hz
        have HS : Hid (vfrom s (k + m) = R) := by have h := HN.out; rw [if_pos (by omega), Int.toNat_natCast] at h; exact h
        clear HN hm
        go_wp2_with (go_at_call 81; refine (HC.out _).mono ?_; rintro e w1 ⟨rfl, rfl⟩)
        go_round
        case rel => exact ⟨k + m, by omega, by go_num, HS.out⟩
        case measure => simp [intOf]; omega
    · have HS : Hid (true = R) := by
        have h := HV.out
        rw [vfrom, dif_neg (by omega)] at h
        rw [← h]
        exact (decide_eq_true (by omega)).symm
      have hki : ¬ (k : Int) < (s.size : Int) := by omega
      go_wp2
      go_ret
      exact ⟨ret_bool HS.out, rfl⟩
theorem r_valid (s : ByteArray) (w : World) :
    Calls Tryz.prog 71 #[.string s] w fun e w' => e = .returned (.bool (validR s)) ∧ w = w' := by
  by_cases h1 : s.size < 1
  · have e : validR s = false := by unfold validR; rw [decide_eq_false (by omega : ¬ 0 < s.size)]; simp
    rw [e]
    have q1 : decide ((s.size : Int) < 1) = true := by simp; omega
    clear e
    go_enter Tryz.func71, Tryz.ntmps71
    go_wp2
    go_ret
    exact ⟨rfl, rfl⟩
  · by_cases h2 : 256 < s.size
    · have e : validR s = false := by unfold validR; rw [decide_eq_false (by omega : ¬ s.size ≤ 256)]; simp
      rw [e]
      have q1 : decide ((s.size : Int) < 1) = false := by simp; omega
      have q2 : decide ((256 : Int) < (s.size : Int)) = true := by simp; omega
      clear e
      go_enter Tryz.func71, Tryz.ntmps71
      go_wp2
      go_ret
      exact ⟨rfl, rfl⟩
    · have e : validR s = vfrom s 0 := by
        unfold validR
        rw [decide_eq_true (by omega : 0 < s.size), decide_eq_true (by omega : s.size ≤ 256)]
        simp
      rw [e]
      exact valid_loop s _ w (by omega) (by omega) rfl
end Go.Proofs.YtpabbmiibehfjaaGreatDoor

/- A region that draws its order, taken by hand: what is not wanted, what yields, what is called. -/
namespace Go.Proofs.YtpabbmiibehfjaaGreatDoor
set_option maxRecDepth 20000
open Go.RowKit

section
variable {P : Program} {ops : Array Oper} {Q : Exit → Act → World → Prop} {md : Region.Mode}

theorem arr_at {l : List Oper} {i : Nat} {o : Oper} (h : l[i]? = some o) : l.toArray[i]? = some o := by simpa using h

/-- Number i is not wanted. -/
theorem draw_skip (i : Nat) {l : List Oper} {oi : Oper} {fuel : Nat} {listed : Array Bool} {a : Act} {w : World} (hi : l[i]? = some oi)
    (hs : Region.noSelect l.toArray = true) (hf : Region.free md l.toArray listed i = true) (hr : (Region.ready md l.toArray listed).contains i = true)
    (hQ : ∀ c a w, Q (.panic c) (a.put oi.dst undef) w → Q (.panic c) a w) (hw : Region.wanted oi (yielded l.toArray a.tmps) = false)
    (h : wpAnyH P md l.toArray Q (fun _ => True) fuel (listed.setIfInBounds i true) (a.put oi.dst undef) w) : wpAnyH P md l.toArray Q (fun _ => True) (fuel + 1) listed a w :=
  wpAnyH_take (arr_at hi) hs hf hr hQ (.inr ⟨hw, rfl⟩) trivial h

/-- Number i yields v. -/
theorem draw_take (i : Nat) {l : List Oper} {oi : Oper} {v : Value} {fuel : Nat} {listed : Array Bool} {a : Act} {w : World} (hi : l[i]? = some oi)
    (hs : Region.noSelect l.toArray = true) (hf : Region.free md l.toArray listed i = true) (hr : (Region.ready md l.toArray listed).contains i = true)
    (hQ : ∀ c a w, Q (.panic c) (a.put oi.dst v) w → Q (.panic c) a w) (hw : Region.wanted oi (yielded l.toArray a.tmps) = true) (hy : ∀ w, (execOp a.eval oi).run P w = .ok (.value v) w)
    (h : wpAnyH P md l.toArray Q (fun _ => True) fuel (listed.setIfInBounds i true) (a.put oi.dst v) w) : wpAnyH P md l.toArray Q (fun _ => True) (fuel + 1) listed a w :=
  wpAnyH_take (arr_at hi) hs hf hr hQ (.inl ⟨hw, fun w _ => hy w⟩) trivial h

/-- Number i alone may come up. -/
theorem draw_one (i : Nat) {l : List Oper} {oi : Oper} {fuel : Nat} {listed : Array Bool} {a : Act} {w : World} (hi : l[i]? = some oi) (hr : Region.ready md l.toArray listed = [i]) (hw : Region.wanted oi (yielded l.toArray a.tmps) = true)
    (h : ∀ K' : Act → World → Prop, Shut (∀ a w, wpAnyH P md l.toArray Q (fun _ => True) fuel (listed.setIfInBounds i true) a w → K' a w) → Oper.wp P oi a w K' Q) : wpAnyH P md l.toArray Q (fun _ => True) (fuel + 1) listed a w :=
  wpAnyH_ready hr (by simp) (.cons (arr_at hi) (fun K hK => by rw [if_pos hw]; exact h K (fun a w hW => hK a w trivial (fun _ => hW))) .nil)
variable {S : World → Prop}
/-- Number i yields v, wherever S holds. -/
theorem draw_takeS (i : Nat) {l : List Oper} {oi : Oper} {v : Value} {fuel : Nat} {listed : Array Bool} {a : Act} {w : World} (hi : l[i]? = some oi)
    (hs : Region.noSelect l.toArray = true) (hf : Region.free md l.toArray listed i = true) (hr : (Region.ready md l.toArray listed).contains i = true)
    (hQ : ∀ c a w, Q (.panic c) (a.put oi.dst v) w → Q (.panic c) a w) (hw : Region.wanted oi (yielded l.toArray a.tmps) = true) (hSw : S w) (hy : ∀ w, S w → (execOp a.eval oi).run P w = .ok (.value v) w)
    (h : wpAnyH P md l.toArray Q S fuel (listed.setIfInBounds i true) (a.put oi.dst v) w) : wpAnyH P md l.toArray Q S (fuel + 1) listed a w :=
  wpAnyH_take (arr_at hi) hs hf hr hQ (.inl ⟨hw, fun w hS => hy w hS⟩) hSw h
/-- Number i alone may come up; S must hold behind it. -/
theorem draw_oneS (i : Nat) {l : List Oper} {oi : Oper} {fuel : Nat} {listed : Array Bool} {a : Act} {w : World} (hi : l[i]? = some oi) (hr : Region.ready md l.toArray listed = [i]) (hw : Region.wanted oi (yielded l.toArray a.tmps) = true)
    (h : ∀ K' : Act → World → Prop, Shut (∀ a w, S w → wpAnyH P md l.toArray Q S fuel (listed.setIfInBounds i true) a w → K' a w) → Oper.wp P oi a w K' Q) : wpAnyH P md l.toArray Q S (fuel + 1) listed a w :=
  wpAnyH_ready hr (by simp) (.cons (arr_at hi) (fun K hK => by rw [if_pos hw]; exact h K (fun a w hS hW => hK a w hS (fun _ => hW))) .nil)
end

section
variable {α : Type} {E : Elem α}
/-- append(out, xs...) at one operation: out is the call's own or none, xs whatever is read. -/
theorem wp_append_s {P : Program} {t e : TypeId} {bytes : Nat} (T : ElemOf E P t e bytes) {w : World} {o : Oper} {a : Act} {K : Act → World → Prop} {Q : Exit → Act → World → Prop} (s x : Operand)
    (ho : o.op = .call { callee := .builtin .append, args := #[s, x], argTypes := #[t, t] }) (base : Nat) (v : Value) (n : Nat) (xs : List α) (hs : a.eval s = v) (hown : SOwn E e w base v n xs)
    (src : Option Addr) (zs : List α) (m cap : Nat) (hx : a.eval x = .slice src m cap) (hm : zs.length = m) (hr : SRd E w src zs) (hnil : src = Option.none → cap = 0) (hlen : (n + m) * bytes ≤ 140737488355328) (hmax : n + m ≤ maxLen) (hb : base ≤ w.heap.size)
    (h : ∀ v' w', SOwn E e w' base v' (n + m) (xs ++ zs) → w.grownBy w' v.ownBlock → (v' = .slice Option.none 0 0 → v = .slice Option.none 0 0 ∧ m = 0) → K (a.put o.dst v') w') : o.wp P a w K Q := by
  obtain ⟨i0, z, hi, hz0, hz1, hz2, hz3⟩ := T.info
  subst hm
  cases src with
  | none =>
    obtain rfl := hnil rfl
    obtain rfl := hr.none
    have hrun := run_append_owned_none (P := P) (w := w) base t o.type e i0 E.size T.under hi v n (E.flat xs) hown
    have hh := h v w (by simpa using hown) (World.grownBy.refl _ _) (fun h => ⟨h, rfl⟩)
    have hx' : a.eval x = .slice Option.none 0 0 := hx
    unfold Oper.wp
    simp [execOp, ho, resolve, invoke, builtin, hs, hx', hrun, Result.andThen]
    exact hh
  | some ad =>
    refine wp_append_own _ s x t ho base e i0 z E.size bytes T.under hi hz0 hz1 hz2 hz3 E.pos _ n (E.flat xs) hs hown ad zs.length cap (E.flat zs) hx (E.flat_len zs) hr.news (E.flat_one zs) hmax hlen hb ?_
    intro v' w' hown' hg hne
    rw [← E.flat_app] at hown'
    exact h v' w' hown' hg (fun h => hne.1 h)
end
end Go.Proofs.YtpabbmiibehfjaaGreatDoor

