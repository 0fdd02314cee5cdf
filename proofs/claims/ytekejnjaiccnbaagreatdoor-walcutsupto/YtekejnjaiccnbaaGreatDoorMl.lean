/- Several texts in one: Crest, Cframe, Ctext. -/
import Derived.Test.YtekejnjaiccnbaaGreatDoorMk
import Derived.Laws.BytesArg
import Derived.Laws.IdiomStrings
import Derived.Lib.AppendStr
import Derived.Lib.Bytes
/- The document's own calls of layer 2: texts, frames. -/
namespace Go.Proofs.YtekejnjaiccnbaaGreatDoor
open Go.RowKit

theorem conv_rd (w : World) (a : Option Addr) (zs : List Int) (L cap : Nat) (hr : Rd w a zs) (hL : zs.length = L) : (convert 27 9 (.slice a L cap)).run Tryz.prog w = .ok (.string (strOfNums zs)) w := by
  subst hL
  cases a with
  | none =>
    obtain rfl := hr.none
    rw [run_convert_bytes_nil w 27 5 Tryz.underlying27 Tryz.underlying5 _ _ 9 Tryz.underlying9]
    rfl
  | some ad =>
    rcases hr.1 with rfl | ⟨b, off, e, hc⟩
    · rw [show ([] : List Int).length = ([] : List UInt8).length from rfl, run_convert_bytes_back w 27 9 5 ad cap [] Tryz.underlying27 Tryz.underlying5 Tryz.underlying9 (by intro j hj; simp at hj)]
      rfl
    · obtain rfl := Option.some.inj e
      exact run_convert_bytes_arg w 27 5 Tryz.underlying27 Tryz.underlying5 b off zs.length cap zs rfl hc 9 Tryz.underlying9

theorem strOfNums_inj {xs ys : List Int} (hx : ∀ z ∈ xs, 0 ≤ z ∧ z ≤ 255) (hy : ∀ z ∈ ys, 0 ≤ z ∧ z ≤ 255) (h : (strOfNums xs).data.toList = (strOfNums ys).data.toList) : xs = ys := by
  rw [strOfNums_data, strOfNums_data] at h
  have hl : xs.length = ys.length := by simpa using congrArg List.length h
  refine List.ext_getElem hl fun i h1 h2 => ?_
  have e := congrArg (fun l => l[i]?) h
  simp only [List.getElem?_map, List.getElem?_eq_getElem h1, List.getElem?_eq_getElem h2, Option.map_some, Option.some.injEq] at e
  have e2 := congrArg UInt8.toNat e
  have bx := hx _ (List.getElem_mem h1)
  have bY := hy _ (List.getElem_mem h2)
  simp only [UInt8.toNat_ofNat'] at e2
  omega

/-- A text's bytes, as numbers. -/
theorem sInts_cells (s : ByteArray) : bs (sInts s) = Go.Lib.strCells s := by
  unfold bs sInts Go.Lib.strCells
  rw [List.map_map]
  rfl
set_option maxHeartbeats 400000 in
theorem rsame (a b : Option Addr) (xs ys : List Int) (L M c d : Nat) (w : World) (hx : Rd w a xs) (hy : Rd w b ys) (hL : xs.length = L) (hM : ys.length = M) :
    Calls Tryz.prog 160 #[.slice a L c, .slice b M d] w fun e w' => e = .returned (.bool (decide (xs = ys))) ∧ w = w' := by
  have h1 := conv_rd w a xs L c hx hL
  have h2 := conv_rd w b ys M d hy hM
  obtain ⟨s, hs⟩ : ∃ s, s = strOfNums xs := ⟨_, rfl⟩
  obtain ⟨t, ht⟩ : ∃ t, t = strOfNums ys := ⟨_, rfl⟩
  have HE : Hid ((s.toList == t.toList) = decide (xs = ys)) := by
    subst hs ht
    show _ = _
    rw [Bool.eq_iff_iff]
    simp only [beq_iff_eq, decide_eq_true_eq]
    constructor
    · intro h
      refine strOfNums_inj hx.2 hy.2 ?_
      rw [← ByteArray.toList_eq, ← ByteArray.toList_eq]; exact h
    · intro h; rw [h]
  rw [← hs] at h1
  rw [← ht] at h2
  clear hs ht hx hy hL hM
  go_enter Tryz.func160, Tryz.ntmps160
  go_wp2
  go_ret
  exact ⟨ret_bool HE.out, rfl⟩

/-- append(out, s...): out is the call's own, s a text. -/
theorem wpList_append_text {w : World} {ops : Array Oper} {rest : List Oper} {o : Oper} {a : Act} {Q : Exit → Act → World → Prop} (hgd : o.guard = none) (sl x : Operand)
    (ho : o.op = .call { callee := .builtin .append, args := #[sl, x], argTypes := #[27, 9] }) (base g0 n c0 : Nat) (xs : List Int) (hs : a.eval sl = .slice (some ⟨g0, 0, none⟩) n c0) (hown : Own w base g0 n c0 xs)
    (s : ByteArray) (m : Nat) (hm : s.size = m) (hx : a.eval x = .string s) (hlen : n + m ≤ 140737488355328)
    (h : ∀ g c w', Own w' base g (n + m) c (xs ++ sInts s) → w.grownBy w' (some g0) → wpList Tryz.prog ops Q rest (a.put o.dst (.slice (some ⟨g, 0, none⟩) (n + m) c)) w') : wpList Tryz.prog ops Q (o :: rest) a w := by
  obtain ⟨i0, hi, hz0, hz1, hz2⟩ := info_parts info5
  subst hm
  have hge := hown.ge
  refine Go.Lib.wpList_append_own_string _ hgd sl x 27 9 ho base 5 i0 Tryz.underlying27 Tryz.underlying9 hi hz0 hz1 hz2 _ n (bs xs) hs hown.1 s hx (by unfold maxLen; omega) (by omega) (by omega) ?_
  intro v' w' hown' hg hne
  rw [← sInts_cells, ← bs_app] at hown'
  obtain ⟨g, c, rfl, ho'⟩ := Own.of hown' (fun h => by simpa using hne.1 h) (fun z hz => by
    rcases List.mem_append.1 hz with h1 | h1
    · exact hown.2 z h1
    · exact sInts_byte s z h1)
  exact h g c w' ho' hg

def four (c : Int) : List Int := [c / 16777216, c / 65536 % 256, c / 256 % 256, c % 256]
theorem four_byte (c : Int) (h : 0 ≤ c ∧ c ≤ 4294967295) : ∀ z ∈ four c, 0 ≤ z ∧ z ≤ 255 := by
  intro z hz
  simp [four] at hz
  omega

set_option maxHeartbeats 400000 in
theorem rfour (c : Int) (w : World) (hc : 0 ≤ c ∧ c ≤ 4294967295) :
    Calls Tryz.prog 116 #[.int .u32 c] w fun e w' => ∃ g, e = .returned (.slice (some ⟨g, 0, none⟩) 4 4) ∧ Own w' w.heap.size g 4 4 (four c) ∧ w.grownBy w' none := by
  go_enter Tryz.func116, Tryz.ntmps116
  go_wp2
  go_ret
  refine ⟨w.heap.size, rfl, ?_, World.grownBy_alloc w _ _⟩
  exact Own.ofBlock (heap_alloc_new w _) (Nat.le_refl _) rfl (by decide) (four_byte c hc)
end Go.Proofs.YtekejnjaiccnbaaGreatDoor

/- The document's own Frame, Int, Text. -/
namespace Go.Proofs.YtekejnjaiccnbaaGreatDoor
open Go.RowKit
set_option linter.unusedVariables false

def frameR (zs : List Int) : List Int := enc zs.length ++ four (sumR zs) ++ zs

set_option maxHeartbeats 400000 in
theorem rframe_long (a : Option Addr) (L cap : Nat) (w : World) (hz : L ≤ 140737488355000) (h : 65536 < L) :
    Calls Tryz.prog 80 #[.slice a L cap] w fun e w' => e = .returned (.tuple #[.slice none 0 0, .int .i64 23]) ∧ w = w' := by
  have hd : decide ((65536 : Int) < (L : Int)) = true := by simp; omega
  go_enter Tryz.func80, Tryz.ntmps80
  go_wp2
  go_ret2
  exact ⟨rfl, rfl⟩

set_option maxHeartbeats 400000 in
theorem rframe_short (a : Option Addr) (zs : List Int) (L cap : Nat) (w : World) (hr : Rd w a zs) (hL : zs.length = L) (hnil : a = none → cap = 0) (h : L ≤ 65536) :
    Calls Tryz.prog 80 #[.slice a L cap] w fun e w' => ∃ g c N, e = .returned (.tuple #[.slice (some ⟨g, 0, none⟩) N c, .int .i64 0]) ∧ Own w' w.heap.size g N c (frameR zs) ∧ w.grownBy w' none := by
  have hd : decide ((65536 : Int) < (L : Int)) = false := by simp; omega
  have HR : Hid (Rd w a zs) := hr
  have HNil : Hid (a = none → cap = 0) := hnil
  have HL : Hid (zs.length = L) := hL
  obtain ⟨Y, eY⟩ : ∃ Y, Y = enc L := ⟨_, rfl⟩
  have HYL : Hid (Y.length ≤ 10) := by show _ ≤ _; rw [eY]; exact enc_len L (by omega)
  have HU : Hid (Calls Tryz.prog 115 #[.slice none 0 0, .int .u64 (L : Int)] w fun e w' => ∃ g c N, e = .returned (.slice (some ⟨g, 0, none⟩) N c) ∧ Own w' w.heap.size g N c Y ∧ w.grownBy w' none) := by
    have h := rputuint none [] 0 0 L w ⟨.inl rfl, by simp⟩ rfl (fun _ => rfl) (by omega) (by omega)
    rw [show ((L : Int)).toNat = L by omega, List.nil_append, ← eY] at h
    exact h
  obtain ⟨R, eR⟩ : ∃ R, sumR zs = R := ⟨_, rfl⟩
  have HRs : Hid (sumR zs = R) := eR
  have hRb := sumR_bd zs hr.2
  rw [eR] at hRb
  have HF : Hid (frameR zs = Y ++ four R ++ zs) := by show _ = _; rw [frameR, hL, ← eY, eR]
  rw [HF.out]
  clear eY eR hr hL hnil
  go_enter Tryz.func80, Tryz.ntmps80
  go_wp2_with fail
  refine HU.out.mono ?_
  rintro e w1 ⟨g1, c1, N1, rfl, ho1, hg1⟩
  have HN1 : Hid (N1 ≤ 10) := by show _ ≤ _; have := ho1.len; have := HYL.out; omega
  go_wp2_with fail
  refine (rsum a zs L cap R w1 (HR.out.grown hg1 (by simp)) HL.out (by omega) HRs.out).mono ?_
  rintro e w' ⟨rfl, rfl⟩
  go_wp2_with fail
  refine (rfour R w1 hRb).mono ?_
  rintro e w2 ⟨g2, rfl, ho2, hg2⟩
  have ho1' := ho1.kept hg2 (by simp)
  have hg12 : w.grownBy w2 none := gb_trans hg1 hg2 (by simp)
  have hN1 := HN1.out
  clear ho1 hg2 hg1
  go_wp2_with (first | (at_builtin; refine wpList_append_rd rfl (.tmp 10) (.tmp 13) rfl w.heap.size g1 N1 c1 Y rfl ho1' (some ⟨g2, 0, none⟩) (four R) 4 4 rfl rfl ho2.rd (by simp) (by omega) ?_; intro g3 c3 w3 ho3 hg3; have hg13 : w.grownBy w3 none := gb_trans hg12 hg3 (fun i hi => .inl (by simp at hi; have := ho1'.ge; omega))) | (at_builtin; refine wpList_append_rd rfl (.tmp 14) (.tmp 15) rfl w.heap.size g3 (N1 + 4) c3 (Y ++ four R) rfl ho3 a zs L cap rfl HL.out (HR.out.grown hg13 (by simp)) HNil.out (by omega) ?_; intro g4 c4 w4 ho4 hg4))
  go_ret2
  exact ⟨g4, c4, _, rfl, ho4, gb_trans hg13 hg4 (fun i hi => .inl (by simp at hi; have := ho3.ge; omega))⟩

/-- What a number that is read is good for. -/
theorem URel.ok {zs : List Int} {p : Nat} {r1 r2 : Int} (hz : ∀ k, 0 ≤ zs.getD k 0 ∧ zs.getD k 0 ≤ 255) : ∀ (n i : Nat) (v : Int), 9 - i = n → i ≤ 9 → 0 ≤ v → v < 2 ^ (7 * i) → URel zs p i v r1 r2 0 → (p : Int) + i < r2 ∧ r2 ≤ zs.length ∧ 0 ≤ r1 ∧ r1 ≤ 18446744073709551615 := by
  intro n
  induction n with
  | zero =>
    intro i v hn hi hv0 hv h
    have hl : p + i < zs.length := by
      by_cases hl : p + i < zs.length
      · exact hl
      · have := h.over hi (by omega); omega
    by_cases hf : i = 9 ∧ 1 < zs.getD (p + i) 0 ∨ 0 < i ∧ zs.getD (p + i) 0 = 0
    · have := h.form hi hl hf; omega
    · have hc : zs.getD (p + i) 0 < 128 := by omega
      have hd := h.done hi hl hf hc
      have ho := or7 v (zs.getD (p + i) 0) i hv0 hv hi (hz _) (fun h9 => by omega)
      have hp : (0 : Int) < 2 ^ (7 * i) := Int.pow_pos (by decide)
      have hm := Int.mul_nonneg (show 0 ≤ zs.getD (p + i) 0 % 128 by omega) (Int.le_of_lt hp)
      omega
  | succ n ih =>
    intro i v hn hi hv0 hv h
    have hl : p + i < zs.length := by
      by_cases hl : p + i < zs.length
      · exact hl
      · have := h.over hi (by omega); omega
    by_cases hf : i = 9 ∧ 1 < zs.getD (p + i) 0 ∨ 0 < i ∧ zs.getD (p + i) 0 = 0
    · have := h.form hi hl hf; omega
    · have ho := or7 v (zs.getD (p + i) 0) i hv0 hv hi (hz _) (fun h9 => by omega)
      have hp : (0 : Int) < 2 ^ (7 * i) := Int.pow_pos (by decide)
      have hm := Int.mul_nonneg (show 0 ≤ zs.getD (p + i) 0 % 128 by omega) (Int.le_of_lt hp)
      by_cases hc : zs.getD (p + i) 0 < 128
      · have hd := h.done hi hl hf hc
        omega
      · have hs := h.step hi hl hf hc
        have := ih (i + 1) _ (by omega) (by omega) (by omega) (ho.2.2 (by omega)) hs
        omega
theorem ud_ok {zs : List Int} {p : Nat} {r1 r2 : Int} (hz : ∀ k, 0 ≤ zs.getD k 0 ∧ zs.getD k 0 ≤ 255) (h : ud zs p 10 0 0 = (r1, r2, 0)) : (p : Int) < r2 ∧ r2 ≤ zs.length ∧ 0 ≤ r1 ∧ r1 ≤ 18446744073709551615 := by
  have := URel.ok (p := p) hz 9 0 0 rfl (by omega) (by omega) (by decide) h
  simpa using this

set_option maxHeartbeats 400000 in
theorem ruint_out (a : Option Addr) (L cap : Nat) (p : Int) (w : World) (hz : (L : Int) ≤ 140737488355000) (hp : p < 0 ∨ (L : Int) < p) :
    Calls Tryz.prog 159 #[.slice a L cap, .int .i64 p] w fun e w' => e = .returned (.tuple #[.int .u64 0, .int .i64 0, .int .i64 20]) ∧ w = w' := by
  by_cases h : p < 0
  · have d1 : decide (p < 0) = true := by simpa using h
    go_enter Tryz.func159, Tryz.ntmps159
    go_wp2
    go_ret3
    exact ⟨rfl, rfl⟩
  · have d1 : decide (p < 0) = false := by simpa using h
    have d2 : decide ((L : Int) < p) = true := by simp; omega
    go_enter Tryz.func159, Tryz.ntmps159
    go_wp2
    go_ret3
    exact ⟨rfl, rfl⟩

/-- The document's Uint, at any place. -/
theorem ruint (a : Option Addr) (zs : List Int) (L cap : Nat) (p r1 r2 r3 : Int) (w : World) (hr : Rd w a zs) (hL : zs.length = L) (hz : (L : Int) ≤ 140737488355000) (hR : uintR zs p = (r1, r2, r3)) :
    Calls Tryz.prog 159 #[.slice a L cap, .int .i64 p] w fun e w' => e = .returned (.tuple #[.int .u64 r1, .int .i64 r2, .int .i64 r3]) ∧ w = w' := by
  unfold uintR at hR
  by_cases h : p < 0 ∨ (zs.length : Int) < p
  · rw [if_pos h] at hR
    simp only [Prod.mk.injEq] at hR
    obtain ⟨rfl, rfl, rfl⟩ := hR
    exact ruint_out a L cap p w hz (by omega)
  · rw [if_neg h] at hR
    obtain ⟨q, rfl⟩ := Int.eq_ofNat_of_zero_le (show 0 ≤ p by omega)
    exact ruint_in a zs L cap q r1 r2 r3 w hr hL hz (by omega) hR
theorem uintR_ok {zs : List Int} {p r1 r2 : Int} (hz : ∀ k, 0 ≤ zs.getD k 0 ∧ zs.getD k 0 ≤ 255) (h : uintR zs p = (r1, r2, 0)) : 0 ≤ p ∧ p < r2 ∧ r2 ≤ zs.length ∧ 0 ≤ r1 ∧ r1 ≤ 18446744073709551615 := by
  unfold uintR at h
  split at h
  · simp at h
  · have := ud_ok hz h
    omega

/-- The signed number that a number stands for. -/
def unzz (v : Int) : Int := if v % 2 = 0 then v / 2 else -(v / 2) - 1
def intR (zs : List Int) (p : Int) : Int × Int × Int := if (uintR zs p).2.2 = 0 then (unzz (uintR zs p).1, (uintR zs p).2.1, 0) else (0, 0, (uintR zs p).2.2)

theorem and_one_64 (a : Int) (h0 : 0 ≤ a) (h1 : a ≤ 18446744073709551615) : bits .and .u64 a 1 = a % 2 := by
  rw [u64_and _ _ h0 (by omega) (by decide) (by decide)]
  have : (1 : Int).toNat = 1 := rfl
  rw [this, nat_mask1]
  omega

end Go.Proofs.YtekejnjaiccnbaaGreatDoor

/- The document's own Text and Unframe. -/
namespace Go.Proofs.YtekejnjaiccnbaaGreatDoor
open Go.RowKit

theorem rd_window {w : World} {b off : Nat} {zs : List Int} (hc : ∀ i, i < zs.length → w.cell? ⟨b, off + i, none⟩ = some (.int .u8 (zs.getD i 0))) (hz : ∀ z ∈ zs, 0 ≤ z ∧ z ≤ 255) (k n : Nat) (h : k + n ≤ zs.length) :
    Rd w (some ⟨b, off + k, none⟩) ((zs.drop k).take n) ∧ ((zs.drop k).take n).length = n := by
  have hl : ((zs.drop k).take n).length = n := by simp; omega
  refine ⟨⟨.inr ⟨b, off + k, rfl, fun i hi => ?_⟩, fun z hm => hz z (List.mem_of_mem_drop (List.mem_of_mem_take hm))⟩, hl⟩
  rw [hl] at hi
  rw [Nat.add_assoc, hc (k + i) (by omega)]
  simp [List.getD_eq_getElem?_getD, hi]

def textR (zs : List Int) (p : Int) : ByteArray × Int × Int :=
  if (uintR zs p).2.2 = 0 then
    if (zs.length : Int) - (uintR zs p).2.1 < (uintR zs p).1 then (⟨#[]⟩, 0, 20)
    else (strOfNums ((zs.drop (uintR zs p).2.1.toNat).take (uintR zs p).1.toNat), (uintR zs p).2.1 + (uintR zs p).1, 0)
  else (⟨#[]⟩, 0, (uintR zs p).2.2)

end Go.Proofs.YtekejnjaiccnbaaGreatDoor

