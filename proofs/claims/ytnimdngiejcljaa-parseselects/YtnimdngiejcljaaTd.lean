/- ParseSelects' helpers: text, index, Kept. -/
import Derived.Test.YtnimdngiejcljaaTc
namespace Go.Proofs.Ytnimdngiejcljaa
open Go.RowKit
set_option linter.unusedVariables false
set_option linter.unusedSimpArgs false
set_option maxRecDepth 20000

def boolM : Value → Nat
  | .bool true => 1
  | _ => 0
/-- Where text stands: what is left of the number, the digits behind. -/
def TAt (n u : Nat) (first : Bool) (l : List Int) : Prop :=
  (first = true ∧ u = n ∧ l = []) ∨ (first = false ∧ ((u = 0 ∧ l = digsF 10 n) ∨ (0 < u ∧ ∃ f, f ≤ 9 ∧ u < 10 ^ f ∧ digsF f u ++ l = digsF 10 n)))
theorem digs_step {f u : Nat} {l : List Int} : digsF (f + 1) u ++ l = (if u < 10 then [] else digsF f (u / 10)) ++ (48 + ((u % 10 : Nat) : Int)) :: l := by
  conv => lhs; unfold digsF
  rw [List.append_assoc]
  rfl
theorem TAt.next {n u : Nat} {first : Bool} {l : List Int} (hn : n < 10000000000) (h : TAt n u first l) (hc : first = true ∨ 0 < u) : TAt n (u / 10) false ((48 + ((u % 10 : Nat) : Int)) :: l) := by
  have key : ∀ f, f ≤ 9 → u < 10 ^ (f + 1) → digsF (f + 1) u ++ l = digsF 10 n → TAt n (u / 10) false ((48 + ((u % 10 : Nat) : Int)) :: l) := by
    intro f hf hu he
    rw [digs_step] at he
    refine .inr ⟨rfl, ?_⟩
    by_cases h10 : u < 10
    · rw [if_pos h10] at he
      exact .inl ⟨by omega, he⟩
    · rw [if_neg h10] at he
      exact .inr ⟨by omega, f, hf, by rw [Nat.pow_succ] at hu; omega, he⟩
  rcases h with ⟨_, rfl, rfl⟩ | ⟨rfl, h⟩
  · exact key 9 (by omega) hn (by rw [List.append_nil])
  · have hu : 0 < u := by rcases hc with h | h; cases h; exact h
    rcases h with ⟨h0, _⟩ | ⟨_, f, hf, h1, h2⟩
    · omega
    · cases f with
      | zero => simp at h1; omega
      | succ f => exact key f (by omega) h1 h2
theorem TAt.len {n u : Nat} {first : Bool} {l : List Int} (hn : n < 10000000000) (h : TAt n u first l) : l.length ≤ 10 := by
  have hd := (digs_ok 10 n hn (by decide)).2.2.2.2.2
  rcases h with ⟨_, _, rfl⟩ | ⟨_, ⟨_, rfl⟩ | ⟨_, f, _, _, e⟩⟩
  · simp
  · exact hd
  · rw [← e, List.length_append] at hd; omega
theorem TAt.done {n : Nat} {first : Bool} {l : List Int} (h : TAt n 0 first l) (hf : first = false) : l = digsF 10 n := by
  rcases h with ⟨h, _⟩ | ⟨_, ⟨_, h⟩ | ⟨h, _⟩⟩
  · rw [hf] at h; cases h
  · exact h
  · omega
theorem rd_oneT (w : World) (x : Int) (hx : 0 ≤ x ∧ x ≤ 255) : Rd (w.alloc (.cells #[.int .u8 x] 5)) (some ⟨w.heap.size, 0, none⟩) [x] := rd_lit w [x] (fun z hz => by simp at hz; omega)
theorem one_strT (b : UInt8) (l : List Int) : (⟨#[b]⟩ : ByteArray) ++ strOfNums l = strOfNums ((b.toNat : Int) :: l) := by
  unfold strOfNums
  apply ByteArray.ext
  simp
theorem strSizeT (l : List Int) : (strOfNums l).size = l.length := by
  unfold strOfNums
  show (Array.size _) = _
  simp
set_option maxHeartbeats 2000000 in
theorem r_text (n : Nat) (w : World) (hn : n < 10000000000) : Calls Try.prog 18 #[.int .i64 (n : Int)] w fun e w' => e = .returned (.string (strOfNums (digsF 10 n))) ∧ w.grownBy w' none := by
  go_enter Try.func18, Try.ntmps18
  go_wp2
  go_loopw [0, 3, 4] (fun t0 t3 t4 wr => ∃ (u : Nat) (S : ByteArray) (l : List Int) (first : Bool), u ≤ 9999999999 ∧ t0 = .int .i64 (u : Int) ∧ t3 = .string S ∧ t4 = .bool first ∧ S = strOfNums l ∧ TAt n u first l ∧ w.grownBy wr none) (fun t0 _ t4 _ => (intOf t0).toNat + boolM t4)
  case atStart => exact ⟨n, _, [], true, by omega, rfl, rfl, rfl, rfl, .inl ⟨rfl, rfl, rfl⟩, World.grownBy.refl _ _⟩
  case round =>
    obtain ⟨u, S, l, first, hu, rfl, rfl, rfl, hS, hd, hg⟩ := hrel
    have HD : Hid (TAt n u first l) := hd
    have HG : Hid (w.grownBy wr none) := hg
    have HS : Hid (S = strOfNums l) := hS
    have hsz : S.size ≤ 10 := by rw [hS, strSizeT]; exact hd.len hn
    clear hd hg hS
    by_cases hc : first = true ∨ 0 < u
    · have HN : Hid (TAt n (u / 10) false ((48 + ((u % 10 : Nat) : Int)) :: l)) := HD.out.next hn hc
      have hcv : (convert 61 9 (.slice (some ⟨wr.heap.size, 0, none⟩) 1 1)).run Try.prog (wr.alloc (.cells #[.int .u8 (48 + (u : Int) % 10)] 5)) = .ok (.string ⟨#[UInt8.ofNat (48 + u % 10)]⟩) (wr.alloc (.cells #[.int .u8 (48 + (u : Int) % 10)] 5)) := by
        have h := conv_rd (wr.alloc (.cells #[.int .u8 (((48 + u % 10 : Nat) : Nat) : Int)] 5)) (some ⟨wr.heap.size, 0, none⟩) [(((48 + u % 10 : Nat) : Nat) : Int)] 1 1 (rd_oneT wr _ (by omega)) rfl
        rw [show strOfNums [(((48 + u % 10 : Nat) : Nat) : Int)] = ⟨#[UInt8.ofNat (48 + u % 10)]⟩ from rfl] at h
        rw [show (48 + (u : Int) % 10) = (((48 + u % 10 : Nat) : Nat) : Int) by omega]
        exact h
      have hb1 : (⟨#[UInt8.ofNat (48 + u % 10)]⟩ : ByteArray).size = 1 := rfl
      have HB : Hid ((⟨#[UInt8.ofNat (48 + u % 10)]⟩ : ByteArray) ++ S = strOfNums ((48 + ((u % 10 : Nat) : Int)) :: l)) := by
        show _ = _
        rw [HS.out, one_strT]
        congr 2
        simp
        omega
      generalize (⟨#[UInt8.ofNat (48 + u % 10)]⟩ : ByteArray) = b1 at hcv hb1 HB
      have hi0 : (0 : Int) ≤ (u : Int) := by omega
      have hi1 : (u : Int) ≤ 9999999999 := by omega
      have HGA : Hid (w.grownBy (wr.alloc (.cells #[.int .u8 (48 + (u : Int) % 10)] 5)) none) := HG.out.trans (World.grownBy_alloc _ _ none)
      cases first with
      | true =>
        clear hc
        go_wp2
        go_roundw
        case rel => exact ⟨u / 10, _, _, false, by omega, by go_num, rfl, rfl, HB.out, HN.out, HGA.out⟩
        case measure => simp [intOf, boolM]; omega
      | false =>
        have hu0 : 0 < u := by rcases hc with hc | hc; cases hc; exact hc
        have hq : decide ((0 : Int) < (u : Int)) = true := by simp; omega
        clear hc
        go_wp2
        go_roundw
        case rel => exact ⟨u / 10, _, _, false, by omega, by go_num, rfl, rfl, HB.out, HN.out, HGA.out⟩
        case measure => simp [intOf, boolM]; omega
    · have hf : first = false := by cases first with | true => exact absurd (.inl rfl) hc | false => rfl
      have h0 : u = 0 := by omega
      subst hf h0
      have HE := hid (HD.out.done rfl)
      clear hc
      go_wp2
      go_ret
      exact ⟨by rw [HS.out, HE.out]; rfl, HG.out⟩
theorem r_index (a : Option Addr) (c : Nat) (l : List ByteArray) (s : ByteArray) (w : World) (h : SRd strE w a l) (hl : l.length ≤ 1000) :
    Calls Try.prog 32 #[.slice a l.length c, .string s] w fun e w' => e = .returned (.int .i64 (findB s l)) ∧ w' = w := by
  have H := hid h
  have HF := hid (find_at s l)
  have HN := hid (find_none s l)
  clear h
  go_enter Try.func32, Try.ntmps32
  go_wp2
  go_loopw [5] (fun t5 wr => ∃ k : Nat, k ≤ l.length ∧ t5 = .int .i64 (k : Int) ∧ wr = w ∧ ∀ j, j < k → l[j]? ≠ some s) (fun t5 _ => l.length - (intOf t5).toNat)
  case atStart => exact ⟨0, Nat.zero_le _, rfl, rfl, by omega⟩
  case round =>
    obtain ⟨k, hk, rfl, rfl, hj⟩ := hrel
    have HJ := hid hj
    clear hj
    by_cases hlt : k < l.length
    · have hki : (k : Int) < (l.length : Int) := by omega
      obtain ⟨x, hx⟩ : ∃ x, l[k]? = some x := ⟨_, List.getElem?_eq_getElem hlt⟩
      obtain ⟨bb, oo, ea, _⟩ := H.out.at (by omega)
      have hc := str_cell (by rw [← ea]; exact H.out) hx
      have HX := hid hx
      subst ea
      clear hx
      by_cases he : s = x
      · have q0 : (x.toList == s.toList) = true := by rw [str_eq, decide_eq_true he.symm]
        have HE : Hid (findB s l = (k : Int)) := HF.out k hlt HJ.out (by rw [HX.out, he])
        clear he
        go_wp2
        go_ret
        exact ⟨by rw [HE.out]; rfl, rfl⟩
      · have q0 : (x.toList == s.toList) = false := by rw [str_eq, decide_eq_false (fun e => he e.symm)]
        have HE : Hid (∀ j, j < k + 1 → l[j]? ≠ some s) := fun j hj e => by
          by_cases h : j = k
          · rw [h, HX.out] at e; exact he (Option.some.inj e).symm
          · exact HJ.out j (by omega) e
        clear he
        go_wp2
        go_roundw
        case rel => exact ⟨k + 1, by omega, by go_num, by first | rfl | trivial, HE.out⟩
        case measure => simp [intOf]; omega
    · have hki : ¬ (k : Int) < (l.length : Int) := by omega
      have HE : Hid (findB s l = -1) := HN.out fun j h => HJ.out j (by omega)
      go_wp2
      go_ret
      exact ⟨by rw [HE.out]; rfl, rfl⟩
def funcsL : List ByteArray := funcsR.tail
def aggsL : List ByteArray := aggsR.tail
def keptL : List ByteArray := [⟨#[111, 114]⟩, ⟨#[97, 110, 100]⟩, ⟨#[117, 110, 108, 101, 115, 115]⟩, ⟨#[98, 111, 111, 108]⟩, ⟨#[111, 110]⟩, ⟨#[105, 103, 110, 111, 114, 105, 110, 103]⟩, ⟨#[98, 121]⟩, ⟨#[119, 105, 116, 104, 111, 117, 116]⟩, ⟨#[111, 102, 102, 115, 101, 116]⟩]
theorem find_mem {s : ByteArray} : ∀ {l : List ByteArray}, findB s l < 0 ↔ s ∉ l := by
  intro l
  induction l with
  | nil => simp [findB]
  | cons x r ih =>
    have h := find_lo s r
    unfold findB
    by_cases e : s = x
    · simp [e]
    · rw [if_neg e]
      simp only [List.mem_cons, e, false_or]
      rw [← ih]
      split <;> omega
theorem num_no {row : List ByteArray} {k p sp : Int} {s : ByteArray} (h : s ∉ row) : numIn row (k, p, s, sp) = 0 := by
  have h2 := find_mem.2 h
  unfold numIn
  split
  · show max (findB s row) 0 = 0
    omega
  · rfl
/-- Whether a word is kept, as the document's Kept says. -/
def keptW (s : ByteArray) : Bool := decide (0 ≤ findB s funcsL) || (decide (0 ≤ findB s aggsL) || decide (0 ≤ findB s keptL))
theorem lows_kept {W : ByteArray} (hW : Lows W) (h : keptW W = false) (p : Int) : keptB (3, p, W, 0) = false := by
  unfold keptW at h
  simp only [Bool.or_eq_false_iff, decide_eq_false_iff_not] at h
  have n1 : W ∉ funcsL := find_mem.1 (by omega)
  have n2 : W ∉ aggsL := find_mem.1 (by omega)
  have n3 : W ∉ keptL := find_mem.1 (by omega)
  have n0 : W ≠ ⟨#[]⟩ := fun e => by have := hW.some; rw [e] at this; exact absurd this (by decide)
  have m1 : W ∉ funcsR := fun hm => by
    rcases List.mem_cons.1 (show W ∈ (⟨#[]⟩ : ByteArray) :: funcsL from hm) with h | h
    · exact n0 h
    · exact n1 h
  have m2 : W ∉ aggsR := fun hm => by
    rcases List.mem_cons.1 (show W ∈ (⟨#[]⟩ : ByteArray) :: aggsL from hm) with h | h
    · exact n0 h
    · exact n2 h
  unfold keptL at n3
  simp only [List.mem_cons, List.not_mem_nil, or_false, not_or] at n3
  obtain ⟨k1, k2, k3, k4, k5, k6, k7, k8, k9⟩ := n3
  have m3 : W ∉ opsR := fun hm => by
    unfold opsR at hm
    simp only [List.mem_cons, List.not_mem_nil, or_false] at hm
    rcases hm with h | h | h | h | h | h | h | h | h | h | h | h | h | h
    · exact n0 h
    · exact hW.ne (d := 43) (r := []) rfl (by decide) h
    · exact hW.ne (d := 45) (r := []) rfl (by decide) h
    · exact hW.ne (d := 42) (r := []) rfl (by decide) h
    · exact hW.ne (d := 47) (r := []) rfl (by decide) h
    · exact hW.ne (d := 61) (r := [61]) rfl (by decide) h
    · exact hW.ne (d := 33) (r := [61]) rfl (by decide) h
    · exact hW.ne (d := 60) (r := []) rfl (by decide) h
    · exact hW.ne (d := 60) (r := [61]) rfl (by decide) h
    · exact hW.ne (d := 62) (r := []) rfl (by decide) h
    · exact hW.ne (d := 62) (r := [61]) rfl (by decide) h
    · exact k2 h
    · exact k1 h
    · exact k3 h
  have m4 : W ∉ grpsR := fun hm => by
    unfold grpsR at hm
    simp only [List.mem_cons, List.not_mem_nil, or_false] at hm
    rcases hm with h | h | h | h | h
    · exact n0 h
    · exact k7 h
    · exact k8 h
    · exact k5 h
    · exact k6 h
  unfold keptB
  rw [num_no m1, num_no m2, num_no m3, num_no m4]
  simp only [decide_true, Bool.not_true, Bool.false_or, Bool.or_eq_false_iff, decide_eq_false_iff_not]
  exact ⟨k4, k9⟩
theorem r_funcs (w : World) : Calls Try.prog 33 #[] w fun e w' => ∃ c, e = .returned (.slice (some ⟨w.heap.size, 0, none⟩) 12 c) ∧ SRd strE w' (some ⟨w.heap.size, 0, none⟩) funcsL ∧ w.grownBy w' none := by
  have HL := hid (row_lit w funcsL)
  have HG := hid (World.grownBy_alloc w (.cells (funcsL.map (fun s => Value.string s)).toArray 9) none)
  go_enter Try.func33, Try.ntmps33
  go_wp2
  go_ret
  exact ⟨_, rfl, HL.out, HG.out⟩
theorem r_aggs (w : World) : Calls Try.prog 34 #[] w fun e w' => ∃ c, e = .returned (.slice (some ⟨w.heap.size, 0, none⟩) 5 c) ∧ SRd strE w' (some ⟨w.heap.size, 0, none⟩) aggsL ∧ w.grownBy w' none := by
  have HL := hid (row_lit w aggsL)
  have HG := hid (World.grownBy_alloc w (.cells (aggsL.map (fun s => Value.string s)).toArray 9) none)
  go_enter Try.func34, Try.ntmps34
  go_wp2
  go_ret
  exact ⟨_, rfl, HL.out, HG.out⟩
def KpOut (s : ByteArray) (w : World) (e : Ending) (w' : World) : Prop := e = .returned (.bool (keptW s)) ∧ w.grownBy w' none
set_option maxHeartbeats 4000000 in
theorem r_kept (s : ByteArray) (w : World) : Calls Try.prog 17 #[.string s] w fun e w' => KpOut s w e w' := by
  have HF := hid r_funcs
  have HA := hid r_aggs
  have HI1 : Hid (∀ (a : Option Addr) (c : Nat) (w : World), SRd strE w a funcsL → Calls Try.prog 32 #[.slice a 12 c, .string s] w fun e w' => e = .returned (.int .i64 (findB s funcsL)) ∧ w' = w) := fun a c w h => r_index a c funcsL s w h (by decide)
  have HI2 : Hid (∀ (a : Option Addr) (c : Nat) (w : World), SRd strE w a aggsL → Calls Try.prog 32 #[.slice a 5 c, .string s] w fun e w' => e = .returned (.int .i64 (findB s aggsL)) ∧ w' = w) := fun a c w h => r_index a c aggsL s w h (by decide)
  have HI3 : Hid (∀ (a : Option Addr) (c : Nat) (w : World), SRd strE w a keptL → Calls Try.prog 32 #[.slice a 9 c, .string s] w fun e w' => e = .returned (.int .i64 (findB s keptL)) ∧ w' = w) := fun a c w h => r_index a c keptL s w h (by decide)
  have HK : Hid (keptW s = (decide (0 ≤ findB s funcsL) || decide (0 ≤ findB s aggsL) || decide (0 ≤ findB s keptL))) := by show _ = _; unfold keptW; rw [Bool.or_assoc]
  have b1 := find_lo s funcsL
  have b2 := find_lo s aggsL
  have b3 := find_lo s keptL
  have l1 : (funcsL.length : Int) = 12 := rfl
  have l2 : (aggsL.length : Int) = 5 := rfl
  have l3 : (keptL.length : Int) = 9 := rfl
  rw [l1] at b1
  rw [l2] at b2
  rw [l3] at b3
  clear l1 l2 l3
  generalize findB s funcsL = F1 at HI1 HK b1
  generalize findB s aggsL = F2 at HI2 HK b2
  generalize findB s keptL = F3 at HI3 HK b3
  go_enter Try.func17, Try.ntmps17
  go_wp2_with fail
  refine (HF.out _).mono ?_
  rintro e w1 ⟨c1, rfl, hr1, g1⟩
  have G1 := hid g1
  have R1 := hid hr1
  clear g1 hr1
  go_wp2_with fail
  refine (HI1.out _ _ _ R1.out).mono ?_
  rintro e w2 ⟨rfl, rfl⟩
  by_cases h1 : 0 ≤ F1
  · have HKT : Hid (keptW s = true) := by show _ = _; rw [HK.out, decide_eq_true h1]; rfl
    go_wp2_with fail
    go_ret
    exact ⟨by rw [HKT.out]; rfl, G1.out⟩
  · go_wp2_with fail
    refine (HA.out _).mono ?_
    rintro e w3 ⟨c3, rfl, hr3, g3⟩
    have G3 := hid (G1.out.trans g3)
    have R3 := hid hr3
    clear g3 hr3
    go_wp2_with fail
    refine (HI2.out _ _ _ R3.out).mono ?_
    rintro e w4 ⟨rfl, rfl⟩
    by_cases h2 : 0 ≤ F2
    · have HKT : Hid (keptW s = true) := by show _ = _; rw [HK.out, decide_eq_true h2]; simp
      go_wp2_with fail
      go_ret
      exact ⟨by rw [HKT.out]; rfl, G3.out⟩
    · have HL := hid (row_lit w4 keptL)
      go_wp2_with fail
      refine (HI3.out _ _ _ HL.out).mono ?_
      rintro e w5 ⟨rfl, rfl⟩
      go_wp2_with fail
      go_ret
      exact ⟨by rw [HK.out]; rfl, G3.out.trans (World.grownBy_alloc _ _ none)⟩
end Go.Proofs.Ytnimdngiejcljaa
