/- Key: the program's and the document's. (Printed by mk_hf.py.) -/
import Derived.Test.YtecnocdffhmkaaaDoorHe
import Derived.Test.YtecnocdffhmkaaaDoorMe
namespace Go.Proofs.YtecnocdffhmkaaaDoor
open Go.RowKit
set_option linter.unusedVariables false
set_option maxRecDepth 20000

abbrev clB : ByteArray := ⟨#[99, 108, 117, 115, 116, 101, 114]⟩
abbrev rpB : ByteArray := ⟨#[114, 101, 112, 108, 105, 99, 97]⟩
def hashN (c : ByteArray) : Nat := (fnvR (encR [(clB, c)])).toNat
def keyR (t c : ByteArray) : ByteArray := ⟨#[104, 97, 47]⟩ ++ t ++ ⟨#[47]⟩ ++ ⟨(Lib.decDigits (hashN c)).toArray⟩
theorem fnv_range (zs : List Int) : 0 ≤ fnvR zs ∧ fnvR zs ≤ 4294967295 := by
  rcases List.eq_nil_or_concat zs with rfl | ⟨l, x, rfl⟩
  · simp [fnvR]
  · rw [fnvR, List.concat_eq_append, List.foldl_append]
    simp only [List.foldl_cons, List.foldl_nil, fnv1]
    omega
theorem hashN_eq (c : ByteArray) : fnvR (encR [(clB, c)]) = (hashN c : Int) ∧ hashN c ≤ 4294967295 := by
  have := fnv_range (encR [(clB, c)])
  unfold hashN
  omega
theorem cl_len (c : ByteArray) (hc : c.size ≤ 140737488351232) : (encR [(clB, c)]).length ≤ 140737488354000 := by
  have h1 := enc_len 1 (by omega)
  have h2 := enc_len 7 (by omega)
  have h3 := enc_len c.size (by omega)
  have h4 := sInts_len c
  have h5 : (sInts clB).length = 7 := rfl
  have h6 : clB.size = 7 := rfl
  show (enc 1 ++ ((enc 7 ++ sInts clB ++ enc c.size ++ sInts c) ++ [])).length ≤ _
  simp only [List.length_append, List.length_nil]
  omega
theorem dig_size (u : Nat) (h : u < 18446744073709551616) : (⟨(Lib.decDigits u).toArray⟩ : ByteArray).size ≤ 20 := by
  show (Lib.decDigits u).toArray.size ≤ 20
  rw [List.size_toArray, Lib.decDigits_length]
  by_cases h1 : 1 ≤ u
  · have := Lib.numDigits_eq u h1 h
    split at this <;> omega
  · obtain rfl : u = 0 := by omega
    rw [← Lib.decDigits_length, Lib.decDigits_one (by omega)]
    simp
theorem cl_hash (f : FuncId) (hf : f = 46 ∨ f = 48) (c : ByteArray) (w : World) (hc : c.size ≤ 140737488351232) :
    Calls Tryd.prog f #[.slice (some ⟨w.heap.size, 0, none⟩) 1 1] (w.alloc (.cells #[.string clB, .string c] 63)) fun e w' => e = .returned (.int .u32 (hashN c : Int)) ∧ w.grownBy w' none := by
  have h1 : SRd labE (w.alloc (.cells #[.string clB, .string c] 63)) (some ⟨w.heap.size, 0, none⟩) [(clB, c)] := srd_lit labE 63 w [(clB, c)]
  have hg := World.grownBy_alloc w (.cells #[.string clB, .string c] 63) none
  rcases hf with rfl | rfl
  · exact (f_hash _ _ 1 1 _ _ h1 rfl (by omega) (cl_len c hc) (hashN_eq c).1).mono fun e w' ⟨h2, h3⟩ => ⟨h2, hg.trans h3⟩
  · exact (r_hash _ _ 1 1 _ _ h1 rfl (by omega) (cl_len c hc) (hashN_eq c).1).mono fun e w' ⟨h2, h3⟩ => ⟨h2, hg.trans h3⟩
set_option maxHeartbeats 1000000 in
theorem f_key (t c : ByteArray) (w : World) (ht : t.size ≤ 140737488351232) (hc : c.size ≤ 140737488351232) (htab : Tab w) :
    Calls Tryd.prog 21 #[.string t, .string c] w fun e w' => e = .returned (.string (keyR t c)) ∧ w.grownBy w' none := by
  have HH : Hid (Calls Tryd.prog 46 #[.slice (some ⟨w.heap.size, 0, none⟩) 1 1] (w.alloc (.cells #[.string clB, .string c] 63)) fun e w' => e = .returned (.int .u32 (hashN c : Int)) ∧ w.grownBy w' none) := cl_hash 46 (.inl rfl) c w hc
  have hb := (hashN_eq c).2
  have HT : Hid (Tab w) := htab
  have HK : Hid (keyR t c = ⟨#[104, 97, 47]⟩ ++ t ++ ⟨#[47]⟩ ++ ⟨(Lib.decDigits (hashN c)).toArray⟩) := rfl
  generalize hashN c = u at HH hb HK
  have HF : Hid (∀ w1, w.grownBy w1 none → Calls Tryd.prog 47 #[.int .u64 (u : Int), .int .i64 10] w1 fun e w' => e = .returned (.string ⟨(Lib.decDigits u).toArray⟩) ∧ w1.grownBy w' none) := fun w1 hg => g_format u w1 (by omega) (HT.out.grown hg)
  have hds := dig_size u (by omega)
  generalize (⟨(Lib.decDigits u).toArray⟩ : ByteArray) = D at HF HK hds
  have hi0 : (0 : Int) ≤ (u : Int) := by omega
  have hi1 : (u : Int) ≤ 4294967295 := by omega
  clear htab hc
  go_enter Tryd.func21, Tryd.ntmps21
  go_wp2_with fail
  refine HH.out.mono ?_
  rintro e w1 ⟨rfl, hg1⟩
  have HG1 : Hid (w.grownBy w1 none) := hg1
  clear hg1
  go_wp2_with fail
  refine (HF.out w1 HG1.out).mono ?_
  rintro e w2 ⟨rfl, hg2⟩
  go_wp2
  go_ret
  exact ⟨ret_str HK.out.symm, HG1.out.trans hg2⟩
/-- The document's digits, from the last one on. -/
def DigAt (u0 u : Nat) (first : Bool) (l : List UInt8) : Prop := (first = true ∧ u = u0 ∧ l = []) ∨ (first = false ∧ 0 < u ∧ Lib.decDigits u ++ l = Lib.decDigits u0) ∨ (first = false ∧ u = 0 ∧ l = Lib.decDigits u0)
theorem DigAt.next {u0 u : Nat} {first : Bool} {l : List UInt8} (h : DigAt u0 u first l) (hc : first = true ∨ 0 < u) : DigAt u0 (u / 10) false (UInt8.ofNat (48 + u % 10) :: l) := by
  have key : Lib.decDigits u ++ l = Lib.decDigits u0 := by
    rcases h with ⟨_, rfl, rfl⟩ | ⟨_, _, h⟩ | ⟨h1, rfl, _⟩
    · simp
    · exact h
    · rcases hc with hc | hc
      · rw [h1] at hc; cases hc
      · omega
  by_cases h10 : u < 10
  · refine .inr (.inr ⟨rfl, by omega, ?_⟩)
    rw [Lib.decDigits_one h10] at key
    rw [← key, Nat.mod_eq_of_lt h10]
    rfl
  · refine .inr (.inl ⟨rfl, by omega, ?_⟩)
    rw [Lib.decDigits, dif_neg h10] at key
    rw [← key]
    simp
theorem DigAt.done {u0 u : Nat} {first : Bool} {l : List UInt8} (h : DigAt u0 u first l) (h1 : first = false) (h2 : ¬ 0 < u) : l = Lib.decDigits u0 := by
  rcases h with ⟨h, _, _⟩ | ⟨_, h, _⟩ | ⟨_, _, h⟩
  · rw [h1] at h; cases h
  · omega
  · exact h
theorem one_app (b : UInt8) (l : List UInt8) : (⟨#[b]⟩ : ByteArray) ++ ⟨l.toArray⟩ = ⟨(b :: l).toArray⟩ := by
  apply ByteArray.ext
  rw [ByteArray.data_append]
  simp
theorem dig_len {u0 u : Nat} {first : Bool} {l : List UInt8} (h : DigAt u0 u first l) : l.length ≤ (Lib.decDigits u0).length := by
  rcases h with ⟨_, _, rfl⟩ | ⟨_, _, h⟩ | ⟨_, _, rfl⟩
  · simp
  · rw [← h, List.length_append]; omega
  · exact Nat.le_refl _
def boolM : Value → Nat
  | .bool true => 1
  | _ => 0
theorem dig_str (u : Nat) : strOfNums [(((48 + u % 10 : Nat) : Nat) : Int)] = ⟨#[UInt8.ofNat (48 + u % 10)]⟩ := rfl
set_option maxHeartbeats 2000000 in
theorem r_key (t c : ByteArray) (w : World) (ht : t.size ≤ 140737488351232) (hc : c.size ≤ 140737488351232) :
    Calls Tryd.prog 22 #[.string t, .string c] w fun e w' => e = .returned (.string (keyR t c)) ∧ w.grownBy w' none := by
  have HH : Hid (Calls Tryd.prog 48 #[.slice (some ⟨w.heap.size, 0, none⟩) 1 1] (w.alloc (.cells #[.string clB, .string c] 63)) fun e w' => e = .returned (.int .u32 (hashN c : Int)) ∧ w.grownBy w' none) := cl_hash 48 (.inr rfl) c w hc
  have hb := (hashN_eq c).2
  have HK : Hid (keyR t c = ⟨#[104, 97, 47]⟩ ++ t ++ ⟨#[47]⟩ ++ ⟨(Lib.decDigits (hashN c)).toArray⟩) := rfl
  generalize hashN c = u0 at HH hb HK
  have HDS : Hid ((Lib.decDigits u0).length ≤ 20) := by
    have h := dig_size u0 (by omega)
    have e : (⟨(Lib.decDigits u0).toArray⟩ : ByteArray).size = (Lib.decDigits u0).length := List.size_toArray
    rw [e] at h
    exact h
  clear hc
  go_enter Tryd.func22, Tryd.ntmps22
  go_wp2_with fail
  refine HH.out.mono ?_
  rintro e w1 ⟨rfl, hg1⟩
  have HG1 : Hid (w.grownBy w1 none) := hg1
  clear hg1
  go_wp2
  go_loopw [5, 6, 7] (fun t5 t6 t7 wr => ∃ (u : Nat) (S : ByteArray) (l : List UInt8) (first : Bool), u ≤ 4294967295 ∧ t5 = .int .u32 (u : Int) ∧ t6 = .string S ∧ t7 = .bool first ∧ S = ⟨l.toArray⟩ ∧ DigAt u0 u first l ∧ w.grownBy wr none) (fun t5 _ t7 _ => (intOf t5).toNat + boolM t7)
  case atStart => exact ⟨u0, _, [], true, hb, rfl, rfl, rfl, rfl, .inl ⟨rfl, rfl, rfl⟩, HG1.out⟩
  case round =>
    obtain ⟨u, S, l, first, hu, rfl, rfl, rfl, hS, hd, hg⟩ := hrel
    have HD : Hid (DigAt u0 u first l) := hd
    have HG : Hid (w.grownBy wr none) := hg
    have HS : Hid (S = ⟨l.toArray⟩) := hS
    have hsz : S.size ≤ 20 := by
      have h1 := dig_len hd
      have h2 := HDS.out
      rw [hS]
      show l.toArray.size ≤ 20
      rw [List.size_toArray]
      omega
    clear hd hg hS
    by_cases hc : first = true ∨ 0 < u
    · have HN : Hid (DigAt u0 (u / 10) false (UInt8.ofNat (48 + u % 10) :: l)) := HD.out.next hc
      have hcv : (convert 33 9 (.slice (some ⟨wr.heap.size, 0, none⟩) 1 1)).run Tryd.prog (wr.alloc (.cells #[.int .u8 (48 + (u : Int) % 10)] 5)) = .ok (.string ⟨#[UInt8.ofNat (48 + u % 10)]⟩) (wr.alloc (.cells #[.int .u8 (48 + (u : Int) % 10)] 5)) := by
        have h := conv_rd (wr.alloc (.cells #[.int .u8 (((48 + u % 10 : Nat) : Nat) : Int)] 5)) (some ⟨wr.heap.size, 0, none⟩) [(((48 + u % 10 : Nat) : Nat) : Int)] 1 1 (rd_one wr _ (by omega)) rfl
        rw [dig_str] at h
        rw [show (48 + (u : Int) % 10) = (((48 + u % 10 : Nat) : Nat) : Int) by omega]
        exact h
      have hb1 : (⟨#[UInt8.ofNat (48 + u % 10)]⟩ : ByteArray).size = 1 := rfl
      have HB : Hid ((⟨#[UInt8.ofNat (48 + u % 10)]⟩ : ByteArray) ++ S = ⟨(UInt8.ofNat (48 + u % 10) :: l).toArray⟩) := by show _ = _; rw [HS.out]; exact one_app _ _
      generalize (⟨#[UInt8.ofNat (48 + u % 10)]⟩ : ByteArray) = b1 at hcv hb1 HB
      have hi0 : (0 : Int) ≤ (u : Int) := by omega
      have hi1 : (u : Int) ≤ 4294967295 := by omega
      have HGA : Hid (w.grownBy (wr.alloc (.cells #[.int .u8 (48 + (u : Int) % 10)] 5)) none) := HG.out.trans (World.grownBy_alloc _ _ none)
      cases first with
      | true =>
        clear hc
        go_wp2
        go_roundw
        case rel => exact ⟨u / 10, _, _, false, by omega, by go_num, rfl, rfl, HB.out, HN.out, HGA.out⟩
        case measure => simp [intOf, boolM]; omega
      | false =>
        have hu0 : 0 < u := by rcases hc with hc | hc; cases hc; exact hc
        have hq : decide ((0 : Int) < (u : Int)) = true := by simp; omega
        clear hc
        go_wp2
        go_roundw
        case rel => exact ⟨u / 10, _, _, false, by omega, by go_num, rfl, rfl, HB.out, HN.out, HGA.out⟩
        case measure => simp [intOf, boolM]; omega
    · have hf : first = false := by cases first with | true => exact absurd (.inl rfl) hc | false => rfl
      have h0 : u = 0 := by omega
      have HE : Hid (l = Lib.decDigits u0) := HD.out.done hf (by omega)
      subst hf h0
      clear hc
      go_wp2
      go_ret
      refine ⟨ret_str ?_, HG.out⟩
      rw [HK.out, HS.out, HE.out]
end Go.Proofs.YtecnocdffhmkaaaDoor
