/- The program's own Compare. -/
import Derived.Test.YtailaehpgmpaaaaRlab
import Derived.Lib.Bytealg
namespace Go.Proofs.Ytailaehpgmpaaaa
open Go.RowKit
set_option linter.unusedVariables false

theorem cmp_lists : ∀ (x y : List UInt8), Lib.compareBytes x y = if Op.bytesLess x y then -1 else if x = y then 0 else 1
  | [], [] => by simp [Lib.compareBytes, Op.bytesLess]
  | [], _ :: _ => by simp [Lib.compareBytes, Op.bytesLess]
  | _ :: _, [] => by simp [Lib.compareBytes, Op.bytesLess]
  | a :: x, b :: y => by
    have ih := cmp_lists x y
    unfold Lib.compareBytes Op.bytesLess
    by_cases h1 : a < b
    · simp [h1]
    · by_cases h2 : b < a
      · have hne : ¬ a = b := fun e => by subst e; exact h1 h2
        simp [h1, h2, hne]
      · have he : a = b := UInt8.le_antisymm (UInt8.not_lt.1 h2) (UInt8.not_lt.1 h1)
        subst he
        simp [h1, ih]
theorem cmp_ord (a b : ByteArray) : Lib.compareBytes a.data.toList b.data.toList = ordR a b := by
  rw [cmp_lists]
  unfold ordR bless
  rw [ByteArray.toList_eq, ByteArray.toList_eq]
  have e : (a.data.toList = b.data.toList) ↔ a = b := ⟨fun h => ByteArray.ext (Array.toList_inj.1 h), fun h => by rw [h]⟩
  simp only [e]
theorem g_native (a b : ByteArray) (w : World) : Calls Try.prog 90 #[.string a, .string b] w fun e w' => e = .returned (.int .i64 (ordR a b)) ∧ w = w' := by
  have hc : ∀ w, (callFunc 99 #[.string a, .string b]).run Try.prog w = .ok (.value (.int .i64 (ordR a b))) w := fun w => by
    rw [run_callFunc_extern Try.func99 (by kernel_rfl) (by kernel_rfl) (by kernel_rfl) (e := Extern.BytealgCompare.compare) (by kernel_rfl), Lib.run_compareString, cmp_ord]
    rfl
  generalize ordR a b = r at hc ⊢
  go_enter Try.func90, Try.ntmps90
  go_wp2_with (simp only [hc])
  go_ret
  exact ⟨rfl, rfl⟩
theorem g_strcmp (a b : ByteArray) (w : World) : Calls Try.prog 78 #[.string a, .string b] w fun e w' => e = .returned (.int .i64 (ordR a b)) ∧ w = w' := by
  have HC := g_native a b w
  generalize ordR a b = r at HC ⊢
  go_enter Try.func78, Try.ntmps78
  go_wp2_with fail
  refine HC.mono ?_
  rintro e w1 ⟨rfl, rfl⟩
  go_wp2
  go_ret
  exact ⟨rfl, rfl⟩
def one (x y : Lab) : Int := if ordR x.1 y.1 ≠ 0 then ordR x.1 y.1 else ordR x.2 y.2
theorem gb_two (w : World) (o o' : Obj) : w.grownBy ((w.alloc o).alloc o') none := (World.grownBy_alloc w o none).trans (World.grownBy_alloc _ o' none)
theorem g_one (s1 s2 t1 t2 : ByteArray) (w : World) : Calls Try.prog 65 #[.agg #[.string s1, .string s2], .agg #[.string t1, .string t2]] w fun e w' => e = .returned (.int .i64 (one (s1, s2) (t1, t2))) ∧ w.grownBy w' none := by
  unfold one
  have HO1 : Hid (∀ w, Calls Try.prog 78 #[.string s1, .string t1] w fun e w' => e = .returned (.int .i64 (ordR s1 t1)) ∧ w = w') := g_strcmp s1 t1
  have HO2 : Hid (∀ w, Calls Try.prog 78 #[.string s2, .string t2] w fun e w' => e = .returned (.int .i64 (ordR s2 t2)) ∧ w = w') := g_strcmp s2 t2
  by_cases h : ordR s1 t1 = 0
  · have q1 : (ordR s1 t1 != 0) = false := by simpa using h
    simp only [h, ne_eq, not_true_eq_false, if_false]
    generalize ordR s1 t1 = o1 at HO1 q1
    generalize ordR s2 t2 = o2 at HO2 ⊢
    clear h
    go_enter Try.func65, Try.ntmps65
    go_wp2_with fail
    refine (HO1.out _).mono ?_
    rintro e w1 ⟨rfl, rfl⟩
    go_wp2_with fail
    refine (HO2.out _).mono ?_
    rintro e w1 ⟨rfl, rfl⟩
    go_wp2
    go_ret
    exact ⟨rfl, gb_two w _ _⟩
  · have q1 : (ordR s1 t1 != 0) = true := by simpa using h
    simp only [ne_eq, h, not_false_eq_true, if_true]
    generalize ordR s1 t1 = o1 at HO1 q1
    clear h HO2
    go_enter Try.func65, Try.ntmps65
    go_wp2_with fail
    refine (HO1.out _).mono ?_
    rintro e w1 ⟨rfl, rfl⟩
    go_wp2
    go_ret
    exact ⟨rfl, gb_two w _ _⟩
theorem CmpAt.step {xs ys : List Lab} {k : Nat} {R : Int} {x y : Lab} (h : CmpAt xs ys k R) (hx : xs[k]? = some x) (hy : ys[k]? = some y) : (if one x y ≠ 0 then one x y else cmpR (xs.drop (k + 1)) (ys.drop (k + 1))) = R := by
  have := h.next hx hy
  rw [← this]
  unfold one
  by_cases h1 : ordR x.1 y.1 = 0
  · simp [h1]
  · simp [h1]

set_option maxHeartbeats 1000000 in
theorem g_cmpfunc (a b : Option Addr) (xs ys : List Lab) (L M c d : Nat) (R : Int) (w : World) (hx : SRd labE w a xs) (hy : SRd labE w b ys) (hL : xs.length = L) (hM : ys.length = M) (hz : L ≤ 4398046511104) (hz2 : M ≤ 4398046511104) (hR : cmpR xs ys = R) :
    Calls Try.prog 64 #[.slice a L c, .slice b M d, .func (.func 65) #[] #[]] w fun e w' => e = .returned (.int .i64 R) ∧ w.grownBy w' none := by
  have HX : Hid (SRd labE w a xs) := hx
  have HY : Hid (SRd labE w b ys) := hy
  have HL : Hid (xs.length = L) := hL
  have HM : Hid (ys.length = M) := hM
  have H0 : Hid (CmpAt xs ys 0 R) := hR
  clear hx hy hL hM hR
  go_enter Try.func64, Try.ntmps64
  go_wp2
  go_loopw [13] (fun i wr => ∃ k : Nat, k ≤ L ∧ k ≤ M ∧ i = .int .i64 k ∧ w.grownBy wr none ∧ CmpAt xs ys k R) (fun i _ => L - (intOf i).toNat)
  case atStart => exact ⟨0, Nat.zero_le _, Nat.zero_le _, rfl, World.grownBy.refl _ _, H0.out⟩
  case round =>
    obtain ⟨k, hk, hk2, rfl, hg, hc⟩ := hrel
    have HG : Hid (w.grownBy wr none) := hg
    have HC : Hid (CmpAt xs ys k R) := hc
    clear hc hg H0
    by_cases hlt : k < L ∧ k < M
    · have hl := HL.out
      have hm := HM.out
      obtain ⟨ba, offa, rfl, hca⟩ := (HX.out.grown HG.out (by simp)).at (by omega)
      obtain ⟨bb, offb, rfl, hcb⟩ := (HY.out.grown HG.out (by simp)).at (by omega)
      obtain ⟨⟨s1, s2⟩, ex⟩ : ∃ x, xs[k]? = some x := ⟨_, List.getElem?_eq_getElem (by omega)⟩
      obtain ⟨⟨t1, t2⟩, ey⟩ : ∃ y, ys[k]? = some y := ⟨_, List.getElem?_eq_getElem (by omega)⟩
      have a0 : wr.cell? ⟨ba, offa + k * 2, none⟩ = some (.string s1) := hca k _ 0 _ ex rfl
      have a1 : wr.cell? ⟨ba, offa + k * 2 + 1, none⟩ = some (.string s2) := by rw [Nat.add_assoc]; exact hca k _ 1 _ ex rfl
      have b0 : wr.cell? ⟨bb, offb + k * 2, none⟩ = some (.string t1) := hcb k _ 0 _ ey rfl
      have b1 : wr.cell? ⟨bb, offb + k * 2 + 1, none⟩ = some (.string t2) := by rw [Nat.add_assoc]; exact hcb k _ 1 _ ey rfl
      have HN : Hid (_ = R) := HC.out.step ex ey
      have hi1 : (k : Int) < (L : Int) := by omega
      have hi2 : (k : Int) < (M : Int) := by omega
      have HO1 : Hid (∀ w, Calls Try.prog 65 #[.agg #[.string s1, .string s2], .agg #[.string t1, .string t2]] w fun e w' => e = .returned (.int .i64 (one (s1, s2) (t1, t2))) ∧ w.grownBy w' none) := g_one s1 s2 t1 t2
      have hk1 : k < L := hlt.1
      have hk2' : k < M := hlt.2
      have c0 : (wr.alloc (.cells #[.string s1, .string s2] 52)).cell? ⟨bb, offb + k * 2, none⟩ = some (.string t1) := (World.grownBy_alloc wr _ none).cell b0 (by simp)
      have c1 : (wr.alloc (.cells #[.string s1, .string s2] 52)).cell? ⟨bb, offb + k * 2 + 1, none⟩ = some (.string t2) := (World.grownBy_alloc wr _ none).cell b1 (by simp)
      clear hca hcb ex ey hl hm hlt b0 b1
      by_cases h1 : one (s1, s2) (t1, t2) = 0
      · have q1 : (one (s1, s2) (t1, t2) != 0) = false := by simpa using h1
        have HS : Hid (CmpAt xs ys (k + 1) R) := by
          have h := HN.out
          rw [if_neg (by simpa using h1)] at h
          exact h
        generalize one (s1, s2) (t1, t2) = o1 at HO1 q1
        clear h1 HN
        go_wp2_with fail
        refine (HO1.out _).mono ?_
        rintro e w2 ⟨rfl, hg2⟩
        have HG2 : Hid (w.grownBy w2 none) := HG.out.trans ((gb_two wr _ _).trans hg2)
        clear hg2
        go_wp2
        go_roundw
        case rel => exact ⟨k + 1, by omega, by omega, by go_num, HG2.out, HS.out⟩
        case measure => simp [intOf]; omega
      · have q1 : (one (s1, s2) (t1, t2) != 0) = true := by simpa using h1
        have HS : Hid (one (s1, s2) (t1, t2) = R) := by
          have h := HN.out
          rw [if_pos (by simpa using h1)] at h
          exact h
        rw [HS.out] at HO1 q1
        clear h1 HN HS
        go_wp2_with fail
        refine (HO1.out _).mono ?_
        rintro e w2 ⟨rfl, hg2⟩
        have HG2 : Hid (w.grownBy w2 none) := HG.out.trans ((gb_two wr _ _).trans hg2)
        clear hg2
        go_wp2
        go_ret
        exact ⟨rfl, HG2.out⟩
    · have HD : Hid ((if L < M then (-1 : Int) else if M < L then 1 else 0) = R) := by
        have h := HC.out.done (by have := HL.out; omega) (by have := HM.out; omega) (by have := HL.out; have := HM.out; omega)
        rw [HL.out, HM.out] at h
        exact h
      by_cases h2 : k < L
      · have hkm : k = M := by omega
        have HR : Hid ((1 : Int) = R) := by have h := HD.out; rw [if_neg (by omega), if_pos (by omega)] at h; exact h
        have hl := HL.out
        obtain ⟨ba, offa, rfl, hca⟩ := (HX.out.grown HG.out (by simp)).at (by omega)
        obtain ⟨⟨s1, s2⟩, ex⟩ : ∃ x, xs[k]? = some x := ⟨_, List.getElem?_eq_getElem (by omega)⟩
        have a0 : wr.cell? ⟨ba, offa + k * 2, none⟩ = some (.string s1) := hca k _ 0 _ ex rfl
        have a1 : wr.cell? ⟨ba, offa + k * 2 + 1, none⟩ = some (.string s2) := by rw [Nat.add_assoc]; exact hca k _ 1 _ ex rfl
        have hi1 : (k : Int) < (L : Int) := by omega
        subst hkm
        clear hca ex hl hlt HD
        go_wp2
        go_ret
        exact ⟨ret_int HR.out, HG.out.trans (World.grownBy_alloc wr _ none)⟩
      · have hi1 : ¬ (k : Int) < (L : Int) := by omega
        by_cases h1 : L < M
        · have HR : Hid ((-1 : Int) = R) := by have h := HD.out; rw [if_pos h1] at h; exact h
          have hi2 : (L : Int) < (M : Int) := by omega
          clear hlt HD
          go_wp2
          go_ret
          exact ⟨ret_int HR.out, HG.out⟩
        · have HR : Hid ((0 : Int) = R) := by have h := HD.out; rw [if_neg h1, if_neg (by omega)] at h; exact h
          have hi2 : ¬ (L : Int) < (M : Int) := by omega
          clear hlt HD
          go_wp2
          go_ret
          exact ⟨ret_int HR.out, HG.out⟩
theorem f_compare (a b : Option Addr) (xs ys : List Lab) (L M c d : Nat) (R : Int) (w : World) (hx : SRd labE w a xs) (hy : SRd labE w b ys) (hL : xs.length = L) (hM : ys.length = M) (hz : L ≤ 4398046511104) (hz2 : M ≤ 4398046511104) (hR : cmpR xs ys = R) :
    Calls Try.prog 37 #[.slice a L c, .slice b M d] w fun e w' => e = .returned (.int .i64 R) ∧ w.grownBy w' none := by
  have HC := g_cmpfunc a b xs ys L M c d R w hx hy hL hM hz hz2 hR
  clear hx hy hL hM hR
  go_enter Try.func37, Try.ntmps37
  go_wp2_with fail
  refine HC.mono ?_
  rintro e w1 ⟨rfl, hg⟩
  go_wp2
  go_ret
  exact ⟨rfl, hg⟩
end Go.Proofs.Ytailaehpgmpaaaa
