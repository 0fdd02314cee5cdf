/- The document's own Decode. -/
import Derived.Test.YtailaehpgmpaaaaRtext
import Derived.Test.YtailaehpgmpaaaaCback
namespace Go.Proofs.Ytailaehpgmpaaaa
open Go.RowKit
set_option linter.unusedVariables false

def decL (zs : List Int) : Nat → Int → List Lab → List Lab × Int × Int
  | 0, p, acc => (acc, p, 0)
  | m + 1, p, acc =>
    if (textR zs p).2.2 ≠ 0 then ([], 0, (textR zs p).2.2)
    else if (textR zs (textR zs p).2.1).2.2 ≠ 0 then ([], 0, (textR zs (textR zs p).2.1).2.2)
    else decL zs m (textR zs (textR zs p).2.1).2.1 (acc ++ [((textR zs p).1, (textR zs (textR zs p).2.1).1)])
def shut (x : List Lab × Int × Int) : List Lab × Int × Int := if x.2.2 ≠ 0 then ([], 0, x.2.2) else if checkR x.1 ≠ 0 then ([], 0, checkR x.1) else (x.1, x.2.1, 0)
def decodeR (zs : List Int) (p : Int) : List Lab × Int × Int :=
  if (uintR zs p).2.2 ≠ 0 then ([], 0, (uintR zs p).2.2)
  else if 16 < (uintR zs p).1 then ([], 0, 34)
  else shut (decL zs (uintR zs p).1.toNat (uintR zs p).2.1 [])

/-- A list of labels in new memory, or none. -/
def LOut (w w' : World) (v : Option Addr) (n c : Nat) (ls : List Lab) : Prop := SOwn labE 52 w' w.heap.size (.slice v n c) n ls
theorem LOut.nil (w w' : World) : LOut w w' none 0 0 [] := SOwn.nil 52 w' w.heap.size

set_option maxHeartbeats 400000 in
theorem dec_early (a : Option Addr) (zs : List Int) (L cap : Nat) (p u1 u2 u3 r3 : Int) (w : World) (hr : Rd w a zs) (hL : zs.length = L) (hz : (L : Int) ≤ 140737488355000) (hU : uintR zs p = (u1, u2, u3))
    (hR : u3 ≠ 0 ∧ r3 = u3 ∨ u3 = 0 ∧ 16 < u1 ∧ r3 = 34) :
    Calls Try.prog 21 #[.slice a L cap, .int .i64 p] w fun e w' => e = .returned (.tuple #[.slice none 0 0, .int .i64 0, .int .i64 r3]) ∧ w = w' := by
  have HC := ruint a zs L cap p u1 u2 u3 w hr hL hz hU
  rcases hR with ⟨h3, rfl⟩ | ⟨rfl, h1, rfl⟩
  · have e3 : (r3 != 0) = true := by simpa using h3
    clear hr hL hU h3
    go_enter Try.func21, Try.ntmps21
    go_wp2_with fail
    refine HC.mono ?_
    rintro e w' ⟨rfl, rfl⟩
    go_wp2
    go_ret3
    exact ⟨rfl, rfl⟩
  · have hok := uintR_ok hr.byte hU
    have hub : 0 ≤ u1 ∧ u1 ≤ 18446744073709551615 := by omega
    have hd : decide (16 < u1) = true := by simpa using h1
    clear hr hL hU hok h1
    go_enter Try.func21, Try.ntmps21
    go_wp2_with fail
    refine HC.mono ?_
    rintro e w' ⟨rfl, rfl⟩
    go_wp2
    go_ret3
    exact ⟨rfl, rfl⟩

set_option maxHeartbeats 2000000 in
theorem dec_late (a : Option Addr) (zs : List Int) (L cap : Nat) (p u2 : Int) (n : Nat) (ls : List Lab) (r2 r3 : Int) (w : World) (hr : Rd w a zs) (hL : zs.length = L) (hcap : L ≤ cap) (hz : (L : Int) ≤ 140737488355000) (hU : uintR zs p = ((n : Int), u2, 0)) (hn : n ≤ 16)
    (hR : shut (decL zs n u2 []) = (ls, r2, r3)) :
    Calls Try.prog 21 #[.slice a L cap, .int .i64 p] w fun e w' => ∃ v m c, e = .returned (.tuple #[.slice v m c, .int .i64 r2, .int .i64 r3]) ∧ LOut w w' v m c ls ∧ w.grownBy w' none := by
  have HC := ruint a zs L cap p n u2 0 w hr hL hz hU
  have HR : Hid (Rd w a zs) := hr
  have HL : Hid (zs.length = L) := hL
  have H0 : Hid (shut (decL zs (n - 0) u2 []) = (ls, r2, r3)) := hR
  have hd : decide ((16 : Int) < (n : Int)) = false := by simp; omega
  clear hr hL hU hR
  go_enter Try.func21, Try.ntmps21
  go_wp2_with fail
  refine HC.mono ?_
  rintro e w' ⟨rfl, rfl⟩
  go_wp2
  go_loopw [1, 9, 10] (fun t1 t9 t10 wr => ∃ (i N : Nat) (q : Int) (acc : List Lab), i ≤ n ∧ N ≤ i ∧ t10 = .int .i64 i ∧ t1 = .int .i64 q ∧ SOwn labE 52 wr w.heap.size t9 N acc ∧ shut (decL zs (n - i) q acc) = (ls, r2, r3) ∧ w.grownBy wr none) (fun _ _ t10 _ => n - (intOf t10).toNat)
  case atStart => exact ⟨0, 0, u2, [], Nat.zero_le _, Nat.zero_le _, rfl, rfl, SOwn.nil 52 w w.heap.size, H0.out, World.grownBy.refl _ _⟩
  case round =>
    obtain ⟨i, N, q, acc, hi, hN, rfl, rfl, ho, hs, hg⟩ := hrel
    have HO : Hid (SOwn labE 52 wr w.heap.size u9 N acc) := ho
    have HS : Hid (shut (decL zs (n - i) q acc) = (ls, r2, r3)) := hs
    have HG : Hid (w.grownBy wr none) := hg
    clear ho hs hg H0
    by_cases hlt : i < n
    · obtain ⟨s1, n1, e1, h1⟩ : ∃ s n e, textR zs q = (s, n, e) := ⟨_, _, _, rfl⟩
      obtain ⟨s2, n2, e2, h2⟩ : ∃ s n e, textR zs n1 = (s, n, e) := ⟨_, _, _, rfl⟩
      have hst := HS.out
      rw [show n - i = (n - (i + 1)) + 1 by omega, decL, h1] at hst
      simp only [h2] at hst
      have HT1 : Hid (Calls Try.prog 55 #[.slice a L cap, .int .i64 q] wr fun e w' => e = .returned (.tuple #[.string s1, .int .i64 n1, .int .i64 e1]) ∧ wr = w') := rtext a zs L cap q s1 n1 e1 wr (HR.out.grown HG.out (by simp)) HL.out hcap hz h1
      have HT2 : Hid (Calls Try.prog 55 #[.slice a L cap, .int .i64 n1] wr fun e w' => e = .returned (.tuple #[.string s2, .int .i64 n2, .int .i64 e2]) ∧ wr = w') := rtext a zs L cap n1 s2 n2 e2 wr (HR.out.grown HG.out (by simp)) HL.out hcap hz h2
      have hii : (i : Int) < (n : Int) := by omega
      clear h1 h2 HS
      by_cases z1 : e1 = 0
      · have q1 : (e1 != 0) = false := by simpa using z1
        rw [if_neg (by simpa using z1)] at hst
        by_cases z2 : e2 = 0
        · have q2 : (e2 != 0) = false := by simpa using z2
          rw [if_neg (by simpa using z2)] at hst
          have HN : Hid (shut (decL zs (n - (i + 1)) n2 (acc ++ [(s1, s2)])) = (ls, r2, r3)) := hst
          have HW : Hid (w.heap.size ≤ wr.heap.size) := HG.out.size
          clear hst z1 z2
          go_wp2_with fail
          refine HT1.out.mono ?_
          rintro e w1 ⟨rfl, rfl⟩
          go_wp2_with fail
          refine HT2.out.mono ?_
          rintro e w1 ⟨rfl, rfl⟩
          go_wp2_with (at_builtin; refine wpList_append_s labT rfl (.tmp 56) (.tmp 60) rfl w.heap.size u9 N acc rfl (SOwn.kept HO.out (World.grownBy_alloc wr _ none) (Classical.em _)) (some ⟨wr.heap.size, 0, none⟩) [(s1, s2)] 1 1 rfl rfl (llit wr [(s1, s2)]) (by simp) (by omega) (by unfold maxLen; omega) (Nat.le_trans HW.out (World.grownBy_alloc wr _ none).size) ?_; intro v2 w2 ho2 hg2 hn2)
          go_roundw
          case rel => exact ⟨i + 1, N + 1, n2, _, by omega, by omega, by go_num, rfl, ho2, HN.out, gb_trans (HG.out.trans (World.grownBy_alloc wr _ none)) hg2 (fun j hj => .inl (SOwn.block HO.out j hj).1)⟩
          case measure => simp [intOf]; omega
        · have q2 : (e2 != 0) = true := by simpa using z2
          rw [if_pos (by simpa using z2), shut, if_pos (by simpa using z2)] at hst
          simp only [Prod.mk.injEq] at hst
          obtain ⟨rfl, rfl, rfl⟩ := hst
          clear z1 z2
          go_wp2_with fail
          refine HT1.out.mono ?_
          rintro e w1 ⟨rfl, rfl⟩
          go_wp2_with fail
          refine HT2.out.mono ?_
          rintro e w1 ⟨rfl, rfl⟩
          go_wp2
          go_ret3
          exact ⟨none, 0, 0, rfl, LOut.nil _ _, HG.out⟩
      · have q1 : (e1 != 0) = true := by simpa using z1
        rw [if_pos (by simpa using z1), shut, if_pos (by simpa using z1)] at hst
        simp only [Prod.mk.injEq] at hst
        obtain ⟨rfl, rfl, rfl⟩ := hst
        clear z1
        go_wp2_with fail
        refine HT1.out.mono ?_
        rintro e w1 ⟨rfl, rfl⟩
        go_wp2
        go_ret3
        exact ⟨none, 0, 0, rfl, LOut.nil _ _, HG.out⟩
    · obtain rfl : i = n := by omega
      have hst := HS.out
      rw [Nat.sub_self, decL, shut, if_neg (by simp)] at hst
      obtain ⟨ra, rc, rfl, hrn, hnc, hcm, hro⟩ := sown_form HO.out
      have HK := r_check ra acc N rc _ wr HO.out.rd HO.out.len (by omega) rfl
      have hii : ¬ (i : Int) < (i : Int) := by omega
      clear HS hrn hro
      by_cases z : checkR acc = 0
      · rw [if_neg (by simpa using z)] at hst
        simp only [Prod.mk.injEq] at hst
        obtain ⟨rfl, rfl, rfl⟩ := hst
        have q1 : (checkR acc != 0) = false := by simpa using z
        have HZ : Hid (checkR acc = 0) := z
        generalize checkR acc = K at HK q1 HZ
        clear z
        go_wp2_with fail
        refine HK.mono ?_
        rintro e w1 ⟨rfl, hg1⟩
        have HG1 : Hid (wr.grownBy w1 none) := hg1
        clear hg1
        go_wp2
        go_ret3
        exact ⟨ra, N, rc, rfl, SOwn.kept HO.out HG1.out (Classical.em _), HG.out.trans HG1.out⟩
      · rw [if_pos (by simpa using z)] at hst
        simp only [Prod.mk.injEq] at hst
        obtain ⟨rfl, rfl, rfl⟩ := hst
        have q1 : (checkR acc != 0) = true := by simpa using z
        obtain ⟨K, eK⟩ : ∃ K, checkR acc = K := ⟨_, rfl⟩
        have HKE : Hid (checkR acc = K) := eK
        rw [eK] at HK q1
        clear z eK
        go_wp2_with fail
        refine HK.mono ?_
        rintro e w1 ⟨rfl, hg1⟩
        have HG1 : Hid (wr.grownBy w1 none) := hg1
        clear hg1
        go_wp2
        go_ret3
        exact ⟨none, 0, 0, by rw [HKE.out]; rfl, LOut.nil _ _, HG.out.trans HG1.out⟩
theorem r_decode (a : Option Addr) (zs : List Int) (L cap : Nat) (p : Int) (ls : List Lab) (r2 r3 : Int) (w : World) (hr : Rd w a zs) (hL : zs.length = L) (hcap : L ≤ cap) (hz : (L : Int) ≤ 140737488355000) (hR : decodeR zs p = (ls, r2, r3)) :
    Calls Try.prog 21 #[.slice a L cap, .int .i64 p] w fun e w' => ∃ v m c, e = .returned (.tuple #[.slice v m c, .int .i64 r2, .int .i64 r3]) ∧ LOut w w' v m c ls ∧ w.grownBy w' none := by
  obtain ⟨u1, u2, u3, hU⟩ : ∃ u1 u2 u3, uintR zs p = (u1, u2, u3) := ⟨_, _, _, rfl⟩
  unfold decodeR at hR
  rw [hU] at hR
  have early : ∀ c3, ls = [] → r2 = 0 → r3 = c3 → (u3 ≠ 0 ∧ c3 = u3 ∨ u3 = 0 ∧ 16 < u1 ∧ c3 = 34) → Calls Try.prog 21 #[.slice a L cap, .int .i64 p] w fun e w' => ∃ v m c, e = .returned (.tuple #[.slice v m c, .int .i64 r2, .int .i64 r3]) ∧ LOut w w' v m c ls ∧ w.grownBy w' none := by
    intro c3 h1 h2 h3 h4
    subst h1 h2 h3
    refine (dec_early a zs L cap p u1 u2 u3 r3 w hr hL hz hU h4).mono ?_
    rintro e w' ⟨rfl, rfl⟩
    exact ⟨none, 0, 0, rfl, LOut.nil _ _, World.grownBy.refl _ _⟩
  by_cases h3 : u3 = 0
  · rw [if_neg (by simpa using h3)] at hR
    by_cases h1 : 16 < u1
    · rw [if_pos h1] at hR
      simp only [Prod.mk.injEq] at hR
      exact early 34 hR.1.symm hR.2.1.symm hR.2.2.symm (.inr ⟨h3, h1, rfl⟩)
    · rw [if_neg h1] at hR
      subst h3
      have hok := uintR_ok hr.byte hU
      obtain ⟨n, rfl⟩ := Int.eq_ofNat_of_zero_le (show 0 ≤ u1 by omega)
      simp only [Int.toNat_natCast] at hR
      exact dec_late a zs L cap p u2 n ls r2 r3 w hr hL hcap hz hU (by omega) hR
  · rw [if_pos (by simpa using h3)] at hR
    simp only [Prod.mk.injEq] at hR
    exact early u3 hR.1.symm hR.2.1.symm hR.2.2.symm (.inl ⟨h3, rfl⟩)
end Go.Proofs.Ytailaehpgmpaaaa
