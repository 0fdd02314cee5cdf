/- What the calls of package label answer where the statements look whether they are awake. -/
import Derived.Test.YtailaehpgmpaaaaLface
namespace Go.Proofs.Ytailaehpgmpaaaa
open Go.RowKit
set_option linter.unusedVariables false

def kA : List Lab := [(⟨#[97]⟩, ⟨#[120, 34]⟩)]
def kW : List Lab := [(⟨#[97]⟩, ⟨#[120, 34]⟩), (⟨#[98]⟩, ⟨#[121]⟩)]
def kB : List Int := [1, 1, 97, 2, 120, 34]
theorem k_enc : encR kA = kB := by
  unfold encR kA kB
  simp only [List.length_cons, List.length_nil, List.flatMap_cons, List.flatMap_nil, encL]
  rw [enc_small (by decide : 0 + 1 < 128), enc_small (by decide : (⟨#[97]⟩ : ByteArray).size < 128), enc_small (by decide : (⟨#[120, 34]⟩ : ByteArray).size < 128)]
  rfl
theorem k_enc0 : encR [] = [0] := by
  unfold encR
  rw [enc_small (by decide : ([] : List Lab).length < 128)]
  rfl
theorem k_fnv : fnvR (encR []) = 84696351 := by
  rw [k_enc0]
  decide
theorem k_name : nameR ⟨#[97]⟩ = true := by decide
theorem k_char0 : charR ⟨#[120, 34]⟩ 0 = 1 := by decide
theorem k_char1 : charR ⟨#[120, 34]⟩ 1 = 1 := by decide
theorem k_valid : validR ⟨#[120, 34]⟩ = true := by
  have h2 : vfrom ⟨#[120, 34]⟩ 2 = true := by rw [vfrom, dif_neg (by decide)]; decide
  have h1 : vfrom ⟨#[120, 34]⟩ 1 = true := by rw [vfrom, dif_pos (by rw [k_char1]; decide), k_char1]; exact h2
  have h0 : vfrom ⟨#[120, 34]⟩ 0 = true := by rw [vfrom, dif_pos (by rw [k_char0]; decide), k_char0]; exact h1
  unfold validR
  rw [h0]
  decide
theorem k_check : checkR kA = 0 := by
  unfold checkR kA
  rw [if_neg (by decide), chk, k_name, k_valid]
  rfl
theorem k_get : getR kW ⟨#[98]⟩ = ⟨#[121]⟩ := by decide
theorem k_keep : (someR kW [⟨#[98]⟩] true).length = 1 := by decide
theorem k_without : (someR kW [⟨#[98]⟩] false).length = 1 := by decide
theorem k_with : withR kA ⟨#[98]⟩ ⟨#[121]⟩ = kW := by decide +kernel
theorem k_cmp : cmpR kA kW = -1 := by decide +kernel
theorem k_text : labText kA = ⟨#[123, 97, 61, 34, 120, 92, 34, 34, 125]⟩ := by decide
theorem k_u : uintR kB 0 = (1, 1, 0) := by decide +kernel
theorem k_t1 : textR kB 1 = (⟨#[97]⟩, 3, 0) := by kernel_rfl
theorem k_t2 : textR kB 3 = (⟨#[120, 34]⟩, 6, 0) := by kernel_rfl
theorem k_dec : decodeR kB 0 = (kA, 6, 0) := by
  unfold decodeR
  rw [k_u, if_neg (by simp), if_neg (by decide)]
  show shut (decL kB 1 1 []) = _
  rw [decL, k_t1]
  simp only [k_t2]
  rw [if_neg (by simp), if_neg (by simp), decL]
  show shut (kA, 6, 0) = _
  unfold shut
  rw [if_neg (by simp), if_neg (by rw [k_check]; simp)]

set_option maxHeartbeats 2000000 in
theorem awake_lab (w : World) : Calls Try.prog 20 #[] w fun e w' => e = .returned (.bool true) ∧ w.grownBy w' none := by
  have HA : Hid (SRd labE (w.alloc (.cells #[.string ⟨#[97]⟩, .string ⟨#[120, 34]⟩] 52)) (some ⟨w.heap.size, 0, none⟩) kA) := llit w kA
  have HG0 : Hid (w.grownBy (w.alloc (.cells #[.string ⟨#[97]⟩, .string ⟨#[120, 34]⟩] 52)) none) := World.grownBy_alloc w _ none
  obtain ⟨W, eW⟩ : ∃ W, W = w.alloc (.cells #[.string ⟨#[97]⟩, .string ⟨#[120, 34]⟩] 52) := ⟨_, rfl⟩
  go_enter Try.func20, Try.ntmps20
  go_wp2_with fail
  rw [← eW] at HA HG0 ⊢
  clear eW
  refine (f_encode (some ⟨w.heap.size, 0, none⟩) kA 1 1 kB W HA.out rfl (by omega) (by rw [k_enc]; decide) k_enc).mono ?_
  rintro e w1 ⟨g1, c1, N1, rfl, ho1, hg1⟩
  have HN1 : Hid (N1 = 6) := by show _ = _; have := ho1.len; rw [← this]; rfl
  have HO1 : Hid (Own w1 W.heap.size g1 N1 c1 kB) := ho1
  have HG1 : Hid (W.grownBy w1 none) := hg1
  clear ho1 hg1
  go_wp2_with fail
  refine (f_decode (some ⟨g1, 0, none⟩) kB N1 c1 0 kA 6 0 w1 HO1.out.rd HO1.out.len HO1.out.cap.1 (by have := HN1.out; omega) k_dec).mono ?_
  rintro e w2 ⟨v2, n2, c2, rfl, ho2, hg2⟩
  have HO2 : Hid (SOwn labE 52 w2 w1.heap.size (.slice v2 n2 c2) n2 kA) := ho2
  have HG2 : Hid (W.grownBy w2 none) := HG1.out.trans hg2
  have HN2 : Hid (n2 = 1) := by show _ = _; have := SOwn.len ho2; rw [← this]; rfl
  clear ho2 hg2
  go_wp2_with fail
  refine (f_with (some ⟨w.heap.size, 0, none⟩) kA 1 1 ⟨#[98]⟩ ⟨#[121]⟩ kW w2 (HA.out.grown HG2.out (by simp)) rfl (by omega) k_with).mono ?_
  rintro e w3 ⟨v3, n3, rfl, ho3, hg3⟩
  obtain ⟨a3, c3, rfl, hnil3, hnc3, hcm3, hro3⟩ := sown_form ho3
  have HN3 : n3 = 2 := by have := SOwn.len ho3; rw [← this]; rfl
  subst HN3
  have HO3 : Hid (SRd labE w3 a3 kW) := ho3.rd
  have HO2' : Hid (SOwn labE 52 w3 w1.heap.size (.slice v2 n2 c2) n2 kA) := SOwn.kept HO2.out hg3 (Classical.em _)
  have HG3 : Hid (W.grownBy w3 none) := HG2.out.trans hg3
  clear ho3 hg3 hnil3 hcm3 hro3 HO2
  go_wp2_with fail
  refine (f_check (some ⟨w.heap.size, 0, none⟩) kA 1 1 0 w3 (HA.out.grown HG3.out (by simp)) rfl (by omega) k_check).mono ?_
  rintro e w4 ⟨rfl, hg4⟩
  have HG34 : Hid (w3.grownBy w4 none) := hg4
  clear hg4
  go_wp2_with fail
  refine (f_labtext (some ⟨w.heap.size, 0, none⟩) kA 1 1 ⟨#[123, 97, 61, 34, 120, 92, 34, 34, 125]⟩ w4 (HA.out.grown (HG3.out.trans HG34.out) (by simp)) rfl (by omega) (by simp [kA]; decide) (by rw [k_text]; decide) k_text).mono ?_
  rintro e w5 ⟨rfl, hg5⟩
  have HG35 : Hid (w3.grownBy w5 none) := HG34.out.trans hg5
  clear hg5 HG34
  go_wp2_with fail
  refine (f_hash none [] 0 0 84696351 w5 (SRd.nil _ _) rfl (by omega) (by rw [k_enc0]; decide) k_fnv).mono ?_
  rintro e w6 ⟨rfl, hg6⟩
  have HG36 : Hid (w3.grownBy w6 none) := HG35.out.trans hg6
  clear hg6 HG35
  go_wp2_with fail
  refine (f_encode (some ⟨w.heap.size, 0, none⟩) kA 1 1 kB w6 (HA.out.grown (HG3.out.trans HG36.out) (by simp)) rfl (by omega) (by rw [k_enc]; decide) k_enc).mono ?_
  rintro e w7 ⟨g7, c7, N7, rfl, ho7, hg7⟩
  have HN7 : N7 = 6 := by have := ho7.len; rw [← this]; rfl
  subst HN7
  have HG37 : Hid (w3.grownBy w7 none) := HG36.out.trans hg7
  clear hg7 ho7 HG36
  go_wp2_with fail
  refine (lsame v2 (some ⟨w.heap.size, 0, none⟩) kA kA n2 1 c2 1 w7 (SRd.grown (SOwn.rd HO2'.out) HG37.out (by simp)) (HA.out.grown (HG3.out.trans HG37.out) (by simp)) (by rw [HN2.out]; rfl) rfl (by have := HN2.out; omega)).mono ?_
  rintro e w8 ⟨rfl, hg8⟩
  have htt : decide (kA = kA) = true := by simp
  rw [htt]
  clear htt
  have HG38 : Hid (w3.grownBy w8 none) := HG37.out.trans hg8
  clear hg8 HG37
  go_wp2_with fail
  refine (f_compare (some ⟨w.heap.size, 0, none⟩) a3 kA kW 1 2 1 c3 (-1) w8 (HA.out.grown (HG3.out.trans HG38.out) (by simp)) (HO3.out.grown HG38.out (by simp)) rfl rfl (by omega) (by omega) k_cmp).mono ?_
  rintro e w9 ⟨rfl, hg9⟩
  have HG39 : Hid (w3.grownBy w9 none) := HG38.out.trans hg9
  clear hg9 HG38
  go_wp2_with fail
  refine (f_get a3 kW 2 c3 ⟨#[98]⟩ ⟨#[121]⟩ w9 (HO3.out.grown HG39.out (by simp)) rfl (by omega) k_get).mono ?_
  rintro e w10 ⟨rfl, hg10⟩
  have HG310 : Hid (w3.grownBy w10 none) := HG39.out.trans hg10
  clear hg10 HG39
  go_wp2_with fail
  have HT11 : Hid (SRd strE (w10.alloc (.cells #[.string ⟨#[98]⟩] 9)) (some ⟨w10.heap.size, 0, none⟩) [⟨#[98]⟩]) := tlit w10 [⟨#[98]⟩]
  have HB11 : Hid (w3.grownBy (w10.alloc (.cells #[.string ⟨#[98]⟩] 9)) none) := HG310.out.trans (World.grownBy_alloc w10 _ none)
  refine (f_keep a3 (some ⟨w10.heap.size, 0, none⟩) kW [⟨#[98]⟩] 2 1 c3 1 _ _ (HO3.out.grown HB11.out (by simp)) HT11.out rfl rfl (by omega) (by omega) rfl).mono ?_
  rintro e w11 ⟨v11, n11, rfl, ho11, hg11⟩
  obtain ⟨a11, c11, rfl, _, _, _, _⟩ := sown_form ho11
  have HN11 : n11 = 1 := by have := SOwn.len ho11; rw [k_keep] at this; omega
  subst HN11
  have HG311 : Hid (w3.grownBy w11 none) := HB11.out.trans hg11
  clear hg11 ho11 HT11 HB11
  go_wp2_with fail
  have HT12 : Hid (SRd strE (w11.alloc (.cells #[.string ⟨#[98]⟩] 9)) (some ⟨w11.heap.size, 0, none⟩) [⟨#[98]⟩]) := tlit w11 [⟨#[98]⟩]
  have HB12 : Hid (w3.grownBy (w11.alloc (.cells #[.string ⟨#[98]⟩] 9)) none) := HG311.out.trans (World.grownBy_alloc w11 _ none)
  refine (f_without a3 (some ⟨w11.heap.size, 0, none⟩) kW [⟨#[98]⟩] 2 1 c3 1 _ _ (HO3.out.grown HB12.out (by simp)) HT12.out rfl rfl (by omega) (by omega) rfl).mono ?_
  rintro e w12 ⟨v12, n12, rfl, ho12, hg12⟩
  obtain ⟨a12, c12, rfl, _, _, _, _⟩ := sown_form ho12
  have HN12 : n12 = 1 := by have := SOwn.len ho12; rw [k_without] at this; omega
  subst HN12
  have HG312 : Hid (w3.grownBy w12 none) := HB12.out.trans hg12
  clear hg12 ho12 HT12 HB12
  have hn1 := HN1.out
  subst hn1
  go_wp2
  go_ret
  exact ⟨rfl, HG0.out.trans (HG3.out.trans HG312.out)⟩
end Go.Proofs.Ytailaehpgmpaaaa
