/- What every program answers that is one: layer 2. -/
import Derived.Test.YtngkmpmhodgfeaaCspoil
import Derived.Lib.SlBytesConst
namespace Go.Proofs.Ytngkmpmhodgfeaa
open Go.RowKit
set_option linter.unusedVariables false

theorem k_uint : uintR [172, 2] 0 = (300, 2, 0) := by decide +kernel
theorem k_int : intR [1] 0 = (-1, 1, 0) := by decide +kernel
theorem k_text : textR [1, 97] 0 = (⟨#[97]⟩, 2, 0) := by kernel_rfl
def nine : List Int := [49, 50, 51, 52, 53, 54, 55, 56, 57]
theorem nine_byte : ∀ z ∈ nine, 0 ≤ z ∧ z ≤ 255 := by decide
theorem k_sum : sumR nine = 3421780262 := by decide +kernel
def nineF : List Int := 9 :: four 3421780262 ++ nine
theorem k_frame : flist nine = nineF := by
  rw [flist, if_neg (by decide), frameR, k_sum, show nine.length = 9 from rfl, enc_small (by decide)]
  rfl
theorem k_code : fcode nine = 0 := by decide
theorem nineF_len : nineF.length = 14 := by decide
theorem k_unframe : uframeR nineF 0 = (nine, 14, 0) := by decide +kernel
theorem k_300 : enc (300 : Int).toNat = [172, 2] := by
  rw [show (300 : Int).toNat = 300 from rfl, enc_big (by decide), show 300 / 128 = 2 from rfl, enc_small (by decide)]
  rfl
theorem k_m1 : enc (zz (-1)).toNat = [1] := by
  rw [show (zz (-1)).toNat = 1 from rfl, enc_small (by decide)]
  rfl
theorem k_a : ([] : List Int) ++ enc (ByteArray.size ⟨#[97]⟩) ++ sInts ⟨#[97]⟩ = [1, 97] := by
  rw [show ByteArray.size ⟨#[97]⟩ = 1 from rfl, enc_small (by decide)]
  rfl

theorem rd_mark (w : World) (zs : List Int) (fr : Nat × Nat) (hz : ∀ z ∈ zs, 0 ≤ z ∧ z ≤ 255) : Rd (w.alloc (.cells (bs zs).toArray 5 fr)) (some ⟨w.heap.size, 0, none⟩) zs := by
  refine ⟨.inr ⟨w.heap.size, 0, rfl, fun i hi => ?_⟩, hz⟩
  have := World.news_of_block (w := w.alloc (.cells (bs zs).toArray 5 fr)) (B := w.heap.size) (cs := (bs zs).toArray) (t := 5) (fr := fr) (heap_alloc_new w _) i (.int .u8 (zs.getD i 0)) (by simp [bs, List.getElem?_eq_getElem hi, List.getD_eq_getElem?_getD])
  have e : (⟨w.heap.size, 0, none⟩ : Addr).add i = ⟨w.heap.size, 0 + i, none⟩ := by
    by_cases h0 : i = 0
    · subst h0; rfl
    · simp [Addr.add, h0]
  rwa [e] at this

set_option maxHeartbeats 1000000 in
theorem awake_any (w : World) : Calls Try.prog 23 #[] w fun e w' => e = .returned (.bool true) ∧ w.grownBy w' none := by
  have hcv := fun w C n c => Go.Lib.run_convert_bytes_const (P := Try.prog) w 22 5 C n c Try.underlying22 Try.underlying5
  go_enter Try.func23, Try.ntmps23
  go_wp2_with fail
  refine (f_uint (some ⟨w.heap.size, 0, none⟩) [172, 2] 2 2 0 300 2 0 _ (rd_lit w [172, 2] (by simp)) rfl (by omega) (by omega) k_uint).mono ?_
  rintro e w1 ⟨rfl, hg1⟩
  have hh1 := gb_new (World.grownBy.refl w none) hg1
  clear hg1
  go_wp2_with fail
  refine (f_int (some ⟨w1.heap.size, 0, none⟩) [1] 1 1 0 (-1) 1 0 _ (rd_lit w1 [1] (by simp)) rfl (by omega) (by omega) k_int).mono ?_
  rintro e w2 ⟨rfl, hg2⟩
  have hh2 := gb_new hh1 hg2
  clear hg2 hh1
  go_wp2_with fail
  refine (f_text (some ⟨w2.heap.size, 0, none⟩) [1, 97] 2 2 0 ⟨#[97]⟩ 2 0 _ (rd_lit w2 [1, 97] (by simp)) rfl (by omega) (by omega) k_text).mono ?_
  rintro e w3 ⟨rfl, hg3⟩
  have hh3 := gb_new hh2 hg3
  clear hg3 hh2
  go_wp2_with fail
  refine (f_frame (some ⟨w3.heap.size, 0, none⟩) nine 9 9 nineF 0 _ (rd_mark w3 nine _ nine_byte) rfl (by simp) (by omega) k_frame k_code).mono ?_
  rintro e w4 ⟨vf, Nf, cf, rfl, hof, hg4⟩
  have hh4 := gb_new hh3 hg4
  have hNf : Nf = 14 := hof.1.symm.trans nineF_len
  subst hNf
  clear hg4 hh3
  go_wp2_with fail
  refine (f_unframe vf nineF 14 cf 0 nine 14 0 _ hof.2.1 nineF_len hof.2.2.2.1 (by omega) k_unframe).mono ?_
  rintro e w5 ⟨vr, Nr, cr, rfl, hor, hg5⟩
  have hh5 := gb_trans hh4 hg5 (by simp)
  have hNr : Nr = 9 := hor.1.symm
  subst hNr
  clear hg5 hh4 hof
  go_wp2_with fail
  refine (f_sum (some ⟨w5.heap.size, 0, none⟩) nine 9 9 3421780262 _ (rd_mark w5 nine _ nine_byte) rfl (by omega) k_sum).mono ?_
  rintro e w6 ⟨rfl, hg6⟩
  have hh6 := gb_new hh5 hg6
  have hor6 := hor.kept (gb_trans (World.grownBy_alloc w5 _ none) hg6 (by simp)) (by simp)
  clear hg6 hh5 hor
  go_wp2_with fail
  refine (same_any vr (some ⟨w6.heap.size, 0, none⟩) nine nine 9 9 cr 9 _ (hor6.2.1.grown (World.grownBy_alloc w6 _ none) (by simp)) (rd_mark w6 nine _ nine_byte) rfl rfl (by omega)).mono ?_
  rintro e w7 ⟨rfl, hg7⟩
  have hh7 := gb_new hh6 hg7
  rw [show decide (nine = nine) = true by simp]
  clear hg7 hh6 hor6
  go_wp2_with fail
  refine (f_putuint none [] 0 0 300 _ ⟨.inl rfl, by simp⟩ rfl (fun _ => rfl) (by omega) (by omega)).mono ?_
  rintro e w8 ⟨g8, c8, N8, rfl, ho8, hg8⟩
  have hh8 := gb_trans hh7 hg8 (by simp)
  rw [List.nil_append, k_300] at ho8
  have hN8 : N8 = 2 := ho8.len.symm
  subst hN8
  clear hg8 hh7
  go_wp2_with fail
  refine (same_any (some ⟨g8, 0, none⟩) (some ⟨w8.heap.size, 0, none⟩) [172, 2] [172, 2] 2 2 c8 2 _ (ho8.rd.grown (World.grownBy_alloc w8 _ none) (by simp)) (rd_lit w8 [172, 2] (by simp)) rfl rfl (by omega)).mono ?_
  rintro e w9 ⟨rfl, hg9⟩
  have hh9 := gb_new hh8 hg9
  rw [show decide (([172, 2] : List Int) = [172, 2]) = true by simp]
  clear hg9 hh8 ho8
  go_wp2_with fail
  refine (f_putint none [] 0 0 (-1) _ ⟨.inl rfl, by simp⟩ rfl (fun _ => rfl) (by omega) (by omega)).mono ?_
  rintro e w10 ⟨g10, c10, N10, rfl, ho10, hg10⟩
  have hh10 := gb_trans hh9 hg10 (by simp)
  rw [List.nil_append, k_m1] at ho10
  have hN10 : N10 = 1 := ho10.len.symm
  subst hN10
  clear hg10 hh9
  go_wp2_with fail
  refine (same_any (some ⟨g10, 0, none⟩) (some ⟨w10.heap.size, 0, none⟩) [1] [1] 1 1 c10 1 _ (ho10.rd.grown (World.grownBy_alloc w10 _ none) (by simp)) (rd_lit w10 [1] (by simp)) rfl rfl (by omega)).mono ?_
  rintro e w11 ⟨rfl, hg11⟩
  have hh11 := gb_new hh10 hg11
  rw [show decide (([1] : List Int) = [1]) = true by simp]
  clear hg11 hh10 ho10
  go_wp2_with fail
  refine (f_puttext none [] 0 0 ⟨#[97]⟩ _ ⟨.inl rfl, by simp⟩ rfl (fun _ => rfl) (by decide)).mono ?_
  rintro e w12 ⟨g12, c12, N12, rfl, ho12, hg12⟩
  have hh12 := gb_trans hh11 hg12 (by simp)
  rw [k_a] at ho12
  have hN12 : N12 = 2 := ho12.len.symm
  subst hN12
  clear hg12 hh11
  go_wp2_with fail
  refine (same_any (some ⟨g12, 0, none⟩) (some ⟨w12.heap.size, 0, none⟩) [1, 97] [1, 97] 2 2 c12 2 _ (ho12.rd.grown (World.grownBy_alloc w12 _ none) (by simp)) (rd_lit w12 [1, 97] (by simp)) rfl rfl (by omega)).mono ?_
  rintro e w13 ⟨rfl, hg13⟩
  have hh13 := gb_new hh12 hg13
  rw [show decide (([1, 97] : List Int) = [1, 97]) = true by simp]
  clear hg13 hh12 ho12
  go_wp2
  go_ret
  exact ⟨rfl, hh13⟩
end Go.Proofs.Ytngkmpmhodgfeaa
