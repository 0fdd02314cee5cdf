/- What was laid is read back. -/
import Derived.Test.YtngkmpmhodgfeaaCawake
namespace Go.Proofs.Ytngkmpmhodgfeaa
open Go.RowKit
set_option linter.unusedVariables false

theorem unzz_zz (x : Int) : unzz (zz x) = x := by
  unfold unzz zz
  split <;> split <;> omega
theorem uintR_at (xs ys : List Int) (v : Nat) (hv : v < 18446744073709551616) (zs : List Int) (hz : zs = xs ++ (enc v ++ ys)) (p : Int) (hp : p = xs.length) : uintR zs p = ((v : Int), (xs.length : Int) + (enc v).length, 0) := by
  subst hz hp
  rw [uintR_enc xs ys v hv]
  simp
theorem intR_at (xs ys : List Int) (x : Int) (hx : -9223372036854775808 ≤ x ∧ x ≤ 9223372036854775807) (zs : List Int) (hz : zs = xs ++ (enc (zz x).toNat ++ ys)) (p : Int) (hp : p = xs.length) : intR zs p = (x, (xs.length : Int) + (enc (zz x).toNat).length, 0) := by
  have hb := zz_bd x hx
  have h := uintR_at xs ys (zz x).toNat (by omega) zs hz p hp
  unfold intR
  rw [h]
  simp only [if_true]
  rw [show (((zz x).toNat : Nat) : Int) = zz x by omega, unzz_zz]
theorem strOf_sInts (s : ByteArray) : strOfNums (sInts s) = s := by
  apply ByteArray.ext
  apply Array.toList_inj.1
  rw [strOfNums_data, sInts, List.map_map]
  conv => rhs; rw [← List.map_id s.data.toList]
  apply List.map_congr_left
  intro b _
  simp
theorem textR_at (xs ys : List Int) (s : ByteArray) (hs : s.size < 18446744073709551616) (zs : List Int) (hz : zs = xs ++ (enc s.size ++ (sInts s ++ ys))) (p : Int) (hp : p = xs.length) : textR zs p = (s, (xs.length : Int) + (enc s.size).length + s.size, 0) := by
  have h := uintR_at xs (sInts s ++ ys) s.size hs zs hz p hp
  have hl := sInts_len s
  unfold textR
  rw [h]
  simp only [if_true]
  have hlen : (zs.length : Int) = xs.length + (enc s.size).length + s.size + ys.length := by
    rw [hz]; simp; omega
  rw [if_neg (by omega)]
  have e1 : ((xs.length : Int) + ((enc s.size).length : Int)).toNat = (xs ++ enc s.size).length := by simp; omega
  have e2 : ((s.size : Nat) : Int).toNat = (sInts s).length := by omega
  rw [e1, e2, hz, show xs ++ (enc s.size ++ (sInts s ++ ys)) = (xs ++ enc s.size) ++ (sInts s ++ ys) by simp, List.drop_left, List.take_left, strOf_sInts]
theorem uframeR_at (xs ys rec : List Int) (hr : rec.length ≤ 65536) (zs : List Int) (hz : zs = xs ++ (frameR rec ++ ys)) (p : Int) (hp : p = xs.length) : uframeR zs p = (rec, (xs.length : Int) + (frameR rec).length, 0) := by
  have h := uintR_at xs (four (sumR rec) ++ rec ++ ys) rec.length (by omega) zs (by rw [hz, frameR]; simp) p hp
  unfold uframeR
  rw [h]
  have h4 : (four (sumR rec)).length = 4 := rfl
  have hfl : (frameR rec).length = (enc rec.length).length + 4 + rec.length := by rw [frameR]; simp [h4]; omega
  have hlen : (zs.length : Int) = xs.length + (enc rec.length).length + 4 + rec.length + ys.length := by
    rw [hz]; simp [hfl]; omega
  simp only [ne_eq, not_true_eq_false, if_false]
  rw [if_neg (by omega), if_neg (by omega)]
  have e1 : ((xs.length : Int) + ((enc rec.length).length : Int)).toNat = (xs ++ enc rec.length).length := by simp; omega
  have e2 : ((rec.length : Nat) : Int).toNat = rec.length := by omega
  have ez : zs = (xs ++ enc rec.length) ++ (four (sumR rec) ++ (rec ++ ys)) := by rw [hz, frameR]; simp
  rw [e1, e2]
  have d1 : zs.drop (xs ++ enc rec.length).length = four (sumR rec) ++ (rec ++ ys) := by rw [ez, List.drop_left]
  have d2 : zs.drop ((xs ++ enc rec.length).length + 4) = rec ++ ys := by
    rw [← List.drop_drop, d1, ← h4, List.drop_left]
  rw [d1, d2, List.take_left, show (four (sumR rec) ++ (rec ++ ys)).take 4 = four (sumR rec) from by rw [← h4, List.take_left], if_pos rfl, hfl]
  simp only [Prod.mk.injEq, true_and, and_true]
  omega
end Go.Proofs.Ytngkmpmhodgfeaa
