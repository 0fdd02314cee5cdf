/- The document's own calls of layer 2: numbers. -/
import Derived.Test.YtailaehpgmpaaaaBytes
import Derived.Test.YtailaehpgmpaaaaCmath
namespace Go.Proofs.Ytailaehpgmpaaaa
open Go.RowKit

theorem rd_one (w : World) (z : Int) (hz : 0 ≤ z ∧ z ≤ 255) : Rd (w.alloc (.cells #[.int .u8 z] 5)) (some ⟨w.heap.size, 0, none⟩) [z] := rd_lit w [z] (by simpa using hz)

def EncRel (Y zk : List Int) (u : Int) : Prop := zk ++ enc u.toNat = Y
theorem EncRel.small {Y zk : List Int} {u : Int} (h : EncRel Y zk u) (h0 : 0 ≤ u) (h1 : u < 128) : zk ++ [u] = Y := by
  have e := enc_small (v := u.toNat) (by omega)
  unfold EncRel at h
  rw [e] at h
  have : ((u.toNat : Nat) : Int) = u := by omega
  rwa [this] at h
theorem EncRel.big {Y zk : List Int} {u : Int} (h : EncRel Y zk u) (h1 : 128 ≤ u) : EncRel Y (zk ++ [u % 128 + 128]) (u / 128) := by
  have e := enc_big (v := u.toNat) (by omega)
  unfold EncRel at h ⊢
  rw [e] at h
  have e1 : ((u.toNat % 128 + 128 : Nat) : Int) = u % 128 + 128 := by omega
  have e2 : u.toNat / 128 = (u / 128).toNat := by omega
  rw [e1, e2] at h
  rw [← h]; simp
theorem EncRel.len {Y zk : List Int} {u : Int} (h : EncRel Y zk u) : zk.length + 1 ≤ Y.length := by
  have h1 := enc_len_pos u.toNat
  unfold EncRel at h
  rw [← h]; simp; omega

set_option maxHeartbeats 400000 in
theorem rputuint (a : Option Addr) (zs : List Int) (L cap : Nat) (v : Int) (w : World) (hr : Rd w a zs) (hL : zs.length = L) (hnil : a = none → cap = 0) (hz : L ≤ 140737488355000) (hv : 0 ≤ v ∧ v ≤ 18446744073709551615) :
    Calls Try.prog 50 #[.slice a L cap, .int .u64 v] w fun e w' => ∃ g c N, e = .returned (.slice (some ⟨g, 0, none⟩) N c) ∧ Own w' w.heap.size g N c (zs ++ enc v.toNat) ∧ w.grownBy w' none := by
  have HR : Hid (Rd w a zs) := hr
  have HN : Hid (a = none → cap = 0) := hnil
  have HL : Hid (zs.length = L) := hL
  obtain ⟨Y, hY⟩ : ∃ Y, zs ++ enc v.toNat = Y := ⟨_, rfl⟩
  have HY : Hid (EncRel Y zs v) := hY
  have HYL : Hid (Y.length ≤ L + 10) := by
    show _ ≤ _
    have h2 := enc_len v.toNat (by omega)
    rw [← hY]; simp; omega
  rw [hY]
  clear hr hnil hL hY
  go_enter Try.func50, Try.ntmps50
  go_wp2_with (at_builtin; refine wpList_append_rd rfl (.tmp 6) (.tmp 7) rfl w.heap.size w.heap.size 0 0 [] rfl (own_empty w) a zs L cap rfl HL.out (HR.out.grown (World.grownBy_alloc w _ none) (by simp)) HN.out (by omega) ?_; intro g1 c1 w1 ho1 hg1)
  have HO1 : Hid (Own w1 w.heap.size g1 L c1 zs) := by
    have := ho1
    rw [List.nil_append, Nat.zero_add] at this
    exact this
  have HG1 : Hid (w.grownBy w1 none) := gb_trans (World.grownBy_alloc w _ none) hg1 (fun j hj => .inl (by simp at hj; omega))
  clear ho1 hg1
  go_loopw [1, 5] (fun t1 t5 wr => ∃ (u : Int) (g c M : Nat) (zk : List Int), 0 ≤ u ∧ u ≤ 18446744073709551615 ∧ t1 = .int .u64 u ∧ t5 = .slice (some ⟨g, 0, none⟩) M c ∧ Own wr w.heap.size g M c zk ∧ EncRel Y zk u ∧ w.grownBy wr none) (fun t1 _ _ => (intOf t1).toNat)
  case atStart => exact ⟨v, g1, c1, L, zs, hv.1, hv.2, rfl, rfl, HO1.out, HY.out, HG1.out⟩
  case round =>
    obtain ⟨u, g, c, M, zk, hu0, hu, rfl, rfl, ho, he, hg⟩ := hrel
    have HO : Hid (Own wr w.heap.size g M c zk) := ho
    have HE : Hid (EncRel Y zk u) := he
    have HG : Hid (w.grownBy wr none) := hg
    have hM : M ≤ 140737488355100 := by
      have h1 := he.len
      have h2 := HYL.out
      have h3 := ho.len
      omega
    clear ho he hg HO1 HG1 HR hv
    by_cases hlt : u < 128
    · have hub : 0 ≤ u ∧ u ≤ 255 := by omega
      have hd : decide (128 ≤ u) = false := by simp; omega
      go_wp2_with (at_builtin; refine wpList_append_rd rfl (.tmp 20) (.tmp 23) rfl w.heap.size g M c zk rfl (HO.out.kept (World.grownBy_alloc wr _ none) (by simp)) (some ⟨wr.heap.size, 0, none⟩) [u] 1 1 rfl rfl (rd_one wr u hub) (by simp) (by omega) ?_; intro g2 c2 w2 ho2 hg2)
      go_ret
      refine ⟨g2, c2, M + 1, rfl, ?_, gb_trans (gb_trans HG.out (World.grownBy_alloc wr _ none) (by simp)) hg2 (fun i hi => .inl (by simp at hi; have := HO.out.ge; omega))⟩
      rw [HE.out.small hu0 hlt] at ho2
      exact ho2
    · have hd : decide (128 ≤ u) = true := by simp; omega
      have HX : Hid (bits .or .u64 (bits .and .u64 u 127) 128 = u % 128 + 128) := or_128 u hu0 hu
      have hxb : 0 ≤ bits .or .u64 (bits .and .u64 u 127) 128 ∧ bits .or .u64 (bits .and .u64 u 127) 128 ≤ 255 := by rw [HX.out]; omega
      go_wp2_with (at_builtin; refine wpList_append_rd rfl (.tmp 11) (.tmp 16) rfl w.heap.size g M c zk rfl (HO.out.kept (World.grownBy_alloc wr _ none) (by simp)) (some ⟨wr.heap.size, 0, none⟩) [bits .or .u64 (bits .and .u64 u 127) 128] 1 1 rfl rfl (rd_one wr _ hxb) (by simp) (by omega) ?_; intro g2 c2 w2 ho2 hg2)
      go_roundw
      case rel => exact ⟨u / 128, g2, c2, M + 1, _, by omega, by omega, rfl, rfl, ho2, by rw [HX.out]; exact HE.out.big (by omega), gb_trans (gb_trans HG.out (World.grownBy_alloc wr _ none) (by simp)) hg2 (fun i hi => .inl (by simp at hi; have := HO.out.ge; omega))⟩
      case measure => simp [intOf]; omega

/-- A signed number stands as this number. -/
def zz (x : Int) : Int := if 0 ≤ x then x * 2 else -(x + 1) * 2 + 1
theorem zz_bd (x : Int) (h : -9223372036854775808 ≤ x ∧ x ≤ 9223372036854775807) : 0 ≤ zz x ∧ zz x ≤ 18446744073709551615 := by
  unfold zz; split <;> omega

end Go.Proofs.Ytailaehpgmpaaaa
