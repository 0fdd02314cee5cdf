/- The document's own Encode, Hash. -/
import Derived.Test.YtailaehpgmpaaaaRcheck
import Derived.Test.YtailaehpgmpaaaaDraw
namespace Go.Proofs.Ytailaehpgmpaaaa
open Go.RowKit
set_option linter.unusedVariables false

def fnv1 (h z : Int) : Int := bits .xor .u32 h z * 16777619 % 4294967296
def fnvR (zs : List Int) : Int := zs.foldl fnv1 2166136261
def FnvAt (zs : List Int) (k : Nat) (h R : Int) : Prop := (zs.drop k).foldl fnv1 h = R
theorem r_fnv (a : Option Addr) (zs : List Int) (L cap : Nat) (R : Int) (w : World) (hr : Rd w a zs) (hL : zs.length = L) (hz : (L : Int) ≤ 140737488355328) (hR : fnvR zs = R) :
    Calls Try.prog 52 #[.slice a L cap] w fun e w' => e = .returned (.int .u32 R) ∧ w = w' := by
  have HR : Hid (Rd w a zs) := hr
  have HL : Hid (zs.length = L) := hL
  have H0 : Hid (FnvAt zs 0 2166136261 R) := hR
  clear hr hL hR
  go_enter Try.func52, Try.ntmps52
  go_wp2
  go_loop [3, 4] (fun t3 t4 => ∃ (j : Nat) (h : Int), j ≤ L ∧ t3 = .int .u32 h ∧ t4 = .int .i64 j ∧ 0 ≤ h ∧ h ≤ 4294967295 ∧ FnvAt zs j h R) (fun _ t4 => L - (intOf t4).toNat)
  case atStart => exact ⟨0, 2166136261, Nat.zero_le _, rfl, rfl, by omega, by omega, H0.out⟩
  case round =>
    obtain ⟨j, h, hj, rfl, rfl, h0, h1, hf⟩ := hrel
    have HF : Hid (FnvAt zs j h R) := hf
    clear hf H0
    by_cases hlt : j < L
    · have hl := HL.out
      obtain ⟨b, off, rfl, hc⟩ := HR.out.at (by omega)
      have hcell := hc j (by omega)
      have hby := HR.out.byte j
      have HN : Hid (FnvAt zs (j + 1) (fnv1 h (zs.getD j 0)) R) := by
        have hh := HF.out
        unfold FnvAt at hh ⊢
        rw [List.drop_eq_getElem_cons (by omega : j < zs.length), List.foldl_cons] at hh
        have e : zs.getD j 0 = zs[j] := by rw [List.getD_eq_getElem?_getD, List.getElem?_eq_getElem (by omega)]; rfl
        rw [e]
        exact hh
      generalize zs.getD j 0 = z at hcell hby HN
      have hxb := xor32_bd h z ⟨h0, h1⟩ (by omega)
      unfold fnv1 at HN
      clear hc hl
      go_wp2
      go_round
      case rel => exact ⟨j + 1, bits .xor .u32 h z * 16777619 % 4294967296, by omega, rfl, by go_num, by omega, by omega, HN.out⟩
      case measure => simp [intOf]; omega
    · have HS : Hid (h = R) := by
        have hh := HF.out
        unfold FnvAt at hh
        rw [List.drop_eq_nil_of_le (by have := HL.out; omega), List.foldl_nil] at hh
        exact hh
      go_wp2
      go_ret
      exact ⟨ret_int HS.out, rfl⟩

def encL (p : Lab) : List Int := enc p.1.size ++ sInts p.1 ++ enc p.2.size ++ sInts p.2
def encR (ls : List Lab) : List Int := enc ls.length ++ ls.flatMap encL
def EncAt (ls : List Lab) (k : Nat) (zk : List Int) : Prop := zk = enc ls.length ++ (ls.take k).flatMap encL
theorem EncAt.next {ls : List Lab} {k : Nat} {zk : List Int} {p : Lab} (h : EncAt ls k zk) (hp : ls[k]? = some p) : EncAt ls (k + 1) (zk ++ enc p.1.size ++ sInts p.1 ++ enc p.2.size ++ sInts p.2) := by
  unfold EncAt at h ⊢
  rw [h, List.take_add_one, hp]
  simp [encL]
theorem EncAt.le {ls : List Lab} {k : Nat} {zk : List Int} (h : EncAt ls k zk) : zk.length ≤ (encR ls).length := by
  unfold EncAt at h
  have e : encR ls = enc ls.length ++ ((ls.take k).flatMap encL ++ (ls.drop k).flatMap encL) := by
    unfold encR
    rw [← List.flatMap_append, List.take_append_drop]
  rw [h, e]
  simp only [List.length_append]
  omega

set_option maxHeartbeats 2000000 in
theorem r_encode (a : Option Addr) (ls : List Lab) (L c : Nat) (w : World) (hx : SRd labE w a ls) (hL : ls.length = L) (hz : L ≤ 4398046511104) (hB : (encR ls).length ≤ 140737488354000) :
    Calls Try.prog 17 #[.slice a L c] w fun e w' => ∃ g c N, e = .returned (.slice (some ⟨g, 0, none⟩) N c) ∧ Own w' w.heap.size g N c (encR ls) ∧ w.grownBy w' none := by
  have HX : Hid (SRd labE w a ls) := hx
  have HL : Hid (ls.length = L) := hL
  have HBB : Hid ((encR ls).length ≤ 140737488354000) := hB
  have HP := rputuint none [] 0 0 (L : Int) w ⟨.inl rfl, by simp⟩ rfl (fun _ => rfl) (by omega) (by omega)
  rw [Int.toNat_natCast, List.nil_append] at HP
  have HPP : Hid (Calls Try.prog 50 #[.slice none 0 0, .int .u64 (L : Int)] w fun e w' => ∃ g c N, e = .returned (.slice (some ⟨g, 0, none⟩) N c) ∧ Own w' w.heap.size g N c (enc L) ∧ w.grownBy w' none) := HP
  have HE0 : Hid (EncAt ls 0 (enc L)) := by show _ = _; rw [hL]; simp
  have HEE : Hid (∀ zk, EncAt ls L zk → zk = encR ls) := by
    intro zk h
    unfold EncAt at h
    rw [h, List.take_of_length_le (by omega)]
    rfl
  generalize encR ls = Y at HBB HEE ⊢
  have HLE : Hid (∀ k zk, EncAt ls k zk → zk.length ≤ 140737488354000) := fun k zk h => Nat.le_trans h.le hB
  clear hx hL hB HP
  go_enter Try.func17, Try.ntmps17
  go_wp2_with fail
  refine HPP.out.mono ?_
  rintro e w1 ⟨g1, c1, N1, rfl, ho1, hg1⟩
  have HO1 : Hid (Own w1 w.heap.size g1 N1 c1 (enc L)) := ho1
  have HG1 : Hid (w.grownBy w1 none) := hg1
  clear ho1 hg1 HPP
  go_wp2
  go_loopw [3, 4] (fun t3 t4 wr => ∃ (k g cc N : Nat) (zk : List Int), k ≤ L ∧ t4 = .int .i64 k ∧ t3 = .slice (some ⟨g, 0, none⟩) N cc ∧ Own wr w.heap.size g N cc zk ∧ EncAt ls k zk ∧ w.grownBy wr none) (fun _ t4 _ => L - (intOf t4).toNat)
  case atStart => exact ⟨0, g1, c1, N1, enc L, Nat.zero_le _, rfl, rfl, HO1.out, HE0.out, HG1.out⟩
  case round =>
    obtain ⟨k, g, cc, N, zk, hk, rfl, rfl, ho, he, hg⟩ := hrel
    have HO : Hid (Own wr w.heap.size g N cc zk) := ho
    have HE : Hid (EncAt ls k zk) := he
    have HG : Hid (w.grownBy wr none) := hg
    clear ho he hg HO1 HG1 HE0
    by_cases hlt : k < L
    · have hl := HL.out
      obtain ⟨b, off, rfl, hc⟩ := HX.out.at (by omega)
      obtain ⟨⟨s1, s2⟩, ex⟩ : ∃ x, ls[k]? = some x := ⟨_, List.getElem?_eq_getElem (by omega)⟩
      have a0 : wr.cell? ⟨b, off + k * 2, none⟩ = some (.string s1) := HG.out.cell (hc k _ 0 _ ex rfl) (by simp)
      have a1 : wr.cell? ⟨b, off + k * 2 + 1, none⟩ = some (.string s2) := by rw [Nat.add_assoc]; exact HG.out.cell (hc k _ 1 _ ex rfl) (by simp)
      have HN : Hid (EncAt ls (k + 1) (zk ++ enc s1.size ++ sInts s1 ++ enc s2.size ++ sInts s2)) := HE.out.next ex
      have hlen := HLE.out _ _ HN.out
      simp only [List.length_append, sInts_len] at hlen
      have HB1 : Hid (N + s1.size ≤ 140737488355000) := by show _ ≤ _; have := HO.out.len; omega
      have HB2 : Hid ((zk ++ enc s1.size ++ sInts s1).length + s2.size ≤ 140737488355000) := by show _ ≤ _; simp only [List.length_append, sInts_len]; omega
      have hki : (k : Int) < (L : Int) := by omega
      clear hc ex hl hlen
      go_wp2
      refine wp_region_held_drew (S := fun w' => wr.grownBy w' none) (by kernel_rfl) (gb_drew (World.grownBy.refl wr none)) (fun hSS => ?_)
      refine draw_takeS 0 (v := ?_) rfl (by kernel_rfl) (by kernel_rfl) (by kernel_rfl) (fun _ _ _ h => h) (by rfl) hSS ?_ ?_
      rotate_left
      · intro w hS; have c0 := hS.cell a0 (by simp); have c1 := hS.cell a1 (by simp); go_simp; try with_reducible rfl
      try simp only [Act.put, List.setIfInBounds_toArray, List.set_cons_zero, List.set_cons_succ]
      refine draw_takeS 1 (v := ?_) rfl (by kernel_rfl) (by kernel_rfl) (by kernel_rfl) (fun _ _ _ h => h) (by rfl) hSS ?_ ?_
      rotate_left
      · intro w hS; have c0 := hS.cell a0 (by simp); have c1 := hS.cell a1 (by simp); go_simp; try with_reducible rfl
      try simp only [Act.put, List.setIfInBounds_toArray, List.set_cons_zero, List.set_cons_succ]
      refine draw_takeS 2 (v := ?_) rfl (by kernel_rfl) (by kernel_rfl) (by kernel_rfl) (fun _ _ _ h => h) (by rfl) hSS ?_ ?_
      rotate_left
      · intro w hS; have c0 := hS.cell a0 (by simp); have c1 := hS.cell a1 (by simp); go_simp; try with_reducible rfl
      try simp only [Act.put, List.setIfInBounds_toArray, List.set_cons_zero, List.set_cons_succ]
      refine draw_takeS 3 (v := ?_) rfl (by kernel_rfl) (by kernel_rfl) (by kernel_rfl) (fun _ _ _ h => h) (by rfl) hSS ?_ ?_
      rotate_left
      · intro w hS; have c0 := hS.cell a0 (by simp); have c1 := hS.cell a1 (by simp); go_simp; try with_reducible rfl
      try simp only [Act.put, List.setIfInBounds_toArray, List.set_cons_zero, List.set_cons_succ]
      refine draw_takeS 4 (v := ?_) rfl (by kernel_rfl) (by kernel_rfl) (by kernel_rfl) (fun _ _ _ h => h) (by rfl) hSS ?_ ?_
      rotate_left
      · intro w hS; have c0 := hS.cell a0 (by simp); have c1 := hS.cell a1 (by simp); go_simp; try with_reducible rfl
      try simp only [Act.put, List.setIfInBounds_toArray, List.set_cons_zero, List.set_cons_succ]
      refine draw_takeS 5 (v := ?_) rfl (by kernel_rfl) (by kernel_rfl) (by kernel_rfl) (fun _ _ _ h => h) (by rfl) hSS ?_ ?_
      rotate_left
      · intro w hS; have c0 := hS.cell a0 (by simp); have c1 := hS.cell a1 (by simp); go_simp; try with_reducible rfl
      try simp only [Act.put, List.setIfInBounds_toArray, List.set_cons_zero, List.set_cons_succ]
      refine draw_takeS 7 (v := ?_) rfl (by kernel_rfl) (by kernel_rfl) (by kernel_rfl) (fun _ _ _ h => h) (by rfl) hSS ?_ ?_
      rotate_left
      · intro w hS; have c0 := hS.cell a0 (by simp); have c1 := hS.cell a1 (by simp); go_simp; try with_reducible rfl
      try simp only [Act.put, List.setIfInBounds_toArray, List.set_cons_zero, List.set_cons_succ]
      refine draw_takeS 8 (v := ?_) rfl (by kernel_rfl) (by kernel_rfl) (by kernel_rfl) (fun _ _ _ h => h) (by rfl) hSS ?_ ?_
      rotate_left
      · intro w hS; have c0 := hS.cell a0 (by simp); have c1 := hS.cell a1 (by simp); go_simp; try with_reducible rfl
      try simp only [Act.put, List.setIfInBounds_toArray, List.set_cons_zero, List.set_cons_succ]
      refine draw_takeS 9 (v := ?_) rfl (by kernel_rfl) (by kernel_rfl) (by kernel_rfl) (fun _ _ _ h => h) (by rfl) hSS ?_ ?_
      rotate_left
      · intro w hS; have c0 := hS.cell a0 (by simp); have c1 := hS.cell a1 (by simp); go_simp; try with_reducible rfl
      try simp only [Act.put, List.setIfInBounds_toArray, List.set_cons_zero, List.set_cons_succ]
      refine draw_takeS 10 (v := ?_) rfl (by kernel_rfl) (by kernel_rfl) (by kernel_rfl) (fun _ _ _ h => h) (by rfl) hSS ?_ ?_
      rotate_left
      · intro w hS; have c0 := hS.cell a0 (by simp); have c1 := hS.cell a1 (by simp); go_simp; try with_reducible rfl
      try simp only [Act.put, List.setIfInBounds_toArray, List.set_cons_zero, List.set_cons_succ]
      refine draw_takeS 11 (v := ?_) rfl (by kernel_rfl) (by kernel_rfl) (by kernel_rfl) (fun _ _ _ h => h) (by rfl) hSS ?_ ?_
      rotate_left
      · intro w hS; have c0 := hS.cell a0 (by simp); have c1 := hS.cell a1 (by simp); go_simp; try with_reducible rfl
      try simp only [Act.put, List.setIfInBounds_toArray, List.set_cons_zero, List.set_cons_succ]
      refine draw_oneS 6 rfl (by kernel_rfl) (by rfl) (fun K hK => ?_)
      go_simp
      refine (rputtext (some ⟨g, 0, none⟩) zk N cc s1 _ (HO.out.rd.grown hSS (by simp)) HO.out.len (by simp) HB1.out).mono ?_
      rintro e w2 ⟨g2, c2, N2, rfl, ho2, hg2⟩
      have HO2 : Hid (Own w2 wr.heap.size g2 N2 c2 (zk ++ enc s1.size ++ sInts s1)) := ho2
      have hSS2 := hSS.trans hg2
      clear hSS ho2 hg2
      have hSS := hSS2
      clear hSS2
      refine hK.out _ _ hSS ?_
      clear hK K
      try simp only [Act.put, List.setIfInBounds_toArray, List.set_cons_zero, List.set_cons_succ]
      refine draw_oneS 12 rfl (by kernel_rfl) (by rfl) (fun K hK => ?_)
      go_simp
      refine (rputtext (some ⟨g2, 0, none⟩) _ N2 c2 s2 _ HO2.out.rd HO2.out.len (by simp) (by have h1 := HO2.out.len; have h2 := HB2.out; omega)).mono ?_
      rintro e w3 ⟨g3, c3, N3, rfl, ho3, hg3⟩
      have HO3 : Hid (Own w3 w.heap.size g3 N3 c3 (zk ++ enc s1.size ++ sInts s1 ++ enc s2.size ++ sInts s2)) := ho3.base (Nat.le_trans HG.out.size hSS.size)
      have hSS2 := hSS.trans hg3
      clear hSS ho3 hg3 HO2
      have hSS := hSS2
      clear hSS2
      refine hK.out _ _ hSS ?_
      clear hK K
      try simp only [Act.put, List.setIfInBounds_toArray, List.set_cons_zero, List.set_cons_succ]
      refine draw_takeS 13 (v := ?_) rfl (by kernel_rfl) (by kernel_rfl) (by kernel_rfl) (fun _ _ _ h => h) (by rfl) hSS ?_ ?_
      rotate_left
      · intro w hS; go_simp; try with_reducible rfl
      try simp only [Act.put, List.setIfInBounds_toArray, List.set_cons_zero, List.set_cons_succ]
      refine wpAnyH_done (by kernel_rfl) ?_ _
      go_wp2
      go_roundw
      case rel => exact ⟨k + 1, g3, c3, N3, _, by omega, by go_num, rfl, HO3.out, HN.out, HG.out.trans hSS⟩
      case measure => simp [intOf]; omega
    · obtain rfl : k = L := by omega
      have HY : Hid (zk = Y) := HEE.out zk HE.out
      have hki : ¬ (k : Int) < (k : Int) := by omega
      go_wp2
      go_ret
      exact ⟨g, cc, N, rfl, by rw [← HY.out]; exact HO.out, HG.out⟩
theorem r_hash (a : Option Addr) (ls : List Lab) (L c : Nat) (R : Int) (w : World) (hx : SRd labE w a ls) (hL : ls.length = L) (hz : L ≤ 4398046511104) (hB : (encR ls).length ≤ 140737488354000) (hR : fnvR (encR ls) = R) :
    Calls Try.prog 18 #[.slice a L c] w fun e w' => e = .returned (.int .u32 R) ∧ w.grownBy w' none := by
  have HE := r_encode a ls L c w hx hL hz hB
  have HB : Hid ((encR ls).length ≤ 140737488354000) := hB
  have HR : Hid (fnvR (encR ls) = R) := hR
  generalize encR ls = Y at HE HB HR
  clear hx hL hB hR
  go_enter Try.func18, Try.ntmps18
  go_wp2_with fail
  refine HE.mono ?_
  rintro e w1 ⟨g, cc, N, rfl, ho, hg⟩
  have HG : Hid (w.grownBy w1 none) := hg
  have HC : Hid (Calls Try.prog 52 #[.slice (some ⟨g, 0, none⟩) N cc] w1 fun e w' => e = .returned (.int .u32 R) ∧ w1 = w') := r_fnv _ Y N cc R w1 ho.rd ho.len (by have := ho.len; have := HB.out; omega) HR.out
  clear ho hg
  go_wp2_with fail
  refine HC.out.mono ?_
  rintro e w2 ⟨rfl, rfl⟩
  go_wp2
  go_ret
  exact ⟨rfl, HG.out⟩
end Go.Proofs.Ytailaehpgmpaaaa
