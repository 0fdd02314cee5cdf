/- The program's own Encode, Hash. -/
import Derived.Test.YtailaehpgmpaaaaRenc
import Derived.Test.YtailaehpgmpaaaaDput
namespace Go.Proofs.Ytailaehpgmpaaaa
open Go.RowKit
set_option linter.unusedVariables false

theorem one_text (s : ByteArray) (w : World) (hz : s.size ≤ 140737488355000) :
    Calls Try.prog 42 #[.slice none 0 0, .string s] w fun e w' => ∃ g c N, e = .returned (.slice (some ⟨g, 0, none⟩) N c) ∧ Own w' w.heap.size g N c (enc s.size ++ sInts s) ∧ w.grownBy w' none := by
  have h := f_puttext none [] 0 0 s w ⟨.inl rfl, by simp⟩ rfl (fun _ => rfl) (by omega)
  rwa [List.nil_append] at h
theorem lab_cells (w : World) (p : Lab) : (w.alloc (.cells #[.string p.1, .string p.2] 52)).cell? ⟨w.heap.size, 0, none⟩ = some (.string p.1) ∧ (w.alloc (.cells #[.string p.1, .string p.2] 52)).cell? ⟨w.heap.size, 1, none⟩ = some (.string p.2) := by
  constructor
  · rw [cell_of_row _ w.heap.size 0 _ _ _ (heap_alloc_new w _)]; rfl
  · rw [cell_of_row _ w.heap.size 1 _ _ _ (heap_alloc_new w _)]; rfl

set_option maxHeartbeats 2000000 in
theorem f_encode (a : Option Addr) (ls : List Lab) (L c : Nat) (Y : List Int) (w : World) (hx : SRd labE w a ls) (hL : ls.length = L) (hz : L ≤ 4398046511104) (hB : (encR ls).length ≤ 140737488354000) (hY : encR ls = Y) :
    Calls Try.prog 11 #[.slice a L c] w fun e w' => ∃ g c N, e = .returned (.slice (some ⟨g, 0, none⟩) N c) ∧ Own w' w.heap.size g N c Y ∧ w.grownBy w' none := by
  subst hY
  have HX : Hid (SRd labE w a ls) := hx
  have HL : Hid (ls.length = L) := hL
  have HBB : Hid ((encR ls).length ≤ 140737488354000) := hB
  have HP := f_putuint none [] 0 0 (L : Int) w ⟨.inl rfl, by simp⟩ rfl (fun _ => rfl) (by omega) (by omega)
  rw [Int.toNat_natCast, List.nil_append] at HP
  have HPP : Hid (Calls Try.prog 41 #[.slice none 0 0, .int .u64 (L : Int)] w fun e w' => ∃ g c N, e = .returned (.slice (some ⟨g, 0, none⟩) N c) ∧ Own w' w.heap.size g N c (enc L) ∧ w.grownBy w' none) := HP
  have HE0 : Hid (EncAt ls 0 (enc L)) := by show _ = _; rw [hL]; simp
  have HEE : Hid (∀ zk, EncAt ls L zk → zk = encR ls) := by
    intro zk h
    unfold EncAt at h
    rw [h, List.take_of_length_le (by omega)]
    rfl
  generalize encR ls = Y at HBB HEE ⊢
  have HLE : Hid (∀ k zk, EncAt ls k zk → zk.length ≤ 140737488354000) := fun k zk h => Nat.le_trans h.le hB
  clear hx hL hB HP
  go_enter Try.func11, Try.ntmps11
  go_wp2_with fail
  refine HPP.out.mono ?_
  rintro e w1 ⟨g1, c1, N1, rfl, ho1, hg1⟩
  have HO1 : Hid (Own w1 w.heap.size g1 N1 c1 (enc L)) := ho1
  have HG1 : Hid (w.grownBy w1 none) := hg1
  clear ho1 hg1 HPP
  go_wp2
  go_loopw [3, 12] (fun t3 t4 wr => ∃ (k g cc N : Nat) (zk : List Int), k ≤ L ∧ t4 = .int .i64 k ∧ t3 = .slice (some ⟨g, 0, none⟩) N cc ∧ Own wr w.heap.size g N cc zk ∧ EncAt ls k zk ∧ w.grownBy wr none) (fun _ t4 _ => L - (intOf t4).toNat)
  case atStart => exact ⟨0, g1, c1, N1, enc L, Nat.zero_le _, rfl, rfl, HO1.out, HE0.out, HG1.out⟩
  case round =>
    obtain ⟨k, g, cc, N, zk, hk, rfl, rfl, ho, he, hg⟩ := hrel
    have HO : Hid (Own wr w.heap.size g N cc zk) := ho
    have HE : Hid (EncAt ls k zk) := he
    have HG : Hid (w.grownBy wr none) := hg
    clear ho he hg HO1 HG1 HE0
    by_cases hlt : k < L
    · have hl := HL.out
      obtain ⟨b, off, rfl, hc⟩ := HX.out.at (by omega)
      obtain ⟨⟨s1, s2⟩, ex⟩ : ∃ x, ls[k]? = some x := ⟨_, List.getElem?_eq_getElem (by omega)⟩
      have a0 : wr.cell? ⟨b, off + k * 2, none⟩ = some (.string s1) := HG.out.cell (hc k _ 0 _ ex rfl) (by simp)
      have a1 : wr.cell? ⟨b, off + k * 2 + 1, none⟩ = some (.string s2) := by rw [Nat.add_assoc]; exact HG.out.cell (hc k _ 1 _ ex rfl) (by simp)
      have HN : Hid (EncAt ls (k + 1) (zk ++ (enc s1.size ++ sInts s1) ++ (enc s2.size ++ sInts s2))) := by have h := HE.out.next ex; show EncAt _ _ _; simpa only [List.append_assoc] using h
      have hlen := HLE.out _ _ HN.out
      simp only [List.length_append, sInts_len] at hlen
      have hki : (k : Int) < (L : Int) := by omega
      have HC1 : Hid (∀ w, Calls Try.prog 42 #[.slice none 0 0, .string s1] w fun e w' => ∃ g c N, e = .returned (.slice (some ⟨g, 0, none⟩) N c) ∧ Own w' w.heap.size g N c (enc s1.size ++ sInts s1) ∧ w.grownBy w' none) := fun w => one_text s1 w (by omega)
      have HC2 : Hid (∀ w, Calls Try.prog 42 #[.slice none 0 0, .string s2] w fun e w' => ∃ g c N, e = .returned (.slice (some ⟨g, 0, none⟩) N c) ∧ Own w' w.heap.size g N c (enc s2.size ++ sInts s2) ∧ w.grownBy w' none) := fun w => one_text s2 w (by omega)
      have HB : Hid (zk.length + ((enc s1.size ++ sInts s1).length + (enc s2.size ++ sInts s2).length) ≤ 140737488354000) := by show _ ≤ _; simp only [List.length_append, sInts_len]; omega
      generalize enc s1.size ++ sInts s1 = E1 at HC1 HN HB
      generalize enc s2.size ++ sInts s2 = E2 at HC2 HN HB
      clear hc ex hl hlen
      go_wp2_with fail
      refine (HC1.out _).mono ?_
      rintro e w1 ⟨g1, c1, N1, rfl, ho1, hg1⟩
      have HO1 : Hid (Own w1 wr.heap.size g1 N1 c1 E1) := ho1.base (World.grownBy_alloc wr _ none).size
      have HGr : Hid (wr.grownBy w1 none) := (World.grownBy_alloc wr _ none).trans hg1
      have d1 : w1.cell? ⟨wr.heap.size, 1, none⟩ = some (.string s2) := hg1.cell (lab_cells wr (s1, s2)).2 (by simp)
      have HOu : Hid (Own w1 w.heap.size g N cc zk) := HO.out.kept HGr.out (by simp)
      have HGw : Hid (w.grownBy w1 none) := HG.out.trans HGr.out
      have HLT : Hid (g < wr.heap.size) := HO.out.ge.2
      clear ho1 hg1
      go_wp2_with (at_builtin; refine wpList_append_rd rfl (.tmp 16) (.tmp 19) rfl w.heap.size g N cc zk rfl HOu.out (some ⟨g1, 0, none⟩) E1 N1 c1 rfl HO1.out.len HO1.out.rd (by simp) (by have := HB.out; have := HOu.out.len; have := HO1.out.len; omega) ?_; intro g2 c2 w2 ho2 hg2; have d2 : w2.cell? ⟨wr.heap.size, 1, none⟩ = some (.string s2) := hg2.cell d1 (by have := HLT.out; simp; omega))
      have HO2 : Hid (Own w2 w.heap.size g2 (N + N1) c2 (zk ++ E1)) := ho2
      have HG2 : Hid (w.grownBy w2 none) := gb_trans HGw.out hg2 (fun j hj => .inl (by cases hj; exact HO.out.ge.1))
      have HL1 : Hid (N = zk.length ∧ N1 = E1.length) := ⟨HOu.out.len.symm, HO1.out.len.symm⟩
      clear ho2 hg2 d1 d2 HO1 HGr HOu HGw
      refine (HC2.out _).mono ?_
      rintro e w3 ⟨g3, c3, N3, rfl, ho3, hg3⟩
      have HO3 : Hid (Own w3 w2.heap.size g3 N3 c3 E2) := ho3
      have HOu : Hid (Own w3 w.heap.size g2 (N + N1) c2 (zk ++ E1)) := HO2.out.kept hg3 (by simp)
      have HG3 : Hid (w.grownBy w3 none) := HG2.out.trans hg3
      clear ho3 hg3
      go_wp2_with (at_builtin; refine wpList_append_rd rfl (.tmp 21) (.tmp 24) rfl w.heap.size g2 (N + N1) c2 (zk ++ E1) rfl HOu.out (some ⟨g3, 0, none⟩) E2 N3 c3 rfl HO3.out.len HO3.out.rd (by simp) (by have := HB.out; have := HL1.out; have := HO3.out.len; omega) ?_; intro g4 c4 w4 ho4 hg4)
      go_roundw
      case rel => exact ⟨k + 1, g4, c4, N + N1 + N3, _, by omega, by go_num, rfl, ho4, HN.out, gb_trans HG3.out hg4 (fun j hj => .inl (by cases hj; exact HO2.out.ge.1))⟩
      case measure => simp [intOf]; omega
    · obtain rfl : k = L := by omega
      have HY : Hid (zk = Y) := HEE.out zk HE.out
      have hki : ¬ (k : Int) < (k : Int) := by omega
      go_wp2
      go_ret
      exact ⟨g, cc, N, rfl, by rw [← HY.out]; exact HO.out, HG.out⟩

theorem f_fnv (a : Option Addr) (zs : List Int) (L cap : Nat) (R : Int) (w : World) (hr : Rd w a zs) (hL : zs.length = L) (hz : (L : Int) ≤ 140737488355328) (hR : fnvR zs = R) :
    Calls Try.prog 43 #[.slice a L cap] w fun e w' => e = .returned (.int .u32 R) ∧ w = w' := by
  have HR : Hid (Rd w a zs) := hr
  have HL : Hid (zs.length = L) := hL
  have H0 : Hid (FnvAt zs 0 2166136261 R) := hR
  clear hr hL hR
  go_enter Try.func43, Try.ntmps43
  go_wp2
  go_loop [3, 8] (fun t3 t4 => ∃ (j : Nat) (h : Int), j ≤ L ∧ t3 = .int .u32 h ∧ t4 = .int .i64 j ∧ 0 ≤ h ∧ h ≤ 4294967295 ∧ FnvAt zs j h R) (fun _ t4 => L - (intOf t4).toNat)
  case atStart => exact ⟨0, 2166136261, Nat.zero_le _, rfl, rfl, by omega, by omega, H0.out⟩
  case round =>
    obtain ⟨j, h, hj, rfl, rfl, h0, h1, hf⟩ := hrel
    have HF : Hid (FnvAt zs j h R) := hf
    clear hf H0
    by_cases hlt : j < L
    · have hl := HL.out
      obtain ⟨b, off, rfl, hc⟩ := HR.out.at (by omega)
      have hcell := hc j (by omega)
      have hby := HR.out.byte j
      have HN : Hid (FnvAt zs (j + 1) (fnv1 h (zs.getD j 0)) R) := by
        have hh := HF.out
        unfold FnvAt at hh ⊢
        rw [List.drop_eq_getElem_cons (by omega : j < zs.length), List.foldl_cons] at hh
        have e : zs.getD j 0 = zs[j] := by rw [List.getD_eq_getElem?_getD, List.getElem?_eq_getElem (by omega)]; rfl
        rw [e]
        exact hh
      generalize zs.getD j 0 = z at hcell hby HN
      have hxb := xor32_bd h z ⟨h0, h1⟩ (by omega)
      unfold fnv1 at HN
      clear hc hl
      go_wp2
      go_round
      case rel => exact ⟨j + 1, bits .xor .u32 h z * 16777619 % 4294967296, by omega, rfl, by go_num, by omega, by omega, HN.out⟩
      case measure => simp [intOf]; omega
    · have HS : Hid (h = R) := by
        have hh := HF.out
        unfold FnvAt at hh
        rw [List.drop_eq_nil_of_le (by have := HL.out; omega), List.foldl_nil] at hh
        exact hh
      go_wp2
      go_ret
      exact ⟨ret_int HS.out, rfl⟩
theorem f_hash (a : Option Addr) (ls : List Lab) (L c : Nat) (R : Int) (w : World) (hx : SRd labE w a ls) (hL : ls.length = L) (hz : L ≤ 4398046511104) (hB : (encR ls).length ≤ 140737488354000) (hR : fnvR (encR ls) = R) :
    Calls Try.prog 12 #[.slice a L c] w fun e w' => e = .returned (.int .u32 R) ∧ w.grownBy w' none := by
  have HE := f_encode a ls L c _ w hx hL hz hB rfl
  have HB : Hid ((encR ls).length ≤ 140737488354000) := hB
  have HR : Hid (fnvR (encR ls) = R) := hR
  generalize encR ls = Y at HE HB HR
  clear hx hL hB hR
  go_enter Try.func12, Try.ntmps12
  go_wp2_with fail
  refine HE.mono ?_
  rintro e w1 ⟨g, cc, N, rfl, ho, hg⟩
  have HG : Hid (w.grownBy w1 none) := hg
  have HC : Hid (Calls Try.prog 43 #[.slice (some ⟨g, 0, none⟩) N cc] w1 fun e w' => e = .returned (.int .u32 R) ∧ w1 = w') := f_fnv _ Y N cc R w1 ho.rd ho.len (by have := ho.len; have := HB.out; omega) HR.out
  clear ho hg
  go_wp2_with fail
  refine HC.out.mono ?_
  rintro e w2 ⟨rfl, rfl⟩
  go_wp2
  go_ret
  exact ⟨rfl, HG.out⟩
end Go.Proofs.Ytailaehpgmpaaaa
