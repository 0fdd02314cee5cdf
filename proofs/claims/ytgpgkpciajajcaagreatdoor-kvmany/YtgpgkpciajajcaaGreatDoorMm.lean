/- Several texts in one: Ka, Kb, Kc, Kd. -/
import Derived.Test.YtgpgkpciajajcaaGreatDoorMk
import Derived.Test.YtgpgkpciajajcaaGreatDoorMl
import Derived.Lib.ConvBytes
import Derived.Deep.RegionHeld3
import Derived.Deep.CutRange
import Derived.Laws.ResultCell
import Derived.Test.YtgpgkpciajajcaaGreatDoorMg
/- Package codec: numbers and texts, put and read. -/
namespace Go.Proofs.YtgpgkpciajajcaaGreatDoor
open Go.RowKit
set_option linter.unusedVariables false
set_option maxRecDepth 20000

theorem read_u (r : Nat) (V : Value) (q e3 : Int) (w : World) (Q : World → Prop) (HC : Calls Tryz.prog 156 #[.pointer (some ⟨r, 0, none⟩)] w fun e w' => e = .returned (.tuple #[V, .int .i64 e3]) ∧ Q w')
    (hq : ∀ w', Q w' → e3 = 0 → w'.cell? ⟨r, 1, none⟩ = some (.int .i64 q)) (hd : ∀ w' n, Q w' → Q (w'.drewN n)) :
    Calls Tryz.prog 155 #[.pointer (some ⟨r, 0, none⟩), .func (.func 156) #[.pointer (some ⟨r, 0, none⟩)] #[]] w fun e w' => e = .returned (.tuple #[if e3 = 0 then V else .int .u64 0, .int .i64 (if e3 = 0 then q else 0), .int .i64 e3]) ∧ Q w' := by
  have HQ : Hid (∀ w', Q w' → e3 = 0 → w'.cell? ⟨r, 1, none⟩ = some (.int .i64 q)) := hq
  have HD : Hid (∀ w' n, Q w' → Q (w'.drewN n)) := hd
  have HCC : Hid (Calls Tryz.prog 156 #[.pointer (some ⟨r, 0, none⟩)] w fun e w' => e = .returned (.tuple #[V, .int .i64 e3]) ∧ Q w') := HC
  clear hq hd HC
  by_cases h3 : e3 = 0
  · rw [if_pos h3, if_pos h3]
    have HE : Hid (e3 = 0) := h3
    have hb3 : (e3 != 0) = false := by simpa using h3
    clear h3
    go_enter Tryz.func155, Tryz.ntmps155
    go_wp2_with fail
    refine HCC.out.mono ?_
    rintro e w1 ⟨rfl, hw1⟩
    have HW : Hid (Q w1) := hw1
    have hc := HQ.out w1 hw1 HE.out
    clear hw1
    go_wp2
    go_quiet (fail)
    go_wp2
    go_ret3
    exact ⟨by rw [HE.out]; rfl, HD.out _ _ HW.out⟩
  · rw [if_neg h3, if_neg h3]
    have hb3 : (e3 != 0) = true := by simpa using h3
    clear h3
    go_enter Tryz.func155, Tryz.ntmps155
    go_wp2_with fail
    refine HCC.out.mono ?_
    rintro e w1 ⟨rfl, hw1⟩
    have HW : Hid (Q w1) := hw1
    clear hw1
    go_wp2
    go_ret3
    exact ⟨rfl, HW.out⟩
theorem read_s (r : Nat) (V : Value) (q e3 : Int) (w : World) (Q : World → Prop) (HC : Calls Tryz.prog 154 #[.pointer (some ⟨r, 0, none⟩)] w fun e w' => e = .returned (.tuple #[V, .int .i64 e3]) ∧ Q w')
    (hq : ∀ w', Q w' → e3 = 0 → w'.cell? ⟨r, 1, none⟩ = some (.int .i64 q)) (hd : ∀ w' n, Q w' → Q (w'.drewN n)) :
    Calls Tryz.prog 153 #[.pointer (some ⟨r, 0, none⟩), .func (.func 154) #[.pointer (some ⟨r, 0, none⟩)] #[]] w fun e w' => e = .returned (.tuple #[if e3 = 0 then V else .string ⟨#[]⟩, .int .i64 (if e3 = 0 then q else 0), .int .i64 e3]) ∧ Q w' := by
  have HQ : Hid (∀ w', Q w' → e3 = 0 → w'.cell? ⟨r, 1, none⟩ = some (.int .i64 q)) := hq
  have HD : Hid (∀ w' n, Q w' → Q (w'.drewN n)) := hd
  have HCC : Hid (Calls Tryz.prog 154 #[.pointer (some ⟨r, 0, none⟩)] w fun e w' => e = .returned (.tuple #[V, .int .i64 e3]) ∧ Q w') := HC
  clear hq hd HC
  by_cases h3 : e3 = 0
  · rw [if_pos h3, if_pos h3]
    have HE : Hid (e3 = 0) := h3
    have hb3 : (e3 != 0) = false := by simpa using h3
    clear h3
    go_enter Tryz.func153, Tryz.ntmps153
    go_wp2_with fail
    refine HCC.out.mono ?_
    rintro e w1 ⟨rfl, hw1⟩
    have HW : Hid (Q w1) := hw1
    have hc := HQ.out w1 hw1 HE.out
    clear hw1
    go_wp2
    go_quiet (fail)
    go_wp2
    go_ret3
    exact ⟨by rw [HE.out]; rfl, HD.out _ _ HW.out⟩
  · rw [if_neg h3, if_neg h3]
    have hb3 : (e3 != 0) = true := by simpa using h3
    clear h3
    go_enter Tryz.func153, Tryz.ntmps153
    go_wp2_with fail
    refine HCC.out.mono ?_
    rintro e w1 ⟨rfl, hw1⟩
    have HW : Hid (Q w1) := hw1
    clear hw1
    go_wp2
    go_ret3
    exact ⟨rfl, HW.out⟩
theorem f_uint (a : Option Addr) (zs : List Int) (L cap : Nat) (p r1 r2 r3 : Int) (w : World) (hr : Rd w a zs) (hL : zs.length = L) (hcap : L ≤ cap) (hz : (L : Int) ≤ 140737488355000) (hR : uintR zs p = (r1, r2, r3)) :
    Calls Tryz.prog 123 #[.slice a L cap, .int .i64 p] w fun e w' => e = .returned (.tuple #[.int .u64 r1, .int .i64 r2, .int .i64 r3]) ∧ w.grownBy w' none := by
  have hmf : ∀ (fn : Fn) (first cap : Array Value) (w : World), (Instr.makeFunc fn first cap).run Tryz.prog w = .ok (.func fn first cap) w := fun _ _ _ _ => rfl
  have HN := g_num w.heap.size a zs L cap p r1 r2 r3 (w.alloc (.cells #[.slice a L cap, .int .i64 p] 174)) (at_new w a L cap p) (hr.grown (World.grownBy_alloc w _ none) (by simp)) hL hcap hz hR
  have HC : Hid (Calls Tryz.prog 155 #[.pointer (some ⟨w.heap.size, 0, none⟩), .func (.func 156) #[.pointer (some ⟨w.heap.size, 0, none⟩)] #[]] (w.alloc (.cells #[.slice a L cap, .int .i64 p] 174)) fun e w' => e = .returned (.tuple #[.int .u64 r1, .int .i64 r2, .int .i64 r3]) ∧ w.grownBy w' none) := by
    refine (read_u w.heap.size _ r2 r3 _ _ HN (fun w' h h3 => (h.2 h3).place) (fun w' n h => ⟨gb_drewR h.1 n, fun h3 => (h.2 h3).draw n⟩)).mono ?_
    rintro e w' ⟨rfl, h, _⟩
    refine ⟨?_, gb_reader h⟩
    by_cases h3 : r3 = 0
    · rw [if_pos h3, if_pos h3]
    · rw [if_neg h3, if_neg h3, (uintR_err hR h3).1, (uintR_err hR h3).2]
  clear HN hr hL hR
  go_enter Tryz.func123, Tryz.ntmps123
  go_wp2_with fail
  refine HC.out.mono ?_
  rintro e w' ⟨rfl, hg⟩
  have HG : Hid (w.grownBy w' none) := hg
  clear hg
  go_wp2
  go_ret3
  exact ⟨rfl, HG.out⟩
theorem f_putuint (a : Option Addr) (zs : List Int) (L cap : Nat) (v : Int) (w : World) (hr : Rd w a zs) (hL : zs.length = L) (hnil : a = none → cap = 0) (hz : L ≤ 140737488355000) (hv : 0 ≤ v ∧ v ≤ 18446744073709551615) :
    Calls Tryz.prog 72 #[.slice a L cap, .int .u64 v] w fun e w' => ∃ g c N, e = .returned (.slice (some ⟨g, 0, none⟩) N c) ∧ Own w' w.heap.size g N c (zs ++ enc v.toNat) ∧ w.grownBy w' none := by
  have HC := g_number v w hv
  have HY : Hid ((enc v.toNat).length ≤ 10 ∧ 1 ≤ (enc v.toNat).length) := ⟨enc_len v.toNat (by omega), enc_len_pos _⟩
  generalize enc v.toNat = Y at HC HY ⊢
  have HJ : Hid (∀ g1 c1 N1 w1, Own w1 w.heap.size g1 N1 c1 Y → w.grownBy w1 none → ∀ t, Calls Tryz.prog 70 #[.slice (some ⟨w1.heap.size, 0, none⟩) 2 2] (w1.alloc (.cells #[.slice a L cap, .slice (some ⟨g1, 0, none⟩) N1 c1] t)) fun e w' => ∃ g c N, e = .returned (.slice (some ⟨g, 0, none⟩) N c) ∧ Own w' w.heap.size g N c (zs ++ Y) ∧ w.grownBy w' none) := by
    intro g1 c1 N1 w1 ho hg t
    have hl := ho.len
    have hy := HY.out
    refine (g_join [⟨a, L, cap, zs⟩, ⟨some ⟨g1, 0, none⟩, N1, c1, Y⟩] 2 w1 t _ rfl rfl (by omega) ?_ (by simp [total]; omega) (by simp [total]; omega)).mono ?_
    · intro p hp
      simp only [List.mem_cons, List.mem_nil_iff, or_false] at hp
      rcases hp with rfl | rfl
      · exact ⟨hr.grown hg (by simp), hL, hnil⟩
      · exact ⟨ho.rd, ho.len, by simp⟩
    · rintro e w' ⟨g, c, N, rfl, ho', hg'⟩
      refine ⟨g, c, N, rfl, ?_, hg.trans hg'⟩
      have := ho'.base hg.size
      simpa [joined] using this
  clear hr hL hnil HY
  go_enter Tryz.func72, Tryz.ntmps72
  go_wp2_with fail
  refine HC.mono ?_
  rintro e w1 ⟨g1, c1, N1, rfl, ho1, hg1⟩
  have HO1 : Hid (Own w1 w.heap.size g1 N1 c1 Y) := ho1
  have HG1 : Hid (w.grownBy w1 none) := hg1
  clear ho1 hg1
  go_wp2_with (go_at_call 70; refine (HJ.out _ _ _ _ HO1.out HG1.out _).mono ?_; rintro e w2 ⟨g2, c2, N2, rfl, ho2, hg2⟩)
  go_ret
  exact ⟨g2, c2, N2, rfl, ho2, hg2⟩
theorem f_puttext (a : Option Addr) (zs : List Int) (L cap : Nat) (s : ByteArray) (w : World) (hr : Rd w a zs) (hL : zs.length = L) (hnil : a = none → cap = 0) (hz : L + s.size ≤ 140737488355000) :
    Calls Tryz.prog 71 #[.slice a L cap, .string s] w fun e w' => ∃ g c N, e = .returned (.slice (some ⟨g, 0, none⟩) N c) ∧ Own w' w.heap.size g N c (zs ++ enc s.size ++ sInts s) ∧ w.grownBy w' none := by
  have HC := g_number (s.size : Int) w (by omega)
  rw [Int.toNat_natCast] at HC
  have HY : Hid ((enc s.size).length ≤ 10 ∧ 1 ≤ (enc s.size).length) := ⟨enc_len s.size (by omega), enc_len_pos _⟩
  generalize enc s.size = Y at HC HY ⊢
  have HJ : Hid (∀ g1 c1 N1 w1 c2 w2, Own w1 w.heap.size g1 N1 c1 Y → w.grownBy w1 none → w1.grownBy w2 none → Rd w2 (some ⟨w1.heap.size, 0, none⟩) (sInts s) → ∀ t, Calls Tryz.prog 70 #[.slice (some ⟨w2.heap.size, 0, none⟩) 3 3] (w2.alloc (.cells #[.slice a L cap, .slice (some ⟨g1, 0, none⟩) N1 c1, .slice (some ⟨w1.heap.size, 0, none⟩) s.size c2] t)) fun e w' => ∃ g c N, e = .returned (.slice (some ⟨g, 0, none⟩) N c) ∧ Own w' w.heap.size g N c (zs ++ Y ++ sInts s) ∧ w.grownBy w' none) := by
    intro g1 c1 N1 w1 c2 w2 ho hg hg12 hrd t
    have hl := ho.len
    have hy := HY.out
    have hgg := hg.trans hg12
    refine (g_join [⟨a, L, cap, zs⟩, ⟨some ⟨g1, 0, none⟩, N1, c1, Y⟩, ⟨some ⟨w1.heap.size, 0, none⟩, s.size, c2, sInts s⟩] 3 w2 t _ rfl rfl (by omega) ?_ (by simp [total]; omega) (by simp [total]; omega)).mono ?_
    · intro p hp
      simp only [List.mem_cons, List.mem_nil_iff, or_false] at hp
      rcases hp with rfl | rfl | rfl
      · exact ⟨hr.grown hgg (by simp), hL, hnil⟩
      · exact ⟨ho.rd.grown hg12 (by simp), ho.len, by simp⟩
      · exact ⟨hrd, sInts_len s, by simp⟩
    · rintro e w' ⟨g, c, N, rfl, ho', hg'⟩
      refine ⟨g, c, N, rfl, ?_, hgg.trans hg'⟩
      have := ho'.base hgg.size
      simpa [joined] using this
  clear hr hL hnil HY
  go_enter Tryz.func71, Tryz.ntmps71
  go_wp2_with fail
  refine HC.mono ?_
  rintro e w1 ⟨g1, c1, N1, rfl, ho1, hg1⟩
  have HO1 : Hid (Own w1 w.heap.size g1 N1 c1 Y) := ho1
  have HG1 : Hid (w.grownBy w1 none) := hg1
  obtain ⟨C, w2, hcv, hrd, hg12⟩ := conv_text w1 s
  have HRD : Hid (Rd w2 (some ⟨w1.heap.size, 0, none⟩) (sInts s)) := hrd
  have HG12 : Hid (w1.grownBy w2 none) := hg12
  clear ho1 hg1 hrd hg12
  go_wp2_with (go_at_call 70; refine (HJ.out _ _ _ _ _ _ HO1.out HG1.out HG12.out HRD.out _).mono ?_; rintro e w3 ⟨g2, c2, N2, rfl, ho2, hg2⟩)
  go_ret
  exact ⟨g2, c2, N2, rfl, ho2, hg2⟩
theorem g_text (r : Nat) (a : Option Addr) (zs : List Int) (L cap : Nat) (p : Int) (s : ByteArray) (r2 r3 : Int) (w : World) (h : At w r a L cap p) (hr : Rd w a zs) (hne : 0 < L → ∀ x, a = some x → x.block ≠ r) (hL : zs.length = L) (hcap : L ≤ cap) (hz : (L : Int) ≤ 140737488355000) (hR : textR zs p = (s, r2, r3)) :
    Calls Tryz.prog 154 #[.pointer (some ⟨r, 0, none⟩)] w fun e w' => e = .returned (.tuple #[.string s, .int .i64 r3]) ∧ w.grownBy w' (some r) ∧ (r3 = 0 → At w' r a L cap r2) := by
  obtain ⟨u1, u2, u3, hU⟩ : ∃ u1 u2 u3, uintR zs p = (u1, u2, u3) := ⟨_, _, _, rfl⟩
  have HC := g_num r a zs L cap p u1 u2 u3 w h hr hL hcap hz hU
  unfold textR at hR
  rw [hU] at hR
  by_cases h3 : u3 = 0
  · subst h3
    have hok := uintR_ok hr.byte hU
    obtain ⟨k, rfl⟩ := Int.eq_ofNat_of_zero_le (show 0 ≤ u2 by omega)
    obtain ⟨n, rfl⟩ := Int.eq_ofNat_of_zero_le (show 0 ≤ u1 by omega)
    simp only [if_true] at hR
    have HRG : Hid (∀ w1, w.grownBy w1 (some r) → Rd w1 a zs) := fun w1 hg => hr.grown hg (fun x hx e => hne (by omega) x hx (Option.some.inj e))
    by_cases hlt : (zs.length : Int) - (k : Int) < (n : Int)
    · rw [if_pos hlt] at hR
      simp only [Prod.mk.injEq] at hR
      obtain ⟨rfl, rfl, rfl⟩ := hR
      have HN : Hid (∀ w1, At w1 r a L cap k → Calls Tryz.prog 175 #[.pointer (some ⟨r, 0, none⟩), .int .u64 n] w1 fun e w' => e = .returned (.tuple #[.slice none 0 0, .int .i64 20]) ∧ w1.grownBy w' none) := fun w1 ha => next_end r a L cap k n w1 ha hz (by omega) (by omega) (by omega)
      have hcv : ∀ w, (convert 37 9 (.slice none 0 0)).run Tryz.prog w = .ok (.string ⟨#[]⟩) w := fun w => conv_rd w none [] 0 0 ⟨.inl rfl, by simp⟩ rfl
      clear hlt hok hr hU hL h hne
      go_enter Tryz.func154, Tryz.ntmps154
      go_wp2_with fail
      refine HC.mono ?_
      rintro e w1 ⟨rfl, hg, ha⟩
      have HG : Hid (w.grownBy w1 (some r)) := hg
      have HA : Hid (At w1 r a L cap k) := (show At w1 r a L cap k by simpa using ha)
      clear ha hg
      go_wp2_with fail
      refine (HN.out w1 HA.out).mono ?_
      rintro e w2 ⟨rfl, hg2⟩
      have HG2 : Hid (w.grownBy w2 (some r)) := gb_trans HG.out hg2 (by simp)
      clear hg2
      go_wp2
      go_ret2
      exact ⟨rfl, HG2.out, fun h => by omega⟩
    · rw [if_neg hlt] at hR
      simp only [Prod.mk.injEq, Int.toNat_natCast] at hR
      obtain ⟨rfl, rfl, rfl⟩ := hR
      have HN : Hid (∀ w1, At w1 r a L cap k → w.grownBy w1 (some r) → Calls Tryz.prog 175 #[.pointer (some ⟨r, 0, none⟩), .int .u64 n] w1 fun e w' => ∃ v, e = .returned (.tuple #[.slice v n (cap - k), .int .i64 0]) ∧ Rd w' v ((zs.drop k).take n) ∧ w1.grownBy w' (some r) ∧ At w' r a L cap (k + n : Nat)) := fun w1 ha hg => next_ok r a zs L cap k n w1 ha (HRG.out w1 hg) (hne (by omega)) hL hcap hz (by omega)
      have HLn : Hid (((zs.drop k).take n).length = n) := by show _ = _; rw [List.length_take, List.length_drop]; omega
      generalize (zs.drop k).take n = X at HN HLn ⊢
      clear hlt hok hr hU hL h hne HRG
      go_enter Tryz.func154, Tryz.ntmps154
      go_wp2_with fail
      refine HC.mono ?_
      rintro e w1 ⟨rfl, hg, ha⟩
      have HG : Hid (w.grownBy w1 (some r)) := hg
      have HA : Hid (At w1 r a L cap k) := (show At w1 r a L cap k by simpa using ha)
      clear ha hg
      go_wp2_with fail
      refine (HN.out w1 HA.out HG.out).mono ?_
      rintro e w2 ⟨v, rfl, hrd, hg2, ha2⟩
      have HG2 : Hid (w.grownBy w2 (some r)) := gb_trans HG.out hg2 (fun k hk => .inr hk)
      have HA2 : Hid (At w2 r a L cap (k + n : Nat)) := ha2
      have hcv := conv_rd w2 v X n (cap - k) hrd HLn.out
      clear hg2 ha2 hrd
      go_wp2
      go_ret2
      exact ⟨rfl, HG2.out, fun _ => by have := HA2.out; rwa [Int.natCast_add] at this⟩
  · rw [if_neg h3] at hR
    simp only [Prod.mk.injEq] at hR
    obtain ⟨rfl, rfl, rfl⟩ := hR
    have hb3 : (u3 != 0) = true := by simpa using h3
    have HE : Hid (u3 ≠ 0) := h3
    clear hr hL hU h3 h
    go_enter Tryz.func154, Tryz.ntmps154
    go_wp2_with fail
    refine HC.mono ?_
    rintro e w1 ⟨rfl, hg, _⟩
    have HG : Hid (w.grownBy w1 (some r)) := hg
    clear hg
    go_wp2
    go_ret2
    exact ⟨rfl, HG.out, fun h => absurd h HE.out⟩
theorem f_text (a : Option Addr) (zs : List Int) (L cap : Nat) (p : Int) (s : ByteArray) (r2 r3 : Int) (w : World) (hr : Rd w a zs) (hL : zs.length = L) (hcap : L ≤ cap) (hz : (L : Int) ≤ 140737488355000) (hR : textR zs p = (s, r2, r3)) :
    Calls Tryz.prog 122 #[.slice a L cap, .int .i64 p] w fun e w' => e = .returned (.tuple #[.string s, .int .i64 r2, .int .i64 r3]) ∧ w.grownBy w' none := by
  have hmf : ∀ (fn : Fn) (first cap : Array Value) (w : World), (Instr.makeFunc fn first cap).run Tryz.prog w = .ok (.func fn first cap) w := fun _ _ _ _ => rfl
  have HN := g_text w.heap.size a zs L cap p s r2 r3 (w.alloc (.cells #[.slice a L cap, .int .i64 p] 174)) (at_new w a L cap p) (hr.grown (World.grownBy_alloc w _ none) (by simp)) (fresh_ne hr hL) hL hcap hz hR
  have HC : Hid (Calls Tryz.prog 153 #[.pointer (some ⟨w.heap.size, 0, none⟩), .func (.func 154) #[.pointer (some ⟨w.heap.size, 0, none⟩)] #[]] (w.alloc (.cells #[.slice a L cap, .int .i64 p] 174)) fun e w' => e = .returned (.tuple #[.string s, .int .i64 r2, .int .i64 r3]) ∧ w.grownBy w' none) := by
    refine (read_s w.heap.size _ r2 r3 _ _ HN (fun w' h h3 => (h.2 h3).place) (fun w' n h => ⟨gb_drewR h.1 n, fun h3 => (h.2 h3).draw n⟩)).mono ?_
    rintro e w' ⟨rfl, h, _⟩
    refine ⟨?_, gb_reader h⟩
    by_cases h3 : r3 = 0
    · rw [if_pos h3, if_pos h3]
    · rw [if_neg h3, if_neg h3, (textR_err hR h3).1, (textR_err hR h3).2]
  clear HN hr hL hR
  go_enter Tryz.func122, Tryz.ntmps122
  go_wp2_with fail
  refine HC.out.mono ?_
  rintro e w' ⟨rfl, hg⟩
  have HG : Hid (w.grownBy w' none) := hg
  clear hg
  go_wp2
  go_ret3
  exact ⟨rfl, HG.out⟩
end Go.Proofs.YtgpgkpciajajcaaGreatDoor

/- Package kv: the maths of its records and registers. -/
namespace Go.Proofs.YtgpgkpciajajcaaGreatDoor
open Go.RowKit
set_option linter.unusedVariables false
set_option maxRecDepth 20000

/-- A register: its version, its bytes. -/
abbrev Reg := Nat × ByteArray
def recL (k : ByteArray) (r : Reg) : List Int := (enc k.size ++ sInts k) ++ (enc r.1 ++ (enc r.2.size ++ sInts r.2))
theorem str_back (s : ByteArray) : strOfNums (sInts s) = s := by
  unfold strOfNums sInts
  rw [List.map_map]
  have e : ((fun n : Int => UInt8.ofNat n.toNat) ∘ fun b : UInt8 => (b.toNat : Int)) = id := by
    funext b
    simp
  rw [e, List.map_id]
theorem textR_at (xs ys : List Int) (s : ByteArray) (hs : s.size < 18446744073709551616) (zs : List Int) (hz : zs = xs ++ ((enc s.size ++ sInts s) ++ ys)) (p : Int) (hp : p = xs.length) : textR zs p = (s, ((xs.length + ((enc s.size).length + s.size) : Nat) : Int), 0) := by
  have hl := sInts_len s
  have hu := uintR_at xs (sInts s ++ ys) s.size hs zs (by rw [hz]; simp) p hp
  unfold textR
  rw [hu]
  dsimp only
  rw [if_pos rfl, if_neg (by rw [hz]; simp [hl]; omega)]
  have e1 : ((xs.length : Int) + ((enc s.size).length : Int)).toNat = xs.length + (enc s.size).length := by omega
  rw [e1, Int.toNat_natCast, hz]
  have e2 : (xs ++ ((enc s.size ++ sInts s) ++ ys)).drop (xs.length + (enc s.size).length) = sInts s ++ ys := by
    rw [← List.append_assoc, ← List.append_assoc, List.append_assoc (xs ++ enc s.size)]
    exact List.drop_left' (by simp)
  rw [e2, List.take_left' hl, str_back]
  simp only [Prod.mk.injEq, and_true, true_and]
  omega
/-- A record that a register has. -/
structure RegOk (k : ByteArray) (r : Reg) : Prop where
  key : 1 ≤ k.size ∧ k.size ≤ 64
  ver : 1 ≤ r.1 ∧ r.1 < 18446744073709551616
  size : r.2.size ≤ 65536
theorem recL_len (k : ByteArray) (r : Reg) : (recL k r).length = ((enc k.size).length + k.size) + ((enc r.1).length + ((enc r.2.size).length + r.2.size)) := by
  unfold recL
  simp [sInts_len]
  omega
theorem rec_key (k : ByteArray) (r : Reg) (h : RegOk k r) : textR (recL k r) 0 = (k, (((enc k.size).length + k.size : Nat) : Int), 0) := by
  have h1 := h.key
  have := textR_at [] (enc r.1 ++ (enc r.2.size ++ sInts r.2)) k (by omega) (recL k r) rfl 0 rfl
  rw [this]
  simp
theorem rec_ver (k : ByteArray) (r : Reg) (h : RegOk k r) (p : Int) (hp : p = (((enc k.size).length + k.size : Nat) : Int)) : uintR (recL k r) p = ((r.1 : Int), (((enc k.size).length + k.size + (enc r.1).length : Nat) : Int), 0) := by
  have hl := sInts_len k
  have := uintR_at (enc k.size ++ sInts k) (enc r.2.size ++ sInts r.2) r.1 h.ver.2 (recL k r) rfl p (by rw [hp]; simp [hl])
  rw [this]
  simp [hl]
theorem rec_data (k : ByteArray) (r : Reg) (h : RegOk k r) (p : Int) (hp : p = (((enc k.size).length + k.size + (enc r.1).length : Nat) : Int)) : textR (recL k r) p = (r.2, ((recL k r).length : Int), 0) := by
  have hl := sInts_len k
  have h2 := h.size
  have := textR_at ((enc k.size ++ sInts k) ++ enc r.1) [] r.2 (by omega) (recL k r) (by unfold recL; simp) p (by rw [hp]; simp [hl]; omega)
  rw [this, recL_len]
  simp [hl]
  omega
theorem rec_byte (k : ByteArray) (r : Reg) : ∀ z ∈ recL k r, 0 ≤ z ∧ z ≤ 255 := by
  intro z hz
  unfold recL at hz
  simp only [List.mem_append] at hz
  rcases hz with (h | h) | (h | (h | h))
  · exact enc_byte _ z h
  · exact sInts_byte _ z h
  · exact enc_byte _ z h
  · exact enc_byte _ z h
  · exact sInts_byte _ z h
/-- What the records say: the later one holds. -/
def setR (F : ByteArray → Option Reg) (s : ByteArray) (o : Option Reg) : ByteArray → Option Reg := fun x => if x = s then o else F x
theorem setR_same (F : ByteArray → Option Reg) (s : ByteArray) (o : Option Reg) : setR F s o s = o := if_pos rfl
theorem setR_other (F : ByteArray → Option Reg) {s x : ByteArray} (o : Option Reg) (h : x ≠ s) : setR F s o x = F x := if_neg h
def regs (rs : List (ByteArray × Reg)) : ByteArray → Option Reg := rs.foldl (fun F q => setR F q.1 (some q.2)) (fun _ => none)
theorem regs_snoc (rs : List (ByteArray × Reg)) (k : ByteArray) (r : Reg) : regs (rs ++ [(k, r)]) = setR (regs rs) k (some r) := by
  unfold regs
  rw [List.foldl_append]
  rfl
def recsL (rs : List (ByteArray × Reg)) : List (List Int) := rs.map fun q => recL q.1 q.2
theorem recsL_snoc (rs : List (ByteArray × Reg)) (k : ByteArray) (r : Reg) : recsL (rs ++ [(k, r)]) = recsL rs ++ [recL k r] := by
  unfold recsL
  simp
theorem recsL_len (rs : List (ByteArray × Reg)) : (recsL rs).length = rs.length := by
  unfold recsL
  simp
/-- Every record is that of a register. -/
def AllOk (rs : List (ByteArray × Reg)) : Prop := ∀ q ∈ rs, RegOk q.1 q.2 ∧ (recL q.1 q.2).length ≤ 65536
theorem AllOk.snoc {rs : List (ByteArray × Reg)} {k : ByteArray} {r : Reg} (h : AllOk rs) (h1 : RegOk k r) (h2 : (recL k r).length ≤ 65536) : AllOk (rs ++ [(k, r)]) := by
  intro q hq
  rcases List.mem_append.1 hq with h' | h'
  · exact h q h'
  · simp at h'
    subst h'
    exact ⟨h1, h2⟩
/-- A register that is told is one that was set. -/
theorem regs_okF : ∀ (rs : List (ByteArray × Reg)) (F : ByteArray → Option Reg), (∀ k r, F k = some r → RegOk k r ∧ (recL k r).length ≤ 65536) → AllOk rs → ∀ k r, rs.foldl (fun F q => setR F q.1 (some q.2)) F k = some r → RegOk k r ∧ (recL k r).length ≤ 65536
  | [], F, hF, _, k, r, h => hF k r h
  | q :: rs, F, hF, ha, k, r, h => regs_okF rs (setR F q.1 (some q.2)) (fun k r h => by
      by_cases e : k = q.1
      · subst e
        rw [setR_same] at h
        cases h
        exact ha q (by simp)
      · rw [setR_other _ _ e] at h
        exact hF k r h) (fun q hq => ha q (List.mem_cons_of_mem _ hq)) k r h
theorem regs_ok {rs : List (ByteArray × Reg)} (h : AllOk rs) : ∀ k r, regs rs k = some r → RegOk k r ∧ (recL k r).length ≤ 65536 :=
  regs_okF rs _ (fun _ _ h => by cases h) h
end Go.Proofs.YtgpgkpciajajcaaGreatDoor

/- Package kv: keys, a register's next, its record, laid and read. -/
namespace Go.Proofs.YtgpgkpciajajcaaGreatDoor
open Go.RowKit Go.Maps
set_option linter.unusedVariables false
set_option maxRecDepth 20000

/-- A register in a block of its own. -/
def RgAt (w : World) (g : Nat) (x y : Value) : Prop := w.heap[g]? = some (.cells #[x, y] 90 (0, 0))
section
variable {w w' : World} {g : Nat} {x y : Value}
theorem RgAt.c0 (h : RgAt w g x y) : w.cell? ⟨g, 0, none⟩ = some x := by rw [cell_of_row w g 0 _ _ _ h]; rfl
theorem RgAt.c1 (h : RgAt w g x y) : w.cell? ⟨g, 1, none⟩ = some y := by rw [cell_of_row w g 1 _ _ _ h]; rfl
theorem RgAt.f0 (h : RgAt w g x y) : w.frozen? ⟨g, 0, none⟩ = false := by unfold RgAt at h; simp [World.frozen?, h]
theorem RgAt.f1 (h : RgAt w g x y) : w.frozen? ⟨g, 1, none⟩ = false := by unfold RgAt at h; simp [World.frozen?, h]
theorem RgAt.lt (h : RgAt w g x y) : g < w.heap.size := (Array.getElem?_eq_some_iff.1 h).1
theorem RgAt.grown (h : RgAt w g x y) (hg : w.grownBy w' none) : RgAt w' g x y := (hg.block g h.lt (by simp)).trans h
theorem RgAt.stay (h : RgAt w g x y) (hb : w'.heap[g]? = w.heap[g]?) : RgAt w' g x y := hb.trans h
theorem RgAt.new (w : World) (x y : Value) : RgAt (w.alloc (.cells #[x, y] 90)) w.heap.size x y := heap_alloc_new w _
theorem RgAt.set (h : RgAt w g x y) (x' y' : Value) : RgAt ((w.setCell ⟨g, 0, none⟩ x').setCell ⟨g, 1, none⟩ y') g x' y' := by
  have h1 : (w.setCell ⟨g, 0, none⟩ x').heap[g]? = some (.cells #[x', y] 90 (0, 0)) := by
    unfold RgAt at h
    rw [setCell_eq_setRow w g 0 _ 90 (0, 0) _ h, setRow_heap w g _ _ 90 _ h]
    rfl
  unfold RgAt
  rw [setCell_eq_setRow _ g 1 _ 90 (0, 0) _ h1, setRow_heap _ g _ _ 90 _ h1]
  rfl
theorem RgAt.var (h : RgAt w g x y) : (loadVar 90 ⟨g, 0, none⟩).run Tryz.prog w = .ok (.agg #[x, y]) w :=
  run_loadVar_row w g 90 90 _ _ (.struct (Tryz.prog.fieldsOf 90)) h (by kernel_rfl) rfl (by kernel_rfl)
end
theorem gb_pair {w w1 : World} {g : Nat} (hg : w.grownBy w1 none) (hn : w.heap.size ≤ g) (u v : Value) : w.grownBy ((w1.setCell ⟨g, 0, none⟩ u).setCell ⟨g, 1, none⟩ v) none :=
  gb_trans (gb_trans hg (gb_set (g := g) rfl) (fun k hk => .inl (by cases hk; exact hn))) (gb_set (g := g) rfl) (fun k hk => .inl (by cases hk; exact hn))
theorem results_cell2 {fn : Func} {p t : Tmp} {ty : TypeId} (h : fn.results = #[.cell p ty, .tmp t]) (tmps : Array Value) (P : Program) (w : World) (ad : Addr) (v : Value) (h1 : tmps.getD p undef = .pointer (some ad)) (h2 : (loadVar ty ad).run P w = .ok v w) :
    (results fn tmps).run P w = .ok (.tuple #[v, tmps.getD t undef]) w := by
  rw [Array.getD_eq_getD_getElem?] at h1
  simp only [results, h]
  simp [h1, asAddr, h2]
theorem results_mid {fn : Func} {p t u : Tmp} {ty : TypeId} (h : fn.results = #[.tmp t, .cell p ty, .tmp u]) (tmps : Array Value) (P : Program) (w : World) (ad : Addr) (v : Value) (h1 : tmps.getD p undef = .pointer (some ad)) (h2 : (loadVar ty ad).run P w = .ok v w) :
    (results fn tmps).run P w = .ok (.tuple #[tmps.getD t undef, v, tmps.getD u undef]) w := by
  rw [Array.getD_eq_getD_getElem?] at h1
  simp only [results, h]
  simp [h1, asAddr, h2]
/-- Is it a key? -/
def kB (s : ByteArray) : Bool := decide (1 ≤ s.size) && decide (s.size ≤ 64)
theorem kB_true {s : ByteArray} (h : 1 ≤ s.size ∧ s.size ≤ 64) : kB s = true := by unfold kB; simp; omega
theorem kB_size {s : ByteArray} (h : kB s = true) : 1 ≤ s.size ∧ s.size ≤ 64 := by unfold kB at h; simp at h; omega
theorem k_isKey (s : ByteArray) (hs : (s.size : Int) ≤ 9223372036854775807) (w : World) :
    Calls Tryz.prog 69 #[.string s] w fun e w' => e = .returned (.bool (kB s)) ∧ w = w' := by
  obtain ⟨b1, hb1⟩ : ∃ b, b = decide (1 ≤ s.size) := ⟨_, rfl⟩
  obtain ⟨b2, hb2⟩ : ∃ b, b = decide (s.size ≤ 64) := ⟨_, rfl⟩
  have hk : kB s = (b1 && b2) := by rw [hb1, hb2]; rfl
  have q1 : decide ((1 : Int) ≤ (s.size : Int)) = b1 := by rw [hb1]; simp; omega
  have q2 : decide ((s.size : Int) ≤ 64) = b2 := by rw [hb2]; simp; omega
  rw [hk]
  clear hb1 hb2 hk
  cases b1 with
  | false =>
    go_enter Tryz.func69, Tryz.ntmps69
    go_wp2
    go_ret
    exact ⟨rfl, rfl⟩
  | true =>
    go_enter Tryz.func69, Tryz.ntmps69
    go_wp2
    go_ret
    exact ⟨rfl, rfl⟩
/-- The register behind a change. -/
theorem k_next (v : Nat) (s0 : ByteArray) (a : Option Addr) (d : List Int) (M c : Nat) (w : World) (hr : Rd w a d) (hM : d.length = M) (hv : v < 18446744073709551615) :
    Calls Tryz.prog 42 #[.agg #[.int .u64 (v : Int), .string s0], .slice a M c] w fun e w' => e = .returned (.agg #[.int .u64 ((v : Int) + 1), .string (strOfNums d)]) ∧ w.grownBy w' none := by
  obtain ⟨W1, eW1⟩ : ∃ W1, W1 = (w.alloc (.cells #[.int .u64 (v : Int), .string s0] 90)).alloc (.cells #[.int .u64 0, .string ⟨#[]⟩] 90) := ⟨_, rfl⟩
  have hg1 : w.grownBy (w.alloc (.cells #[.int .u64 (v : Int), .string s0] 90)) none := World.grownBy_alloc w _ none
  have hgw : w.grownBy W1 none := by rw [eW1]; exact hg1.trans (World.grownBy_alloc _ _ none)
  have hs1 : (w.alloc (.cells #[.int .u64 (v : Int), .string s0] 90)).heap.size = w.heap.size + 1 := Array.size_push _
  have HO1 : RgAt W1 w.heap.size (.int .u64 (v : Int)) (.string s0) := by rw [eW1]; exact (RgAt.new w _ _).grown (World.grownBy_alloc _ _ none)
  have HO2 : RgAt W1 (w.heap.size + 1) (.int .u64 0) (.string ⟨#[]⟩) := by rw [eW1, ← hs1]; exact RgAt.new _ _ _
  have hcv := fun w1 hg => conv_rd w1 a d M c (hr.grown (w := w) (row := none) (w' := w1) hg (by simp)) hM
  have hcv1 := hcv W1 hgw
  have c0 := HO1.c0
  have d0 := HO2.c0
  have d1 := HO2.c1
  have f0 := HO2.f0
  have f1 := HO2.f1
  have HF : Hid (w.grownBy W1 none ∧ RgAt W1 (w.heap.size + 1) (.int .u64 0) (.string ⟨#[]⟩)) := ⟨hgw, HO2⟩
  have q1 : max ((v : Int) + 1) 1 = (v : Int) + 1 := by omega
  have q2 : (v : Int) + 1 ≤ 18446744073709551615 := by omega
  clear hcv hgw HO1 HO2 hg1 hs1 hr hM
  go_enter Tryz.func42, Tryz.ntmps42
  go_upto_region 1 with fail
  rw [← eW1]
  clear eW1
  go_wp2
  exact bodyPost_ret (results_cell Tryz.results42 _ _ _ _ _ rfl (HF.out.2.set _ _).var) rfl ⟨rfl, gb_pair HF.out.1 (Nat.le_succ _) _ _⟩
/-- What lay has laid so far: pieces and where they lie. -/
structure LayL (w W : World) (v : Nat) (s : ByteArray) (L : List (List Int × Nat × Nat × Nat)) : Prop where
  grown : w.grownBy W none
  box : RgAt W w.heap.size (.int .u64 (v : Int)) (.string s)
  own : ∀ p ∈ L, Own W w.heap.size p.2.1 p.2.2.1 p.2.2.2 p.1
theorem LayL.next {w W W' : World} {v : Nat} {s : ByteArray} {L : List (List Int × Nat × Nat × Nat)} (h : LayL w W v s L) (hg : W.grownBy W' none) : LayL w W' v s L :=
  ⟨h.grown.trans hg, h.box.grown hg, fun p hp => (h.own p hp).kept hg (by simp)⟩
theorem LayL.add {w W W' : World} {v : Nat} {s : ByteArray} {L : List (List Int × Nat × Nat × Nat)} (h : LayL w W v s L) (hg : W.grownBy W' none) {g N c : Nat} {zs : List Int} (ho : Own W' W.heap.size g N c zs) : LayL w W' v s ((zs, g, N, c) :: L) := by
  have h' := h.next hg
  refine ⟨h'.grown, h'.box, fun p hp => ?_⟩
  rcases List.mem_cons.1 hp with rfl | hp
  · exact ho.base h.grown.size
  · exact h'.own p hp
theorem lay_text {w W : World} {v : Nat} {s : ByteArray} {L : List (List Int × Nat × Nat × Nat)} (h : LayL w W v s L) (t : ByteArray) (ht : t.size ≤ 140737488354000) :
    Calls Tryz.prog 71 #[.slice none 0 0, .string t] W fun e w' => ∃ g c N, e = .returned (.slice (some ⟨g, 0, none⟩) N c) ∧ LayL w w' v s ((enc t.size ++ sInts t, g, N, c) :: L) := by
  refine (f_puttext none [] 0 0 t W ⟨.inl rfl, by simp⟩ rfl (fun _ => rfl) (by omega)).mono ?_
  rintro e w' ⟨g, c, N, rfl, ho, hg⟩
  rw [List.nil_append] at ho
  exact ⟨g, c, N, rfl, h.add hg ho⟩
theorem lay_ver {w W : World} {v : Nat} {s : ByteArray} {L : List (List Int × Nat × Nat × Nat)} (h : LayL w W v s L) (hv : v < 18446744073709551616) :
    Calls Tryz.prog 72 #[.slice none 0 0, .int .u64 (v : Int)] W fun e w' => ∃ g c N, e = .returned (.slice (some ⟨g, 0, none⟩) N c) ∧ LayL w w' v s ((enc v, g, N, c) :: L) := by
  refine (f_putuint none [] 0 0 (v : Int) W ⟨.inl rfl, by simp⟩ rfl (fun _ => rfl) (by omega) (by omega)).mono ?_
  rintro e w' ⟨g, c, N, rfl, ho, hg⟩
  rw [List.nil_append, Int.toNat_natCast] at ho
  exact ⟨g, c, N, rfl, h.add hg ho⟩
theorem lay_join {w W : World} {k : ByteArray} {v : Nat} {s : ByteArray} {L : List (List Int × Nat × Nat × Nat)} {g1 N1 c1 g2 N2 c2 g3 N3 c3 : Nat} (h : LayL w W v s L) (m1 : (enc k.size ++ sInts k, g1, N1, c1) ∈ L) (m2 : (enc v, g2, N2, c2) ∈ L) (m3 : (enc s.size ++ sInts s, g3, N3, c3) ∈ L) (hk : k.size ≤ 140737488354000) (hv : v < 18446744073709551616) (hs : k.size + s.size ≤ 140737488354000) (t : TypeId) :
    Calls Tryz.prog 70 #[.slice (some ⟨W.heap.size, 0, none⟩) 3 3] (W.alloc (.cells #[.slice (some ⟨g1, 0, none⟩) N1 c1, .slice (some ⟨g2, 0, none⟩) N2 c2, .slice (some ⟨g3, 0, none⟩) N3 c3] t)) fun e w' => ∃ g c N, e = .returned (.slice (some ⟨g, 0, none⟩) N c) ∧ Own w' w.heap.size g N c (recL k (v, s)) ∧ w.grownBy w' none ∧ RgAt w' w.heap.size (.int .u64 (v : Int)) (.string s) := by
  have o1 := h.own _ m1
  have o2 := h.own _ m2
  have o3 := h.own _ m3
  have l1 := o1.len
  have l2 := o2.len
  have l3 := o3.len
  dsimp only at o1 o2 o3 l1 l2 l3
  have e1 := enc_len k.size (by omega)
  have e2 := enc_len v hv
  have e3 := enc_len s.size (by omega)
  have e2' := enc_len_pos v
  have hi1 := sInts_len k
  have hi3 := sInts_len s
  rw [List.length_append, hi1] at l1
  rw [List.length_append, hi3] at l3
  refine (g_join [⟨some ⟨g1, 0, none⟩, N1, c1, enc k.size ++ sInts k⟩, ⟨some ⟨g2, 0, none⟩, N2, c2, enc v⟩, ⟨some ⟨g3, 0, none⟩, N3, c3, enc s.size ++ sInts s⟩] 3 W t _ rfl rfl (by omega) ?_ (by simp [total]; omega) (by simp [total]; omega)).mono ?_
  · intro p hp
    simp only [List.mem_cons, List.mem_nil_iff, or_false] at hp
    rcases hp with rfl | rfl | rfl
    · exact ⟨o1.rd, o1.len, by simp⟩
    · exact ⟨o2.rd, o2.len, by simp⟩
    · exact ⟨o3.rd, o3.len, by simp⟩
  · rintro e w' ⟨g, c, N, rfl, ho', hg'⟩
    refine ⟨g, c, N, rfl, ?_, h.grown.trans hg', h.box.grown hg'⟩
    have := ho'.base h.grown.size
    simpa [joined, recL] using this
set_option maxHeartbeats 8000000 in
theorem k_lay (k : ByteArray) (v : Nat) (s : ByteArray) (w : World) (hk : k.size ≤ 64) (hv : v < 18446744073709551616) (hs : s.size ≤ 140737488353000) :
    Calls Tryz.prog 43 #[.agg #[.int .u64 (v : Int), .string s], .string k] w fun e w' => ∃ g c N, e = .returned (.slice (some ⟨g, 0, none⟩) N c) ∧ Own w' w.heap.size g N c (recL k (v, s)) ∧ w.grownBy w' none := by
  obtain ⟨W1, eW1⟩ : ∃ W1, W1 = w.alloc (.cells #[.int .u64 (v : Int), .string s] 90) := ⟨_, rfl⟩
  have hL0 : LayL w W1 v s [] := by
    rw [eW1]
    exact ⟨World.grownBy_alloc w _ none, RgAt.new w _ _, fun p hp => by cases hp⟩
  have HL : Hid (LayL w W1.drew v s []) := hL0.next (gb_drew (World.grownBy.refl _ _))
  have c0 := hL0.box.c0
  have c1 := hL0.box.c1
  have HK : Hid (k.size ≤ 140737488354000) := by show _ ≤ _; omega
  have HS : Hid (s.size ≤ 140737488354000) := by show _ ≤ _; omega
  have HKS : Hid (k.size + s.size ≤ 140737488354000) := by show _ ≤ _; omega
  have HV : Hid (v < 18446744073709551616) := hv
  clear hL0 hk hv hs
  go_enter Tryz.func43, Tryz.ntmps43
  go_upto_region 1 with fail
  rw [← eW1]
  clear eW1
  go_region_held3 (fun W => W.cell? ⟨w.heap.size, 0, none⟩ = some (.int .u64 (v : Int)) ∧ W.cell? ⟨w.heap.size, 1, none⟩ = some (.string s)) (go_keep) (first
    | (go_at_call 71; refine (lay_text HL.out _ (by first | exact HK.out | exact HS.out)).mono ?_; rintro e w1 ⟨g1, k1, N1, rfl, hl⟩; clear HL; have HL : Hid (LayL w w1 v s _) := hl; have c0' := hl.box.c0; have c1' := hl.box.c1; clear hl)
    | (go_at_call 72; refine (lay_ver HL.out HV.out).mono ?_; rintro e w1 ⟨g2, k2, N2, rfl, hl⟩; clear HL; have HL : Hid (LayL w w1 v s _) := hl; have c0' := hl.box.c0; have c1' := hl.box.c1; clear hl)
    | (go_at_call 70; refine (lay_join (k := k) HL.out (by simp) (by simp) (by simp) HK.out HV.out HKS.out _).mono ?_; rintro e w1 ⟨g4, k4, N4, rfl, ho4, hg4, hb4⟩; have c0' := hb4.c0; have c1' := hb4.c1; have HO4 : Hid (Own w1 w.heap.size g4 N4 k4 (recL k (v, s)) ∧ w.grownBy w1 none) := ⟨ho4, hg4⟩; clear ho4 hg4 hb4))
  all_goals go_wp2
  all_goals go_ret
  all_goals exact ⟨g4, k4, N4, rfl, HO4.out.1, HO4.out.2⟩
end Go.Proofs.YtgpgkpciajajcaaGreatDoor

/- Package kv: the map of its registers. -/
namespace Go.Proofs.YtgpgkpciajajcaaGreatDoor
open Go.RowKit Go.Maps
set_option linter.unusedVariables false
set_option maxRecDepth 20000

def regD0 (r : Reg) : DataW Unit := .agg [.lit (.int .u64 (r.1 : Int)), .lit (.string r.2.data.toList)]
def regL : List Value → Option Reg
  | [.int .u64 (.ofNat v), .string s] => some (v, s)
  | _ => none
def regE : Value → Option (DataW Unit × List MemPlace)
  | .agg cs => (regL cs.toList).map fun r => (regD0 r, [])
  | _ => none
def regV0 (r : Reg) : Value := .agg #[.int .u64 (r.1 : Int), .string r.2]
/-- A register that was never set. -/
def reg0 : Reg := (0, ⟨#[]⟩)
def regV (o : Option Reg) : Value := regV0 (o.getD reg0)
def regD (o : Option Reg) : DataW Unit := regD0 (o.getD reg0)
theorem regE_V (r : Reg) : regE (regV0 r) = some (regD0 r, []) := rfl
theorem regD0_inj {a b : Reg} (h : regD0 a = regD0 b) : a = b := by
  obtain ⟨a1, a2⟩ := a
  obtain ⟨b1, b2⟩ := b
  simp only [regD0, DataW.agg.injEq, List.cons.injEq, DataW.lit.injEq, Lit.int.injEq, Lit.string.injEq, true_and, and_true] at h
  have h1 : a1 = b1 := by omega
  rw [h1, ba_ext h.2]
theorem regL_inv {l : List Value} {r : Reg} (h : regL l = some r) : l = [.int .u64 (r.1 : Int), .string r.2] := by
  unfold regL at h
  split at h
  · cases h
    rfl
  · cases h
theorem reg_inv {v : Value} {y : DataW Unit × List MemPlace} (h : regE v = some y) : ∃ r, v = regV0 r ∧ y = (regD0 r, []) := by
  unfold regE at h
  split at h
  · rename_i cs
    obtain ⟨r, hr, rfl⟩ := Option.map_eq_some_iff.1 h
    refine ⟨r, ?_, rfl⟩
    have := regL_inv hr
    unfold regV0
    congr 1
    exact Array.toList_inj.1 this
  · cases h
theorem zero90 (w : World) : (zeroValue 90).run Tryz.prog w = .ok (regV0 reg0) w := by kernel_rfl
/-- The map in block mb: F tells the registers. -/
def RegIs (w : World) (mb n : Nat) (F : ByteArray → Option Reg) : Prop :=
  ∃ D : DataW Unit, w.ownsMap Tryz.prog 9 regE mb n D ∧ (∀ s : ByteArray, D.atKey (kn s) (regD none) = regD (F s)) ∧ (∀ kl, Maps.has D kl = true → ∃ s, kl = kn s ∧ (F s).isSome = true) ∧ ∀ s, (F s).isSome = true → Maps.has D (kn s) = true
theorem RegIs.kept {w w' : World} {row : Option Nat} {mb n : Nat} {F : ByteArray → Option Reg} (h : RegIs w mb n F) (hg : w.grownBy w' row) (h2 : some mb ≠ row) : RegIs w' mb n F := by
  obtain ⟨D, hm, hd, hh, hi⟩ := h
  exact ⟨D, hm.kept hg h2, hd, hh, hi⟩
theorem RegIs.stay {w w' : World} {mb n : Nat} {F : ByteArray → Option Reg} (h : RegIs w mb n F) (hb : w'.heap[mb]? = w.heap[mb]?) : RegIs w' mb n F := by
  obtain ⟨D, ⟨es, clock, h1, h2⟩, hd⟩ := h
  exact ⟨D, ⟨es, clock, hb.trans h1, h2⟩, hd⟩
theorem RegIs.more {w : World} {mb n m : Nat} {F : ByteArray → Option Reg} (h : RegIs w mb n F) (hm : n ≤ m) : RegIs w mb m F := by
  obtain ⟨D, h1, h2⟩ := h
  exact ⟨D, h1.mono hm, h2⟩
theorem RegIs.made (w : World) : RegIs (w.alloc (.map #[] 0)) w.heap.size 0 (fun _ => none) :=
  ⟨.map [], World.ownsMap_made w _ _ _, fun _ => rfl, fun kl h => by simp [Maps.has] at h, fun s h => by simp at h⟩
theorem RegIs.lt {w : World} {mb n : Nat} {F : ByteArray → Option Reg} (h : RegIs w mb n F) : mb < w.heap.size := by
  obtain ⟨D, hm, _⟩ := h
  exact hm.lt
theorem RegIs.look {w : World} {mb n : Nat} {F : ByteArray → Option Reg} (h : RegIs w mb n F) (s : ByteArray) (hs : s.size ≤ 64) :
    (Instr.lookup 66 (.map (some mb)) (.string s) false).run Tryz.prog w = .ok (regV (F s)) w := by
  obtain ⟨D, hm, hd, _⟩ := h
  obtain ⟨v, ps, hrun, hv⟩ := hm.lookup law9 Tryz.underlying66 (zero90 w) (regE_V reg0) (key9 s hs)
  rw [show regD0 reg0 = regD none from rfl, hd s] at hv
  obtain ⟨r, rfl, hr⟩ := reg_inv hv
  simp only [Prod.mk.injEq] at hr
  have := regD0_inj (show regD0 ((F s).getD reg0) = regD0 r from hr.1)
  rw [hrun, ← this]
  rfl
theorem RegIs.put {w : World} {mb n : Nat} {F : ByteArray → Option Reg} (h : RegIs w mb n F) (s : ByteArray) (hs : s.size ≤ 64) (hn : n ≤ 4194304) (r : Reg) :
    ∃ w', (Instr.mapUpdate 66 (.map (some mb)) (.string s) (regV0 r)).run Tryz.prog w = .ok () w' ∧ RegIs w' mb (n + 1) (setR F s (some r)) ∧ w.grownBy w' (some mb) := by
  obtain ⟨D, hm, hd, hh, hi⟩ := h
  obtain ⟨w', hrun, hm', hg⟩ := hm.update law9 Tryz.underlying66 (by unfold maxLen; omega) (key9 s hs) (regE_V r)
  refine ⟨w', hrun, ⟨_, hm', fun x => ?_, fun kl hk => ?_, fun x hx => ?_⟩, hg⟩
  · by_cases e : x = s
    · subst e
      rw [atKey_put_same hm.isMap (kn_key x), setR_same]
      rfl
    · rw [atKey_put_other (kn_ne e), hd x, setR_other F _ e]
  · by_cases e : kl = kn s
    · exact ⟨s, e, by rw [setR_same]; rfl⟩
    · rw [has_put_other e] at hk
      obtain ⟨x, rfl, hx⟩ := hh kl hk
      exact ⟨x, rfl, by rw [setR_other F _ (fun e' => e (by rw [e']))]; exact hx⟩
  · by_cases e : x = s
    · subst e
      exact has_put_same hm.isMap (kn_key x) _
    · rw [has_put_other (kn_ne e)]
      rw [setR_other F _ e] at hx
      exact hi x hx
end Go.Proofs.YtgpgkpciajajcaaGreatDoor

