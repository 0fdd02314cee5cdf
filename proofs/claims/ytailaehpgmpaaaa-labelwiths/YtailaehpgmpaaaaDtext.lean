/- The program's readers: text, record; Text, Unframe. -/
import Derived.Test.YtailaehpgmpaaaaDnext
import Derived.Test.YtailaehpgmpaaaaDput
namespace Go.Proofs.Ytailaehpgmpaaaa
open Go.RowKit
set_option linter.unusedVariables false

theorem str_empty : strOfNums [] = ⟨#[]⟩ := rfl

set_option maxHeartbeats 400000 in
theorem g_text (r : Nat) (a : Option Addr) (zs : List Int) (L cap : Nat) (p : Int) (s : ByteArray) (r2 r3 : Int) (w : World) (h : At w r a L cap p) (hr : Rd w a zs) (hne : 0 < L → ∀ x, a = some x → x.block ≠ r) (hL : zs.length = L) (hcap : L ≤ cap) (hz : (L : Int) ≤ 140737488355000) (hR : textR zs p = (s, r2, r3)) :
    Calls Try.prog 97 #[.pointer (some ⟨r, 0, none⟩)] w fun e w' => e = .returned (.tuple #[.string s, .int .i64 r3]) ∧ w.grownBy w' (some r) ∧ (r3 = 0 → At w' r a L cap r2) := by
  obtain ⟨u1, u2, u3, hU⟩ : ∃ u1 u2 u3, uintR zs p = (u1, u2, u3) := ⟨_, _, _, rfl⟩
  have HC := g_num r a zs L cap p u1 u2 u3 w h hr hL hcap hz hU
  unfold textR at hR
  rw [hU] at hR
  by_cases h3 : u3 = 0
  · subst h3
    have hok := uintR_ok hr.byte hU
    obtain ⟨k, rfl⟩ := Int.eq_ofNat_of_zero_le (show 0 ≤ u2 by omega)
    obtain ⟨n, rfl⟩ := Int.eq_ofNat_of_zero_le (show 0 ≤ u1 by omega)
    simp only [if_true] at hR
    have HRG : Hid (∀ w1, w.grownBy w1 (some r) → Rd w1 a zs) := fun w1 hg => hr.grown hg (fun x hx e => hne (by omega) x hx (Option.some.inj e))
    by_cases hlt : (zs.length : Int) - (k : Int) < (n : Int)
    · rw [if_pos hlt] at hR
      simp only [Prod.mk.injEq] at hR
      obtain ⟨rfl, rfl, rfl⟩ := hR
      have HN : Hid (∀ w1, At w1 r a L cap k → Calls Try.prog 100 #[.pointer (some ⟨r, 0, none⟩), .int .u64 n] w1 fun e w' => e = .returned (.tuple #[.slice none 0 0, .int .i64 20]) ∧ w1.grownBy w' none) := fun w1 ha => next_end r a L cap k n w1 ha hz (by omega) (by omega) (by omega)
      have hcv : ∀ w, (convert 26 9 (.slice none 0 0)).run Try.prog w = .ok (.string ⟨#[]⟩) w := fun w => conv_rd w none [] 0 0 ⟨.inl rfl, by simp⟩ rfl
      clear hlt hok hr hU hL h hne
      go_enter Try.func97, Try.ntmps97
      go_wp2_with fail
      refine HC.mono ?_
      rintro e w1 ⟨rfl, hg, ha⟩
      have HG : Hid (w.grownBy w1 (some r)) := hg
      have HA : Hid (At w1 r a L cap k) := (show At w1 r a L cap k by simpa using ha)
      clear ha hg
      go_wp2_with fail
      refine (HN.out w1 HA.out).mono ?_
      rintro e w2 ⟨rfl, hg2⟩
      have HG2 : Hid (w.grownBy w2 (some r)) := gb_trans HG.out hg2 (by simp)
      clear hg2
      go_wp2
      go_ret2
      exact ⟨rfl, HG2.out, fun h => by omega⟩
    · rw [if_neg hlt] at hR
      simp only [Prod.mk.injEq, Int.toNat_natCast] at hR
      obtain ⟨rfl, rfl, rfl⟩ := hR
      have HN : Hid (∀ w1, At w1 r a L cap k → w.grownBy w1 (some r) → Calls Try.prog 100 #[.pointer (some ⟨r, 0, none⟩), .int .u64 n] w1 fun e w' => ∃ v, e = .returned (.tuple #[.slice v n (cap - k), .int .i64 0]) ∧ Rd w' v ((zs.drop k).take n) ∧ w1.grownBy w' (some r) ∧ At w' r a L cap (k + n : Nat)) := fun w1 ha hg => next_ok r a zs L cap k n w1 ha (HRG.out w1 hg) (hne (by omega)) hL hcap hz (by omega)
      have HLn : Hid (((zs.drop k).take n).length = n) := by show _ = _; rw [List.length_take, List.length_drop]; omega
      generalize (zs.drop k).take n = X at HN HLn ⊢
      clear hlt hok hr hU hL h hne HRG
      go_enter Try.func97, Try.ntmps97
      go_wp2_with fail
      refine HC.mono ?_
      rintro e w1 ⟨rfl, hg, ha⟩
      have HG : Hid (w.grownBy w1 (some r)) := hg
      have HA : Hid (At w1 r a L cap k) := (show At w1 r a L cap k by simpa using ha)
      clear ha hg
      go_wp2_with fail
      refine (HN.out w1 HA.out HG.out).mono ?_
      rintro e w2 ⟨v, rfl, hrd, hg2, ha2⟩
      have HG2 : Hid (w.grownBy w2 (some r)) := gb_trans HG.out hg2 (fun k hk => .inr hk)
      have HA2 : Hid (At w2 r a L cap (k + n : Nat)) := ha2
      have hcv := conv_rd w2 v X n (cap - k) hrd HLn.out
      clear hg2 ha2 hrd
      go_wp2
      go_ret2
      exact ⟨rfl, HG2.out, fun _ => by have := HA2.out; rwa [Int.natCast_add] at this⟩
  · rw [if_neg h3] at hR
    simp only [Prod.mk.injEq] at hR
    obtain ⟨rfl, rfl, rfl⟩ := hR
    have hb3 : (u3 != 0) = true := by simpa using h3
    have HE : Hid (u3 ≠ 0) := h3
    clear hr hL hU h3 h
    go_enter Try.func97, Try.ntmps97
    go_wp2_with fail
    refine HC.mono ?_
    rintro e w1 ⟨rfl, hg, _⟩
    have HG : Hid (w.grownBy w1 (some r)) := hg
    clear hg
    go_wp2
    go_ret2
    exact ⟨rfl, HG.out, fun h => absurd h HE.out⟩

theorem textR_err {zs : List Int} {p r2 r3 : Int} {s : ByteArray} (h : textR zs p = (s, r2, r3)) (h3 : r3 ≠ 0) : s = ⟨#[]⟩ ∧ r2 = 0 := by
  unfold textR at h
  split at h
  · split at h
    · simp only [Prod.mk.injEq] at h
      exact ⟨h.1.symm, h.2.1.symm⟩
    · simp only [Prod.mk.injEq] at h
      exact absurd h.2.2.symm h3
  · simp only [Prod.mk.injEq] at h
    exact ⟨h.1.symm, h.2.1.symm⟩
theorem fresh_ne {w : World} {a : Option Addr} {zs : List Int} {L : Nat} (hr : Rd w a zs) (hL : zs.length = L) : 0 < L → ∀ x, a = some x → x.block ≠ w.heap.size := by
  intro h0 x hx
  obtain ⟨b, off, e, hc⟩ := hr.at (by omega)
  rw [e] at hx
  cases hx
  have := World.block_lt_of_cell? w _ (hc 0 (by omega))
  simp only at this
  intro e
  simp only at e
  omega

theorem f_text (a : Option Addr) (zs : List Int) (L cap : Nat) (p : Int) (s : ByteArray) (r2 r3 : Int) (w : World) (hr : Rd w a zs) (hL : zs.length = L) (hcap : L ≤ cap) (hz : (L : Int) ≤ 140737488355000) (hR : textR zs p = (s, r2, r3)) :
    Calls Try.prog 87 #[.slice a L cap, .int .i64 p] w fun e w' => e = .returned (.tuple #[.string s, .int .i64 r2, .int .i64 r3]) ∧ w.grownBy w' none := by
  have hmf : ∀ (fn : Fn) (first cap : Array Value) (w : World), (Instr.makeFunc fn first cap).run Try.prog w = .ok (.func fn first cap) w := fun _ _ _ _ => rfl
  have HN := g_text w.heap.size a zs L cap p s r2 r3 (w.alloc (.cells #[.slice a L cap, .int .i64 p] 95)) (at_new w a L cap p) (hr.grown (World.grownBy_alloc w _ none) (by simp)) (fresh_ne hr hL) hL hcap hz hR
  have HC : Hid (Calls Try.prog 96 #[.pointer (some ⟨w.heap.size, 0, none⟩), .func (.func 97) #[.pointer (some ⟨w.heap.size, 0, none⟩)] #[]] (w.alloc (.cells #[.slice a L cap, .int .i64 p] 95)) fun e w' => e = .returned (.tuple #[.string s, .int .i64 r2, .int .i64 r3]) ∧ w.grownBy w' none) := by
    refine (read_s w.heap.size _ r2 r3 _ _ HN (fun w' h h3 => (h.2 h3).place) (fun w' n h => ⟨gb_drewR h.1 n, fun h3 => (h.2 h3).draw n⟩)).mono ?_
    rintro e w' ⟨rfl, h, _⟩
    refine ⟨?_, gb_reader h⟩
    by_cases h3 : r3 = 0
    · rw [if_pos h3, if_pos h3]
    · rw [if_neg h3, if_neg h3, (textR_err hR h3).1, (textR_err hR h3).2]
  clear HN hr hL hR
  go_enter Try.func87, Try.ntmps87
  go_wp2_with fail
  refine HC.out.mono ?_
  rintro e w' ⟨rfl, hg⟩
  have HG : Hid (w.grownBy w' none) := hg
  clear hg
  go_wp2
  go_ret3
  exact ⟨rfl, HG.out⟩
end Go.Proofs.Ytailaehpgmpaaaa
