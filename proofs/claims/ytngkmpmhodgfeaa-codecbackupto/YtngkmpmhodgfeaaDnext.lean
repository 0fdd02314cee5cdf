/- The program's readers: signed, next, text; Int, Text. -/
import Derived.Test.YtngkmpmhodgfeaaDread
import Derived.Lib.SlBytesRow
namespace Go.Proofs.Ytngkmpmhodgfeaa
open Go.RowKit
set_option linter.unusedVariables false

theorem g_signed (r : Nat) (u1 u3 : Int) (w : World) (Q : World → Prop) (hu : 0 ≤ u1 ∧ u1 ≤ 18446744073709551615) (HC : Calls Try.prog 43 #[.pointer (some ⟨r, 0, none⟩)] w fun e w' => e = .returned (.tuple #[.int .u64 u1, .int .i64 u3]) ∧ Q w') :
    Calls Try.prog 45 #[.pointer (some ⟨r, 0, none⟩)] w fun e w' => e = .returned (.tuple #[.int .i64 (unzz u1), .int .i64 u3]) ∧ Q w' := by
  have HU : Hid (∀ w, Calls Try.prog 55 #[.int .u64 u1] w fun e w' => e = .returned (.int .i64 (unzz u1)) ∧ w = w') := by
    intro w
    refine (g_unfolded u1 w hu).mono ?_
    rintro e w' ⟨rfl, rfl⟩
    refine ⟨ret_int ?_, rfl⟩
    unfold unzz
    split <;> split <;> omega
  generalize unzz u1 = x at HU ⊢
  go_enter Try.func45, Try.ntmps45
  go_wp2_with fail
  refine HC.mono ?_
  rintro e w1 ⟨rfl, hw⟩
  have HW : Hid (Q w1) := hw
  clear hw
  go_wp2_with (go_at_call 55; refine (HU.out _).mono ?_; rintro e w2 ⟨rfl, rfl⟩)
  go_ret2
  exact ⟨rfl, HW.out⟩

theorem f_int (a : Option Addr) (zs : List Int) (L cap : Nat) (p r1 r2 r3 : Int) (w : World) (hr : Rd w a zs) (hL : zs.length = L) (hcap : L ≤ cap) (hz : (L : Int) ≤ 140737488355000) (hR : intR zs p = (r1, r2, r3)) :
    Calls Try.prog 25 #[.slice a L cap, .int .i64 p] w fun e w' => e = .returned (.tuple #[.int .i64 r1, .int .i64 r2, .int .i64 r3]) ∧ w.grownBy w' none := by
  have hmf : ∀ (fn : Fn) (first cap : Array Value) (w : World), (Instr.makeFunc fn first cap).run Try.prog w = .ok (.func fn first cap) w := fun _ _ _ _ => rfl
  obtain ⟨u1, u2, u3, hU⟩ : ∃ u1 u2 u3, uintR zs p = (u1, u2, u3) := ⟨_, _, _, rfl⟩
  have HN := g_num w.heap.size a zs L cap p u1 u2 u3 (w.alloc (.cells #[.slice a L cap, .int .i64 p] 59)) (at_new w a L cap p) (hr.grown (World.grownBy_alloc w _ none) (by simp)) hL hcap hz hU
  have hub : 0 ≤ u1 ∧ u1 ≤ 18446744073709551615 := by
    by_cases h3 : u3 = 0
    · subst h3; have := uintR_ok hr.byte hU; omega
    · have := uintR_err hU h3; omega
  have HS := g_signed _ u1 u3 _ _ hub HN
  have HC : Hid (Calls Try.prog 44 #[.pointer (some ⟨w.heap.size, 0, none⟩), .func (.func 45) #[.pointer (some ⟨w.heap.size, 0, none⟩)] #[]] (w.alloc (.cells #[.slice a L cap, .int .i64 p] 59)) fun e w' => e = .returned (.tuple #[.int .i64 r1, .int .i64 r2, .int .i64 r3]) ∧ w.grownBy w' none) := by
    refine (read_i w.heap.size _ u2 u3 _ _ HS (fun w' h h3 => (h.2 h3).place) (fun w' n h => ⟨gb_drewR h.1 n, fun h3 => (h.2 h3).draw n⟩)).mono ?_
    rintro e w' ⟨rfl, h, _⟩
    refine ⟨?_, gb_reader h⟩
    unfold intR at hR
    rw [hU] at hR
    by_cases h3 : u3 = 0
    · simp only [h3, if_true, Prod.mk.injEq] at hR
      rw [if_pos h3, if_pos h3, hR.1, hR.2.1, ← hR.2.2, h3]
    · simp only [h3, if_false, Prod.mk.injEq] at hR
      rw [if_neg h3, if_neg h3, ← hR.1, ← hR.2.1, ← hR.2.2]
  clear HN HS hr hL hR hU hub
  go_enter Try.func25, Try.ntmps25
  go_wp2_with fail
  refine HC.out.mono ?_
  rintro e w' ⟨rfl, hg⟩
  have HG : Hid (w.grownBy w' none) := hg
  clear hg
  go_wp2
  go_ret3
  exact ⟨rfl, HG.out⟩

theorem next_end (r : Nat) (a : Option Addr) (L cap k : Nat) (n : Int) (w : World) (h : At w r a L cap k) (hz : (L : Int) ≤ 140737488355000) (hk : k ≤ L) (hn : (L : Int) - k < n) (hn64 : n ≤ 18446744073709551615) :
    Calls Try.prog 56 #[.pointer (some ⟨r, 0, none⟩), .int .u64 n] w fun e w' => e = .returned (.tuple #[.slice none 0 0, .int .i64 20]) ∧ w.grownBy w' none := by
  have c0 := h.bytes
  have c1 := h.place
  have hd : decide ((L : Int) - (k : Int) < n) = true := by simpa using hn
  have hk' : (k : Int) ≤ (L : Int) := by omega
  clear h hn
  go_enter Try.func56, Try.ntmps56
  go_wp2
  go_quiet (fail)
  go_wp2
  go_ret2
  exact ⟨rfl, gb_drewN _ _⟩

set_option maxHeartbeats 400000 in
theorem next_ok (r : Nat) (a : Option Addr) (zs : List Int) (L cap k n : Nat) (w : World) (h : At w r a L cap k) (hr : Rd w a zs) (hne : ∀ x, a = some x → x.block ≠ r) (hL : zs.length = L) (hcap : L ≤ cap) (hz : (L : Int) ≤ 140737488355000) (hn : k + n ≤ L) :
    Calls Try.prog 56 #[.pointer (some ⟨r, 0, none⟩), .int .u64 n] w fun e w' => ∃ v, e = .returned (.tuple #[.slice v n (cap - k), .int .i64 0]) ∧ Rd w' v ((zs.drop k).take n) ∧ w.grownBy w' (some r) ∧ At w' r a L cap (k + n : Nat) := by
  have c0 := h.bytes
  have c1 := h.place
  have hd : decide ((L : Int) - (k : Int) < (n : Int)) = false := by simp; omega
  have hk' : (k : Int) ≤ (L : Int) := by omega
  have HA : Hid (At w r a L cap k) := h
  have hsl : ∀ w, (Instr.slice 22 (.slice a L cap) (some (.int .i64 (k : Int))) (some (.int .i64 ((k : Int) + (n : Int)))) none).run Try.prog w = .ok (.slice (if cap = k then a else a.map (·.add k)) n (cap - k)) w := by
    intro w
    have e5 : Try.prog.elem 22 = 5 := by simp [Program.elem, Try.underlying22]
    rw [run_slice_lh w 22 a L cap (by rw [e5]; exact Try.underlying22) .i64 .i64 (k : Int) ((k : Int) + (n : Int)) (by omega) (by omega) (by omega), e5]
    have hz5 : (sizeOf 5).run Try.prog w = .ok 1 w := by
      obtain ⟨i0, hi, _, hz1, _⟩ := info_parts info5
      simp [sizeOf, typeInfo, hi, hz1]
    rw [hz5, show ((k : Int) + (n : Int)).toNat = k + n by omega]
    simp [Result.andThen, sliced]
  have HV : Hid (∀ w', Rd w' a zs → Rd w' (if cap = k then a else a.map (·.add k)) ((zs.drop k).take n)) := by
    intro w' hr'
    by_cases h0 : n = 0
    · subst h0
      exact ⟨.inl (by simp), by simp⟩
    · obtain ⟨b, off, rfl, hc⟩ := hr'.at (by omega)
      have e : (if cap = k then some (⟨b, off, none⟩ : Addr) else (some (⟨b, off, none⟩ : Addr)).map (·.add k)) = some ⟨b, off + k, none⟩ := by
        rw [if_neg (by omega)]
        by_cases h0 : k = 0
        · subst h0; rfl
        · simp [Addr.add, h0]
      rw [e]
      exact (rd_window hc hr'.2 k n (by omega)).1
  have hR0 : Rd w a zs := hr
  generalize (if cap = k then a else a.map (·.add k)) = v at hsl HV
  have HR : Hid (Rd w a zs) := hR0
  have HNE : Hid (∀ x, a = some x → some x.block ≠ some r) := fun x hx e => hne x hx (Option.some.inj e)
  have hkn : (k : Int) + (n : Int) ≤ 140737488355000 := by omega
  have hnl : (n : Int) ≤ 140737488355000 := by omega
  clear h hr hL hR0 hn hne
  go_enter Try.func56, Try.ntmps56
  go_wp2
  go_quiet (fail)
  obtain ⟨w1, ew⟩ : ∃ w1, w1 = w.drewN nq := ⟨_, rfl⟩
  rw [← ew]
  have d0 : w1.cell? ⟨r, 0, none⟩ = some (.slice a L cap) := by rw [ew]; exact c0
  have d1 : w1.cell? ⟨r, 1, none⟩ = some (.int .i64 (k : Int)) := by rw [ew]; exact c1
  have HA1 : Hid (At w1 r a L cap k) := by show At _ _ _ _ _ _; rw [ew]; exact HA.out
  have hfro := HA1.out.free
  have HA2 : Hid (At (w1.setCell ⟨r, 1, none⟩ (.int .i64 ((k : Int) + (n : Int)))) r a L cap ((k : Int) + (n : Int))) := HA1.out.set _
  have HG2 : Hid (w.grownBy (w1.setCell ⟨r, 1, none⟩ (.int .i64 ((k : Int) + (n : Int)))) (some r)) := by
    show World.grownBy _ _ _
    rw [ew]
    exact gb_trans (gb_any (gb_drewN w nq) (some r)) (gb_set rfl) (fun k hk => .inr hk)
  clear ew c0 c1 HA
  go_wp2
  obtain ⟨w2, ew⟩ : ∃ w2, w2 = w1.setCell ⟨r, 1, none⟩ (.int .i64 ((k : Int) + (n : Int))) := ⟨_, rfl⟩
  rw [← ew] at HA2 HG2 ⊢
  have c0 := HA2.out.bytes
  have c1 := HA2.out.place
  have HR2 : Hid (Rd w2 a zs) := HR.out.grown HG2.out HNE.out
  clear ew d0 d1 hfro HA1
  go_quiet (fail)
  go_wp2
  go_ret2
  refine ⟨v, rfl, (HV.out w2 HR2.out).drewN _, gb_drewR HG2.out _, ?_⟩
  have := HA2.out.draw nq
  rwa [← Int.natCast_add] at this
end Go.Proofs.Ytngkmpmhodgfeaa
