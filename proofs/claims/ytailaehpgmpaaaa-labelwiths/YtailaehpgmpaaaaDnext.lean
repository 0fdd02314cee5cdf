/- The program's readers: signed, next, text; Int, Text. -/
import Derived.Test.YtailaehpgmpaaaaDread
import Derived.Lib.SlBytesRow
namespace Go.Proofs.Ytailaehpgmpaaaa
open Go.RowKit
set_option linter.unusedVariables false

theorem next_end (r : Nat) (a : Option Addr) (L cap k : Nat) (n : Int) (w : World) (h : At w r a L cap k) (hz : (L : Int) ≤ 140737488355000) (hk : k ≤ L) (hn : (L : Int) - k < n) (hn64 : n ≤ 18446744073709551615) :
    Calls Try.prog 100 #[.pointer (some ⟨r, 0, none⟩), .int .u64 n] w fun e w' => e = .returned (.tuple #[.slice none 0 0, .int .i64 20]) ∧ w.grownBy w' none := by
  have c0 := h.bytes
  have c1 := h.place
  have hd : decide ((L : Int) - (k : Int) < n) = true := by simpa using hn
  have hk' : (k : Int) ≤ (L : Int) := by omega
  clear h hn
  go_enter Try.func100, Try.ntmps100
  go_wp2
  go_quiet (fail)
  go_wp2
  go_ret2
  exact ⟨rfl, gb_drewN _ _⟩

set_option maxHeartbeats 400000 in
theorem next_ok (r : Nat) (a : Option Addr) (zs : List Int) (L cap k n : Nat) (w : World) (h : At w r a L cap k) (hr : Rd w a zs) (hne : ∀ x, a = some x → x.block ≠ r) (hL : zs.length = L) (hcap : L ≤ cap) (hz : (L : Int) ≤ 140737488355000) (hn : k + n ≤ L) :
    Calls Try.prog 100 #[.pointer (some ⟨r, 0, none⟩), .int .u64 n] w fun e w' => ∃ v, e = .returned (.tuple #[.slice v n (cap - k), .int .i64 0]) ∧ Rd w' v ((zs.drop k).take n) ∧ w.grownBy w' (some r) ∧ At w' r a L cap (k + n : Nat) := by
  have c0 := h.bytes
  have c1 := h.place
  have hd : decide ((L : Int) - (k : Int) < (n : Int)) = false := by simp; omega
  have hk' : (k : Int) ≤ (L : Int) := by omega
  have HA : Hid (At w r a L cap k) := h
  have hsl : ∀ w, (Instr.slice 26 (.slice a L cap) (some (.int .i64 (k : Int))) (some (.int .i64 ((k : Int) + (n : Int)))) none).run Try.prog w = .ok (.slice (if cap = k then a else a.map (·.add k)) n (cap - k)) w := by
    intro w
    have e5 : Try.prog.elem 26 = 5 := by simp [Program.elem, Try.underlying26]
    rw [run_slice_lh w 26 a L cap (by rw [e5]; exact Try.underlying26) .i64 .i64 (k : Int) ((k : Int) + (n : Int)) (by omega) (by omega) (by omega), e5]
    have hz5 : (sizeOf 5).run Try.prog w = .ok 1 w := by
      obtain ⟨i0, hi, _, hz1, _⟩ := info_parts info5
      simp [sizeOf, typeInfo, hi, hz1]
    rw [hz5, show ((k : Int) + (n : Int)).toNat = k + n by omega]
    simp [Result.andThen, sliced]
  have HV : Hid (∀ w', Rd w' a zs → Rd w' (if cap = k then a else a.map (·.add k)) ((zs.drop k).take n)) := by
    intro w' hr'
    by_cases h0 : n = 0
    · subst h0
      exact ⟨.inl (by simp), by simp⟩
    · obtain ⟨b, off, rfl, hc⟩ := hr'.at (by omega)
      have e : (if cap = k then some (⟨b, off, none⟩ : Addr) else (some (⟨b, off, none⟩ : Addr)).map (·.add k)) = some ⟨b, off + k, none⟩ := by
        rw [if_neg (by omega)]
        by_cases h0 : k = 0
        · subst h0; rfl
        · simp [Addr.add, h0]
      rw [e]
      exact (rd_window hc hr'.2 k n (by omega)).1
  have hR0 : Rd w a zs := hr
  generalize (if cap = k then a else a.map (·.add k)) = v at hsl HV
  have HR : Hid (Rd w a zs) := hR0
  have HNE : Hid (∀ x, a = some x → some x.block ≠ some r) := fun x hx e => hne x hx (Option.some.inj e)
  have hkn : (k : Int) + (n : Int) ≤ 140737488355000 := by omega
  have hnl : (n : Int) ≤ 140737488355000 := by omega
  clear h hr hL hR0 hn hne
  go_enter Try.func100, Try.ntmps100
  go_wp2
  go_quiet (fail)
  obtain ⟨w1, ew⟩ : ∃ w1, w1 = w.drewN nq := ⟨_, rfl⟩
  rw [← ew]
  have d0 : w1.cell? ⟨r, 0, none⟩ = some (.slice a L cap) := by rw [ew]; exact c0
  have d1 : w1.cell? ⟨r, 1, none⟩ = some (.int .i64 (k : Int)) := by rw [ew]; exact c1
  have HA1 : Hid (At w1 r a L cap k) := by show At _ _ _ _ _ _; rw [ew]; exact HA.out
  have hfro := HA1.out.free
  have HA2 : Hid (At (w1.setCell ⟨r, 1, none⟩ (.int .i64 ((k : Int) + (n : Int)))) r a L cap ((k : Int) + (n : Int))) := HA1.out.set _
  have HG2 : Hid (w.grownBy (w1.setCell ⟨r, 1, none⟩ (.int .i64 ((k : Int) + (n : Int)))) (some r)) := by
    show World.grownBy _ _ _
    rw [ew]
    exact gb_trans (gb_any (gb_drewN w nq) (some r)) (gb_set rfl) (fun k hk => .inr hk)
  clear ew c0 c1 HA
  go_wp2
  obtain ⟨w2, ew⟩ : ∃ w2, w2 = w1.setCell ⟨r, 1, none⟩ (.int .i64 ((k : Int) + (n : Int))) := ⟨_, rfl⟩
  rw [← ew] at HA2 HG2 ⊢
  have c0 := HA2.out.bytes
  have c1 := HA2.out.place
  have HR2 : Hid (Rd w2 a zs) := HR.out.grown HG2.out HNE.out
  clear ew d0 d1 hfro HA1
  go_quiet (fail)
  go_wp2
  go_ret2
  refine ⟨v, rfl, (HV.out w2 HR2.out).drewN _, gb_drewR HG2.out _, ?_⟩
  have := HA2.out.draw nq
  rwa [← Int.natCast_add] at this
end Go.Proofs.Ytailaehpgmpaaaa
