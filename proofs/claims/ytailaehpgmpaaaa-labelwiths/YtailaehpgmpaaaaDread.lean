/- The program's readers: read at each of its types. -/
import Derived.Test.YtailaehpgmpaaaaDnumb
namespace Go.Proofs.Ytailaehpgmpaaaa
open Go.RowKit
set_option linter.unusedVariables false

set_option maxHeartbeats 400000 in
theorem read_u (r : Nat) (V : Value) (q e3 : Int) (w : World) (Q : World → Prop) (HC : Calls Try.prog 86 #[.pointer (some ⟨r, 0, none⟩)] w fun e w' => e = .returned (.tuple #[V, .int .i64 e3]) ∧ Q w')
    (hq : ∀ w', Q w' → e3 = 0 → w'.cell? ⟨r, 1, none⟩ = some (.int .i64 q)) (hd : ∀ w' n, Q w' → Q (w'.drewN n)) :
    Calls Try.prog 85 #[.pointer (some ⟨r, 0, none⟩), .func (.func 86) #[.pointer (some ⟨r, 0, none⟩)] #[]] w fun e w' => e = .returned (.tuple #[if e3 = 0 then V else .int .u64 0, .int .i64 (if e3 = 0 then q else 0), .int .i64 e3]) ∧ Q w' := by
  have HQ : Hid (∀ w', Q w' → e3 = 0 → w'.cell? ⟨r, 1, none⟩ = some (.int .i64 q)) := hq
  have HD : Hid (∀ w' n, Q w' → Q (w'.drewN n)) := hd
  have HCC : Hid (Calls Try.prog 86 #[.pointer (some ⟨r, 0, none⟩)] w fun e w' => e = .returned (.tuple #[V, .int .i64 e3]) ∧ Q w') := HC
  clear hq hd HC
  by_cases h3 : e3 = 0
  · rw [if_pos h3, if_pos h3]
    have HE : Hid (e3 = 0) := h3
    have hb3 : (e3 != 0) = false := by simpa using h3
    clear h3
    go_enter Try.func85, Try.ntmps85
    go_wp2_with fail
    refine HCC.out.mono ?_
    rintro e w1 ⟨rfl, hw1⟩
    have HW : Hid (Q w1) := hw1
    have hc := HQ.out w1 hw1 HE.out
    clear hw1
    go_wp2
    go_quiet (fail)
    go_wp2
    go_ret3
    exact ⟨by rw [HE.out]; rfl, HD.out _ _ HW.out⟩
  · rw [if_neg h3, if_neg h3]
    have hb3 : (e3 != 0) = true := by simpa using h3
    clear h3
    go_enter Try.func85, Try.ntmps85
    go_wp2_with fail
    refine HCC.out.mono ?_
    rintro e w1 ⟨rfl, hw1⟩
    have HW : Hid (Q w1) := hw1
    clear hw1
    go_wp2
    go_ret3
    exact ⟨rfl, HW.out⟩

set_option maxHeartbeats 400000 in
theorem read_s (r : Nat) (V : Value) (q e3 : Int) (w : World) (Q : World → Prop) (HC : Calls Try.prog 97 #[.pointer (some ⟨r, 0, none⟩)] w fun e w' => e = .returned (.tuple #[V, .int .i64 e3]) ∧ Q w')
    (hq : ∀ w', Q w' → e3 = 0 → w'.cell? ⟨r, 1, none⟩ = some (.int .i64 q)) (hd : ∀ w' n, Q w' → Q (w'.drewN n)) :
    Calls Try.prog 96 #[.pointer (some ⟨r, 0, none⟩), .func (.func 97) #[.pointer (some ⟨r, 0, none⟩)] #[]] w fun e w' => e = .returned (.tuple #[if e3 = 0 then V else .string ⟨#[]⟩, .int .i64 (if e3 = 0 then q else 0), .int .i64 e3]) ∧ Q w' := by
  have HQ : Hid (∀ w', Q w' → e3 = 0 → w'.cell? ⟨r, 1, none⟩ = some (.int .i64 q)) := hq
  have HD : Hid (∀ w' n, Q w' → Q (w'.drewN n)) := hd
  have HCC : Hid (Calls Try.prog 97 #[.pointer (some ⟨r, 0, none⟩)] w fun e w' => e = .returned (.tuple #[V, .int .i64 e3]) ∧ Q w') := HC
  clear hq hd HC
  by_cases h3 : e3 = 0
  · rw [if_pos h3, if_pos h3]
    have HE : Hid (e3 = 0) := h3
    have hb3 : (e3 != 0) = false := by simpa using h3
    clear h3
    go_enter Try.func96, Try.ntmps96
    go_wp2_with fail
    refine HCC.out.mono ?_
    rintro e w1 ⟨rfl, hw1⟩
    have HW : Hid (Q w1) := hw1
    have hc := HQ.out w1 hw1 HE.out
    clear hw1
    go_wp2
    go_quiet (fail)
    go_wp2
    go_ret3
    exact ⟨by rw [HE.out]; rfl, HD.out _ _ HW.out⟩
  · rw [if_neg h3, if_neg h3]
    have hb3 : (e3 != 0) = true := by simpa using h3
    clear h3
    go_enter Try.func96, Try.ntmps96
    go_wp2_with fail
    refine HCC.out.mono ?_
    rintro e w1 ⟨rfl, hw1⟩
    have HW : Hid (Q w1) := hw1
    clear hw1
    go_wp2
    go_ret3
    exact ⟨rfl, HW.out⟩

theorem ud_err (zs : List Int) (p : Nat) : ∀ (f i : Nat) (v r1 r2 r3 : Int), ud zs p f i v = (r1, r2, r3) → r3 ≠ 0 → r1 = 0 ∧ r2 = 0 := by
  intro f
  induction f with
  | zero => intro i v r1 r2 r3 h h3; simp only [ud, Prod.mk.injEq] at h; omega
  | succ f ih =>
    intro i v r1 r2 r3 h h3
    rw [ud] at h
    split at h
    · simp only [Prod.mk.injEq] at h; omega
    · split at h
      · simp only [Prod.mk.injEq] at h; omega
      · split at h
        · simp only [Prod.mk.injEq] at h; omega
        · exact ih _ _ _ _ _ h h3
theorem uintR_err {zs : List Int} {p r1 r2 r3 : Int} (h : uintR zs p = (r1, r2, r3)) (h3 : r3 ≠ 0) : r1 = 0 ∧ r2 = 0 := by
  unfold uintR at h
  split at h
  · simp only [Prod.mk.injEq] at h; omega
  · exact ud_err _ _ _ _ _ _ _ _ h h3
theorem at_new (w : World) (a : Option Addr) (L cap : Nat) (p : Int) : At (w.alloc (.cells #[.slice a L cap, .int .i64 p] 95)) w.heap.size a L cap p := heap_alloc_new w _
theorem gb_reader {w w' : World} {o : Obj} (h : (w.alloc o).grownBy w' (some w.heap.size)) : w.grownBy w' none := gb_trans (World.grownBy_alloc w o none) h (fun k hk => .inl (by simp at hk; omega))
theorem gb_drewR {w w' : World} {row : Option Nat} (h : w.grownBy w' row) (n : Nat) : w.grownBy (w'.drewN n) row := ⟨h.os, h.tape, h.output, h.size, h.block⟩

theorem f_uint (a : Option Addr) (zs : List Int) (L cap : Nat) (p r1 r2 r3 : Int) (w : World) (hr : Rd w a zs) (hL : zs.length = L) (hcap : L ≤ cap) (hz : (L : Int) ≤ 140737488355000) (hR : uintR zs p = (r1, r2, r3)) :
    Calls Try.prog 73 #[.slice a L cap, .int .i64 p] w fun e w' => e = .returned (.tuple #[.int .u64 r1, .int .i64 r2, .int .i64 r3]) ∧ w.grownBy w' none := by
  have hmf : ∀ (fn : Fn) (first cap : Array Value) (w : World), (Instr.makeFunc fn first cap).run Try.prog w = .ok (.func fn first cap) w := fun _ _ _ _ => rfl
  have HN := g_num w.heap.size a zs L cap p r1 r2 r3 (w.alloc (.cells #[.slice a L cap, .int .i64 p] 95)) (at_new w a L cap p) (hr.grown (World.grownBy_alloc w _ none) (by simp)) hL hcap hz hR
  have HC : Hid (Calls Try.prog 85 #[.pointer (some ⟨w.heap.size, 0, none⟩), .func (.func 86) #[.pointer (some ⟨w.heap.size, 0, none⟩)] #[]] (w.alloc (.cells #[.slice a L cap, .int .i64 p] 95)) fun e w' => e = .returned (.tuple #[.int .u64 r1, .int .i64 r2, .int .i64 r3]) ∧ w.grownBy w' none) := by
    refine (read_u w.heap.size _ r2 r3 _ _ HN (fun w' h h3 => (h.2 h3).place) (fun w' n h => ⟨gb_drewR h.1 n, fun h3 => (h.2 h3).draw n⟩)).mono ?_
    rintro e w' ⟨rfl, h, _⟩
    refine ⟨?_, gb_reader h⟩
    by_cases h3 : r3 = 0
    · rw [if_pos h3, if_pos h3]
    · rw [if_neg h3, if_neg h3, (uintR_err hR h3).1, (uintR_err hR h3).2]
  clear HN hr hL hR
  go_enter Try.func73, Try.ntmps73
  go_wp2_with fail
  refine HC.out.mono ?_
  rintro e w' ⟨rfl, hg⟩
  have HG : Hid (w.grownBy w' none) := hg
  clear hg
  go_wp2
  go_ret3
  exact ⟨rfl, HG.out⟩
end Go.Proofs.Ytailaehpgmpaaaa
