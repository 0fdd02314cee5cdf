/- Package chunk: the reader: some bits. -/
import Derived.Test.YteahhkpbjkcmhaaDoorMb
import Derived.Test.YteahhkpbjkcmhaaDoorRzero
import Derived.Deep.QuietTactic
import Derived.BigQuiet
namespace Go.Proofs.YteahhkpbjkcmhaaDoor
open Go.RowKit
set_option linter.unusedVariables false

/-- A reader lies at p over the bytes zs; what is left to be read (none: it is wrong). -/
def RdrAt (w : World) (p : Nat) (a : Option Addr) (zs : List Int) (cap : Nat) (st : Option (List Bool)) : Prop :=
  ∃ (n : Nat) (bad : Bool), w.rowIs p 77 3 (HeadF (.slice a zs.length cap) n bad) ∧ n ≤ 8 * zs.length ∧ st = if bad then none else some ((unpack zs).drop n)
theorem RdrAt.kept {w w' : World} {row : Option Nat} {p : Nat} {a : Option Addr} {zs : List Int} {cap : Nat} {st : Option (List Bool)} (h : RdrAt w p a zs cap st) (hg : w.grownBy w' row) (hne : some p ≠ row) : RdrAt w' p a zs cap st := by
  obtain ⟨n, bad, hrow, hn, hst⟩ := h
  exact ⟨n, bad, hrow.of_block (hg.block p hrow.lt hne), hn, hst⟩
set_option maxHeartbeats 2000000 in
theorem d_take (p : Nat) (a : Option Addr) (zs : List Int) (cap k : Nat) (st : Option (List Bool)) (w : World) (h : RdrAt w p a zs cap st) (hr : Rd w a zs) (hz : (zs.length : Int) ≤ 140737488355000) (hk : k ≤ 64) :
    Calls Tryd.prog 44 #[.pointer (some ⟨p, 0, none⟩), .int .i64 k] w fun e w' => ∃ v st', e = .returned (.int .u64 v) ∧ 0 ≤ v ∧ v < 2 ^ k ∧ RdrAt w' p a zs cap st' ∧ GetR k st st' v ∧ w.grownBy w' (some p) := by
  obtain ⟨n, bad, hrow, hn, hst⟩ := h
  have HST : Hid (st = if bad then none else some ((unpack zs).drop n)) := hst
  clear hst
  have c0 : w.cell? ⟨p, 0, none⟩ = some (.slice a zs.length cap) := hrow.cell (i := 0) (by omega)
  have c1 : w.cell? ⟨p, 1, none⟩ = some (.int .i64 n) := hrow.cell (i := 1) (by omega)
  have c2 : w.cell? ⟨p, 2, none⟩ = some (.bool bad) := hrow.cell (i := 2) (by omega)
  have f1 := hrow.frozen 1
  have f2 := hrow.frozen 2
  have HROW : Hid (w.rowIs p 77 3 (HeadF (.slice a zs.length cap) n bad)) := hrow
  have HPW : Hid ((0 : Int) < 2 ^ k) := Int.pow_pos (by decide)
  clear hrow
  have hw8 : IntKind.i64.wrap ((zs.length : Int) * 8) = (zs.length : Int) * 8 := wrap_id _ (by omega)
  by_cases hfit : n + k ≤ 8 * zs.length
  · have hy : readB zs ((zs.length : Int) * 8) n k = true := by have h := readB_yes hfit hk; rw [Int.mul_comm] at h; exact h
    have HRd : Hid (∀ d, Calls Tryd.prog 56 #[.slice a zs.length cap, .int .i64 ((zs.length : Int) * 8), .int .i64 n, .int .i64 k] (w.drewN d) fun e w' => e = .returned (.tuple #[.int .u64 (rdv zs n k), .bool true]) ∧ w' = w.drewN d) := fun d => (read_yes a zs cap _ n k (w.drewN d) hr (by omega) hz hy).mono (fun _ _ h => ⟨h.1, h.2.symm⟩)
    have HB : Hid (0 ≤ rdv zs n k ∧ rdv zs n k < 2 ^ k) := rdv_bound zs n k
    have HGt : Hid (get k ((unpack zs).drop n) = some (rdv zs n k, (unpack zs).drop (n + k))) := get_rdv zs n k hfit
    generalize rdv zs n k = v at HRd HB HGt
    obtain ⟨L, eL⟩ : ∃ L, L = zs.length := ⟨_, rfl⟩
    have EL : Hid (L = zs.length) := eL
    rw [← eL] at HRd c0 hfit hz hw8
    clear hr hy hn eL
    go_enter Tryd.func44, Tryd.ntmps44
    go_wp2_with fail
    go_quiet (exact Calls.quiet_of_same (HRd.out _))
    go_wp2
    go_ret
    have hrow' : ((w.drewN nq).setCell ⟨p, 1, none⟩ (.int .i64 ((n : Int) + (k : Int)))).rowIs p 77 3 (HeadF (.slice a zs.length cap) (n + k) bad) := by
      have hr0 : (w.drewN nq).rowIs p 77 3 (HeadF (.slice a zs.length cap) n bad) := HROW.out
      refine (hr0.set 1 _).congr fun i hi => ?_
      unfold HeadF
      match i, hi with
      | 0, _ => rfl
      | 1, _ => rfl
      | 2, _ => rfl
    refine ⟨v, if bad then none else some ((unpack zs).drop (n + k)), rfl, HB.out.1, HB.out.2, ⟨n + k, bad, hrow', by have := EL.out; omega, rfl⟩, ?_, ?_⟩
    · rw [HST.out]
      cases bad with
      | true => rfl
      | false => unfold GetR; simp only [Bool.false_eq_true, if_false]; rw [HGt.out]; exact ⟨rfl, rfl⟩
    · exact gb_trans (gb_any (gb_drewN w nq) _) (gb_set rfl) (fun k hk => .inr hk)
  · have hno : readB zs ((zs.length : Int) * 8) n k = false := by
      cases hb : readB zs ((zs.length : Int) * 8) n k with
      | false => rfl
      | true => have h := (readB_n hb).2.2.2; omega
    have HRd : Hid (∀ d, Calls Tryd.prog 56 #[.slice a zs.length cap, .int .i64 ((zs.length : Int) * 8), .int .i64 n, .int .i64 k] (w.drewN d) fun e w' => e = .returned (.tuple #[.int .u64 0, .bool false]) ∧ w' = w.drewN d) := fun d => (read_no a zs cap _ n k (w.drewN d) hr (by omega) hno).mono (fun _ _ h => ⟨h.1, h.2.symm⟩)
    have HGt : Hid (get k ((unpack zs).drop n) = none) := get_short zs n k (by omega) (by omega)
    have HNB : Hid (n ≤ 8 * zs.length) := hn
    obtain ⟨L, eL⟩ : ∃ L, L = zs.length := ⟨_, rfl⟩
    have EL : Hid (L = zs.length) := eL
    rw [← eL] at HRd c0 hfit hz hw8
    clear hr hno hn eL
    go_enter Tryd.func44, Tryd.ntmps44
    go_wp2_with fail
    go_quiet (exact Calls.quiet_of_same (HRd.out _))
    go_wp2
    go_ret
    have hrow' : ((w.drewN nq).setCell ⟨p, 2, none⟩ (.bool true)).rowIs p 77 3 (HeadF (.slice a zs.length cap) n true) := by
      have hr0 : (w.drewN nq).rowIs p 77 3 (HeadF (.slice a zs.length cap) n bad) := HROW.out
      refine (hr0.set 2 _).congr fun i hi => ?_
      unfold HeadF
      match i, hi with
      | 0, _ => rfl
      | 1, _ => rfl
      | 2, _ => rfl
    refine ⟨0, none, rfl, by omega, HPW.out, ⟨n, true, hrow', HNB.out, rfl⟩, ?_, ?_⟩
    · cases bad with
      | true => rw [HST.out]; rfl
      | false =>
        have hst : st = some ((unpack zs).drop n) := HST.out
        rw [hst]
        unfold GetR
        show match get k ((unpack zs).drop n) with | some (u, r) => (0 : Int) = u ∧ none = some r | none => (0 : Int) = 0 ∧ (none : Option (List Bool)) = none
        rw [HGt.out]
        exact ⟨rfl, rfl⟩
    · exact gb_trans (gb_any (gb_drewN w nq) _) (gb_set rfl) (fun k hk => .inr hk)
set_option maxHeartbeats 1000000 in
theorem d_must (p : Nat) (a : Option Addr) (zs : List Int) (cap : Nat) (b : Bool) (st : Option (List Bool)) (w : World) (h : RdrAt w p a zs cap st) :
    Calls Tryd.prog 48 #[.pointer (some ⟨p, 0, none⟩), .bool b] w fun e w' => e = .returned (.tuple #[]) ∧ RdrAt w' p a zs cap (if b then st else none) ∧ w.grownBy w' (some p) := by
  obtain ⟨n, bad, hrow, hn, hst⟩ := h
  have c2 : w.cell? ⟨p, 2, none⟩ = some (.bool bad) := hrow.cell (i := 2) (by omega)
  have f2 := hrow.frozen 2
  have HSET : Hid (∀ x, (w.setCell ⟨p, 2, none⟩ (.bool x)).rowIs p 77 3 (HeadF (.slice a zs.length cap) n x)) := by
    intro x
    refine (hrow.set 2 _).congr fun i hi => ?_
    unfold HeadF
    match i, hi with
    | 0, _ => rfl
    | 1, _ => rfl
    | 2, _ => rfl
  have HN : Hid (n ≤ 8 * zs.length) := hn
  have HST : Hid (st = if bad then none else some ((unpack zs).drop n)) := hst
  clear hrow hn hst
  cases b with
  | true =>
    cases bad with
    | true =>
      go_enter Tryd.func48, Tryd.ntmps48
      go_wp2
      go_end0
      exact ⟨rfl, ⟨n, true, HSET.out _, HN.out, HST.out⟩, gb_set rfl⟩
    | false =>
      go_enter Tryd.func48, Tryd.ntmps48
      go_wp2
      go_end0
      exact ⟨rfl, ⟨n, false, HSET.out _, HN.out, HST.out⟩, gb_set rfl⟩
  | false =>
    cases bad with
    | true =>
      go_enter Tryd.func48, Tryd.ntmps48
      go_wp2
      go_end0
      exact ⟨rfl, ⟨n, true, HSET.out _, HN.out, rfl⟩, gb_set rfl⟩
    | false =>
      go_enter Tryd.func48, Tryd.ntmps48
      go_wp2
      go_end0
      exact ⟨rfl, ⟨n, true, HSET.out _, HN.out, rfl⟩, gb_set rfl⟩
end Go.Proofs.YteahhkpbjkcmhaaDoor
