/- The document's own head: some bits. -/
import Derived.Test.YteahhkpbjkcmhaaDoorRread
import Derived.Test.YteahhkpbjkcmhaaDoorMh
import Derived.Deep.OwnRows
namespace Go.Proofs.YteahhkpbjkcmhaaDoor
open Go.RowKit
set_option linter.unusedVariables false

def HeadF (vB : Value) (at' : Nat) (bad : Bool) : Nat → Value := fun i => if i = 0 then vB else if i = 1 then .int .i64 at' else .bool bad
/-- A head lies at p over the bytes zs; what is left to be read (none: it is wrong). -/
def HeadAt (w : World) (p : Nat) (a : Option Addr) (zs : List Int) (cap : Nat) (st : Option (List Bool)) : Prop :=
  ∃ (n : Nat) (bad : Bool), w.rowIs p 56 3 (HeadF (.slice a zs.length cap) n bad) ∧ n ≤ 8 * zs.length ∧ st = if bad then none else some ((unpack zs).drop n)
def GetR (k : Nat) (st st' : Option (List Bool)) (v : Int) : Prop :=
  match st with
  | none => st' = none
  | some l => match get k l with
    | some (u, r) => v = u ∧ st' = some r
    | none => v = 0 ∧ st' = none
theorem readB_yes {zs : List Int} {n k : Nat} (h : n + k ≤ 8 * zs.length) (hk : k ≤ 64) : readB zs (8 * zs.length : Int) n k = true := by
  unfold readB wholeB widthB
  have e1 : ((8 * zs.length : Int) + 7) / 8 = zs.length := by omega
  have e2 : (8 * zs.length : Int) % 8 = 0 := by omega
  rw [e1]
  simp [e2]
  omega
set_option maxHeartbeats 2000000 in
theorem r_hget (p : Nat) (a : Option Addr) (zs : List Int) (cap k : Nat) (st : Option (List Bool)) (w : World) (h : HeadAt w p a zs cap st) (hr : Rd w a zs) (hz : (zs.length : Int) ≤ 140737488351232) (hk : k ≤ 64) :
    Calls Tryd.prog 31 #[.pointer (some ⟨p, 0, none⟩), .int .i64 k] w fun e w' => ∃ v st', e = .returned (.int .u64 v) ∧ 0 ≤ v ∧ v < 2 ^ k ∧ HeadAt w' p a zs cap st' ∧ GetR k st st' v ∧ w.grownBy w' (some p) := by
  obtain ⟨n, bad, hrow, hn, hst⟩ := h
  have HST : Hid (st = if bad then none else some ((unpack zs).drop n)) := hst
  clear hst
  have c0 : w.cell? ⟨p, 0, none⟩ = some (.slice a zs.length cap) := hrow.cell (i := 0) (by omega)
  have c1 : w.cell? ⟨p, 1, none⟩ = some (.int .i64 n) := hrow.cell (i := 1) (by omega)
  have c2 : w.cell? ⟨p, 2, none⟩ = some (.bool bad) := hrow.cell (i := 2) (by omega)
  have f1 := hrow.frozen 1
  have f2 := hrow.frozen 2
  have HROW : Hid (w.rowIs p 56 3 (HeadF (.slice a zs.length cap) n bad)) := hrow
  have hp2 : (0 : Int) < 2 ^ k := Int.pow_pos (by decide)
  have HPW : Hid ((0 : Int) < 2 ^ k) := hp2
  clear hrow hp2
  by_cases hfit : n + k ≤ 8 * zs.length
  · have hy := readB_yes hfit hk
    have HRd : Hid (∀ d, Calls Tryd.prog 42 #[.slice a zs.length cap, .int .i64 (8 * zs.length : Int), .int .i64 n, .int .i64 k] (w.drewN d) fun e w' => e = .returned (.tuple #[.int .u64 (rdv zs n k), .bool true]) ∧ w.drewN d = w') := fun d => rread_yes a zs cap _ n k (w.drewN d) hr (by omega) hz hy
    have HRd2 : Hid (∀ d d', Calls Tryd.prog 42 #[.slice a zs.length cap, .int .i64 (8 * zs.length : Int), .int .i64 n, .int .i64 k] ((w.drewN d).drewN d') fun e w' => e = .returned (.tuple #[.int .u64 (rdv zs n k), .bool true]) ∧ w' = (w.drewN d).drewN d') := fun d d' => (rread_yes a zs cap _ n k ((w.drewN d).drewN d') hr (by omega) hz hy).mono (fun _ _ h => ⟨h.1, h.2.symm⟩)
    have HB : Hid (0 ≤ rdv zs n k ∧ rdv zs n k < 2 ^ k) := rdv_bound zs n k
    have HGt : Hid (get k ((unpack zs).drop n) = some (rdv zs n k, (unpack zs).drop (n + k))) := get_rdv zs n k hfit
    generalize rdv zs n k = v at HRd HRd2 HB HGt
    have q1 : decide ((8 : Int) * (zs.length : Int) < (n : Int) + (k : Int)) = false := by simp; omega
    obtain ⟨L, eL⟩ : ∃ L, L = zs.length := ⟨_, rfl⟩
    have EL : Hid (L = zs.length) := eL
    rw [← eL] at HRd HRd2 c0 q1 hfit hz
    have hwr : IntKind.i64.wrap (8 * (L : Int)) = 8 * (L : Int) := wrap_id _ (by omega)
    have HRd3 : Hid (∀ d d', Calls Tryd.prog 42 #[.slice a L cap, .int .i64 (IntKind.i64.wrap (8 * (L : Int))), .int .i64 n, .int .i64 k] ((w.drewN d).drewN d') fun e w' => e = .returned (.tuple #[.int .u64 v, .bool true]) ∧ w' = (w.drewN d).drewN d') := fun d d' => by rw [hwr]; exact HRd2.out d d'
    clear hr hy hn eL hwr
    go_enter Tryd.func31, Tryd.ntmps31
    go_wp2_with fail
    go_quiet (fail)
    go_wp2_with fail
    obtain ⟨w0, hw0⟩ : ∃ w0, w0 = w.drewN nq := ⟨_, rfl⟩
    rw [← hw0]
    have HRw : Hid (∀ d, Calls Tryd.prog 42 #[.slice a L cap, .int .i64 (8 * (L : Int)), .int .i64 n, .int .i64 k] (w0.drewN d) fun e w' => e = .returned (.tuple #[.int .u64 v, .bool true]) ∧ w' = w0.drewN d) := fun d => by rw [hw0]; exact HRd2.out nq d
    have d0 : w0.cell? ⟨p, 0, none⟩ = some (.slice a L cap) := by rw [hw0]; exact c0
    have d1 : w0.cell? ⟨p, 1, none⟩ = some (.int .i64 n) := by rw [hw0]; exact c1
    have g1 : w0.frozen? ⟨p, 1, none⟩ = false := by rw [hw0]; exact f1
    have HR0 : Hid (w0.rowIs p 56 3 (HeadF (.slice a zs.length cap) n bad)) := by rw [hw0]; exact HROW.out
    have HG0 : Hid (w.grownBy w0 (some p)) := by rw [hw0]; exact gb_any (gb_drewN w nq) _
    clear hw0 c0 c1 c2 f1 f2 HRd HRd2 HRd3 HROW
    go_quiet (exact Calls.quiet_of_same (HRw.out _))
    go_wp2
    go_ret
    have hrow' : ((w0.drewN nq).setCell ⟨p, 1, none⟩ (.int .i64 ((n : Int) + (k : Int)))).rowIs p 56 3 (HeadF (.slice a zs.length cap) (n + k) bad) := by
      have hr0 : (w0.drewN nq).rowIs p 56 3 (HeadF (.slice a zs.length cap) n bad) := HR0.out
      refine (hr0.set 1 _).congr fun i hi => ?_
      unfold HeadF
      match i, hi with
      | 0, _ => rfl
      | 1, _ => rfl
      | 2, _ => rfl
    refine ⟨v, if bad then none else some ((unpack zs).drop (n + k)), rfl, HB.out.1, HB.out.2, ⟨n + k, bad, hrow', by have := EL.out; omega, rfl⟩, ?_, ?_⟩
    · rw [HST.out]
      cases bad with
      | true => rfl
      | false =>
        show GetR k (some _) (some _) v
        unfold GetR
        simp only [HGt.out]
        exact ⟨trivial, trivial⟩
    · exact gb_trans (gb_drewR HG0.out nq) (gb_set (g := p) rfl) (fun k hk => .inr hk)
  · have q1 : decide ((8 : Int) * (zs.length : Int) < (n : Int) + (k : Int)) = true := by simp; omega
    have HGt : Hid (get k ((unpack zs).drop n) = none) := get_short zs n k (by omega) (by omega)
    obtain ⟨L, eL⟩ : ∃ L, L = zs.length := ⟨_, rfl⟩
    have EL : Hid (L = zs.length) := eL
    have hn' : n ≤ 8 * L := by omega
    rw [← eL] at c0 q1 hz
    clear hr hn eL hfit
    go_enter Tryd.func31, Tryd.ntmps31
    go_wp2_with fail
    go_quiet (fail)
    go_wp2
    go_ret
    have hrow' : ((w.drewN nq).setCell ⟨p, 2, none⟩ (.bool true)).rowIs p 56 3 (HeadF (.slice a zs.length cap) n true) := by
      have hr0 : (w.drewN nq).rowIs p 56 3 (HeadF (.slice a zs.length cap) n bad) := HROW.out
      refine (hr0.set 2 _).congr fun i hi => ?_
      unfold HeadF
      match i, hi with
      | 0, _ => rfl
      | 1, _ => rfl
      | 2, _ => rfl
    refine ⟨0, none, rfl, Int.le_refl _, HPW.out, ⟨n, true, hrow', by have := EL.out; omega, rfl⟩, ?_, ?_⟩
    · rw [HST.out]
      cases bad with
      | true => rfl
      | false => show GetR k (some _) none 0; unfold GetR; simp only [HGt.out]; exact ⟨trivial, trivial⟩
    · exact gb_trans (gb_any (gb_drewN w nq) (some p)) (gb_set (g := p) rfl) (fun k hk => .inr hk)
end Go.Proofs.YteahhkpbjkcmhaaDoor
