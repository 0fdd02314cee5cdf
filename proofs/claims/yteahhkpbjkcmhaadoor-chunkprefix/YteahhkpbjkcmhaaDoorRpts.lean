/- The document's own Points. -/
import Derived.Test.YteahhkpbjkcmhaaDoorPnts
import Derived.Test.YteahhkpbjkcmhaaDoorMh
import Derived.Deep.QuietTactic
import Derived.BigQuiet
namespace Go.Proofs.YteahhkpbjkcmhaaDoor
open Go.RowKit
set_option linter.unusedVariables false

def prevT (ps : List Pt) (k : Nat) : Option Int := if k = 0 then none else (ps[k - 1]?).map (·.1)
def okFrom : Option Int → List Pt → Bool
  | _, [] => true
  | none, q :: r => (decide (-1099511627776 ≤ q.1) && decide (q.1 ≤ 1099511627776)) && okFrom (some q.1) r
  | some t, q :: r => decide (t < q.1) && (decide (-1099511627776 ≤ q.1) && decide (q.1 ≤ 1099511627776)) && okFrom (some q.1) r
theorem okFrom_some : ∀ (ps : List Pt) (t : Int), okFrom (some t) ps = okTs t ps
  | [], t => rfl
  | q :: r, t => by rw [okFrom, okTs, okFrom_some r q.1]
theorem okFrom_none (ps : List Pt) : okFrom none ps = okTimes ps := by
  cases ps with
  | nil => rfl
  | cons q r => rw [okFrom, okTimes, okFrom_some]
def PtsAt (ps : List Pt) (k : Nat) (R : Bool) : Prop := okFrom (prevT ps k) (ps.drop k) = R
theorem PtsAt.next {ps : List Pt} {k : Nat} {R : Bool} {q : Pt} (h : PtsAt ps k R) (hq : ps[k]? = some q) :
    ((match prevT ps k with | none => true | some t => decide (t < q.1)) && (decide (-1099511627776 ≤ q.1) && decide (q.1 ≤ 1099511627776)) && okFrom (prevT ps (k + 1)) (ps.drop (k + 1))) = R := by
  unfold PtsAt at h
  obtain ⟨h1, h2⟩ := List.getElem?_eq_some_iff.1 hq
  have hp : prevT ps (k + 1) = some q.1 := by unfold prevT; rw [if_neg (by omega), Nat.add_sub_cancel, hq]; rfl
  rw [List.drop_eq_getElem_cons h1, h2] at h
  rw [hp]
  cases e : prevT ps k with
  | none => rw [e, okFrom] at h; simpa using h
  | some t => rw [e, okFrom] at h; exact h
set_option maxHeartbeats 2000000 in
theorem r_points (a : Option Addr) (ps : List Pnt) (L c : Nat) (R : Bool) (w : World) (hx : SRd pntE w a ps) (hL : ps.length = L) (hz : L ≤ 8796093022208) (hR : okTimes ps = R) :
    Calls Tryd.prog 25 #[.slice a L c] w fun e w' => e = .returned (.bool R) ∧ ∃ n, w' = w.drewN n := by
  have HX : Hid (SRd pntE w a ps) := hx
  have HL : Hid (ps.length = L) := hL
  have H0 : Hid (PtsAt ps 0 R) := by show okFrom none _ = _; rw [List.drop_zero, okFrom_none]; exact hR
  clear hx hL hR
  go_enter Tryd.func25, Tryd.ntmps25
  go_wp2
  go_loopw [3] (fun i wr => ∃ k : Nat, k ≤ L ∧ i = .int .i64 k ∧ (∃ n, wr = w.drewN n) ∧ PtsAt ps k R) (fun i _ => L - (intOf i).toNat)
  case atStart => exact ⟨0, Nat.zero_le _, rfl, ⟨0, rfl⟩, H0.out⟩
  case round =>
    obtain ⟨k, hk, rfl, ⟨nd, rfl⟩, hc⟩ := hrel
    have HC : Hid (PtsAt ps k R) := hc
    clear hc H0
    by_cases hlt : k < L
    · have hl := HL.out
      obtain ⟨b, off, rfl, hcc⟩ := HX.out.at (by omega)
      obtain ⟨⟨t, v⟩, ex⟩ : ∃ x, ps[k]? = some x := ⟨_, List.getElem?_eq_getElem (by omega)⟩
      have a0 : w.cell? ⟨b, off + k * 2, none⟩ = some (.int .i64 t) := hcc k _ 0 _ ex rfl
      have HN := HC.out.next ex
      have hki : (k : Int) < (L : Int) := by omega
      have HNx : Hid (((match prevT ps k with | none => true | some t' => decide (t' < t)) && (decide (-1099511627776 ≤ t) && decide (t ≤ 1099511627776)) && okFrom (prevT ps (k + 1)) (ps.drop (k + 1))) = R) := HN
      clear HN
      by_cases g1 : t < -1099511627776
      · have q1 : decide (t < -1099511627776) = true := by simpa using g1
        have HS : Hid (false = R) := by
          have h := HNx.out
          have e : decide (-1099511627776 ≤ t) = false := by simp; omega
          rw [e, Bool.false_and, Bool.and_false, Bool.false_and] at h
          exact h
        clear HNx hcc ex hl g1
        go_wp2
        go_quiet (fail)
        go_wp2
        go_ret
        exact ⟨ret_bool HS.out, _, by rw [World.drewN_drewN]⟩
      · have q1 : decide (t < -1099511627776) = false := by simpa using g1
        by_cases g2 : 1099511627776 < t
        · have q2 : decide (1099511627776 < t) = true := by simpa using g2
          have HS : Hid (false = R) := by
            have h := HNx.out
            have e : decide (t ≤ 1099511627776) = false := by simp; omega
            rw [e, Bool.and_false, Bool.and_false, Bool.false_and] at h
            exact h
          clear HNx hcc ex hl g1 g2
          go_wp2
          go_quiet (fail)
          go_wp2
          go_ret
          exact ⟨ret_bool HS.out, _, by rw [World.drewN_drewN]⟩
        · have q2 : decide (1099511627776 < t) = false := by simpa using g2
          have er : (decide (-1099511627776 ≤ t) && decide (t ≤ 1099511627776)) = true := by simp; omega
          have HNy : Hid (((match prevT ps k with | none => true | some t' => decide (t' < t)) && okFrom (prevT ps (k + 1)) (ps.drop (k + 1))) = R) := by
            have h := HNx.out
            rw [er, Bool.and_true] at h
            exact h
          clear HNx er g1 g2
          by_cases hk0 : k = 0
          · subst hk0
            have HS : Hid (PtsAt ps (0 + 1) R) := by
              have h := HNy.out
              rw [show prevT ps 0 = none from rfl, Bool.true_and] at h
              exact h
            have a00 : w.cell? ⟨b, off, none⟩ = some (.int .i64 t) := by simpa using a0
            clear HNy hcc ex hl a0
            go_wp2
            go_quiet (fail)
            go_wp2
            go_roundw
            case rel => exact ⟨0 + 1, by omega, by go_num, ⟨_, rfl⟩, HS.out⟩
            case measure => simp [intOf]; omega
          · obtain ⟨k', rfl⟩ : ∃ k', k = k' + 1 := ⟨k - 1, by omega⟩
            obtain ⟨⟨t', v'⟩, ex'⟩ : ∃ x, ps[k']? = some x := ⟨_, List.getElem?_eq_getElem (by omega)⟩
            have a1 : w.cell? ⟨b, off + k' * 2, none⟩ = some (.int .i64 t') := hcc k' _ 0 _ ex' rfl
            have hpv : prevT ps (k' + 1) = some t' := by unfold prevT; rw [if_neg (by omega), Nat.add_sub_cancel, ex']; rfl
            have HNz : Hid ((decide (t' < t) && okFrom (prevT ps (k' + 1 + 1)) (ps.drop (k' + 1 + 1))) = R) := by
              have h := HNy.out
              rw [hpv] at h
              exact h
            have hkp : decide ((0 : Int) < ((k' + 1 : Nat) : Int)) = true := by simp
            clear HNy hcc ex ex' hl hk0 hpv
            by_cases g3 : t ≤ t'
            · have q3 : decide (t ≤ t') = true := by simpa using g3
              have HS : Hid (false = R) := by
                have h := HNz.out
                have e : decide (t' < t) = false := by simp; omega
                rw [e, Bool.false_and] at h
                exact h
              clear HNz g3
              go_wp2
              go_quiet (fail)
              go_wp2
              go_ret
              exact ⟨ret_bool HS.out, _, by rw [World.drewN_drewN]⟩
            · have q3 : decide (t ≤ t') = false := by simpa using g3
              have HS : Hid (PtsAt ps (k' + 1 + 1) R) := by
                have h := HNz.out
                have e : decide (t' < t) = true := by simp; omega
                rw [e, Bool.true_and] at h
                exact h
              clear HNz g3
              go_wp2
              go_quiet (fail)
              go_wp2
              go_roundw
              case rel => exact ⟨k' + 1 + 1, by omega, by go_num, ⟨_, rfl⟩, HS.out⟩
              case measure => simp [intOf]; omega
    · have HS : Hid (true = R) := by
        have h := HC.out
        unfold PtsAt at h
        rw [List.drop_eq_nil_of_le (by have := HL.out; omega)] at h
        cases e : prevT ps k <;> rw [e] at h <;> exact h
      have hki : ¬ (k : Int) < (L : Int) := by omega
      go_wp2
      go_ret
      exact ⟨ret_bool HS.out, _, rfl⟩
end Go.Proofs.YteahhkpbjkcmhaaDoor
