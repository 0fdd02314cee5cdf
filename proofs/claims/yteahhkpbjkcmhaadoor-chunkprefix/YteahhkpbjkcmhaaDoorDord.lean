/- Package points: points in order. -/
import Derived.Test.YteahhkpbjkcmhaaDoorRpts
import Derived.BigQuiet
namespace Go.Proofs.YteahhkpbjkcmhaaDoor
open Go.RowKit
set_option linter.unusedVariables false

def riseT : Int → List Pt → Bool
  | _, [] => true
  | t, q :: r => decide (t < q.1) && riseT q.1 r
def riseL : List Pt → Bool
  | [] => true
  | q :: r => riseT q.1 r
def lastT : Int → List Pt → Int
  | t, [] => t
  | _, q :: r => lastT q.1 r
theorem riseT_iff : ∀ (r : List Pt) (t : Int), riseT t r = true ↔ (∀ q, r[0]? = some q → t < q.1) ∧ ∀ (j : Nat) (p q : Pt), r[j]? = some p → r[j + 1]? = some q → p.1 < q.1
  | [], t => by simp [riseT]
  | q :: r, t => by
    rw [riseT, Bool.and_eq_true, decide_eq_true_eq, riseT_iff r q.1]
    constructor
    · rintro ⟨h1, h2, h3⟩
      refine ⟨fun x hx => by simp at hx; subst hx; exact h1, fun j a b ha hb => ?_⟩
      cases j with
      | zero => simp at ha; subst ha; exact h2 b (by simpa using hb)
      | succ j => exact h3 j a b (by simpa using ha) (by simpa using hb)
    · rintro ⟨h1, h2⟩
      exact ⟨h1 q rfl, fun x hx => h2 0 q x rfl (by simpa using hx), fun j a b ha hb => h2 (j + 1) a b (by simpa using ha) (by simpa using hb)⟩
theorem riseL_iff (ps : List Pt) : riseL ps = true ↔ ∀ (j : Nat) (p q : Pt), ps[j]? = some p → ps[j + 1]? = some q → p.1 < q.1 := by
  cases ps with
  | nil => simp [riseL]
  | cons q r =>
    rw [riseL, riseT_iff]
    constructor
    · rintro ⟨h2, h3⟩ j a b ha hb
      cases j with
      | zero => simp at ha; subst ha; exact h2 b (by simpa using hb)
      | succ j => exact h3 j a b (by simpa using ha) (by simpa using hb)
    · intro h2
      exact ⟨fun x hx => h2 0 q x rfl (by simpa using hx), fun j a b ha hb => h2 (j + 1) a b (by simpa using ha) (by simpa using hb)⟩
theorem okTs_last : ∀ (r : List Pt) (t : Int), -1099511627776 ≤ t → (decide (t ≤ 1099511627776) && okTs t r) = (decide (lastT t r ≤ 1099511627776) && riseT t r)
  | [], t, _ => rfl
  | q :: r, t, ht => by
    by_cases h1 : t < q.1
    · have ih := okTs_last r q.1 (by omega)
      show (decide (t ≤ 1099511627776) && (decide (t < q.1) && (decide (-1099511627776 ≤ q.1) && decide (q.1 ≤ 1099511627776)) && okTs q.1 r)) = (decide (lastT q.1 r ≤ 1099511627776) && (decide (t < q.1) && riseT q.1 r))
      rw [decide_eq_true h1, decide_eq_true (show -1099511627776 ≤ q.1 by omega), Bool.true_and, Bool.true_and, Bool.true_and, ← ih]
      by_cases h2 : q.1 ≤ 1099511627776
      · rw [decide_eq_true h2, decide_eq_true (show t ≤ 1099511627776 by omega), Bool.true_and]
      · rw [decide_eq_false h2, Bool.false_and, Bool.and_false]
    · show (decide (t ≤ 1099511627776) && (decide (t < q.1) && (decide (-1099511627776 ≤ q.1) && decide (q.1 ≤ 1099511627776)) && okTs q.1 r)) = (decide (lastT q.1 r ≤ 1099511627776) && (decide (t < q.1) && riseT q.1 r))
      rw [decide_eq_false h1]
      simp
set_option maxHeartbeats 2000000 in
theorem d_rising (a : Option Addr) (ps : List Pnt) (L c : Nat) (w : World) (hx : SRd pntE w a ps) (hL : ps.length = L) (hz : L ≤ 8796093022208) :
    Calls Tryd.prog 34 #[.slice a L c] w fun e w' => e = .returned (.bool (riseL ps)) ∧ w.grownBy w' none := by
  have HX : Hid (SRd pntE w a ps) := hx
  have HL : Hid (ps.length = L) := hL
  have HR : Hid (riseL ps = true ↔ ∀ (j : Nat) (p q : Pt), ps[j]? = some p → ps[j + 1]? = some q → p.1 < q.1) := riseL_iff ps
  generalize riseL ps = R at HR ⊢
  clear hx hL
  go_enter Tryd.func34, Tryd.ntmps34
  go_wp2
  go_loopw [6] (fun t6 wr => ∃ (k : Nat), k ≤ L ∧ t6 = .int .i64 k ∧ (∀ (j : Nat) (p q : Pt), j + 1 < k → ps[j]? = some p → ps[j + 1]? = some q → p.1 < q.1) ∧ ∃ n, wr = w.drewN n) (fun t6 _ => L - (intOf t6).toNat)
  case atStart => exact ⟨0, Nat.zero_le _, rfl, fun j p q h => by omega, 0, rfl⟩
  case round =>
    obtain ⟨k, hk, rfl, hall, hw⟩ := hrel
    have HA : Hid (∀ (j : Nat) (p q : Pt), j + 1 < k → ps[j]? = some p → ps[j + 1]? = some q → p.1 < q.1) := hall
    have HW : Hid (∃ n, wr = w.drewN n) := hw
    have HG : Hid (w.grownBy wr none) := by obtain ⟨n, e⟩ := hw; rw [e]; exact gb_drewN w n
    clear hall hw
    by_cases hlt : k < L
    · have hki : (k : Int) < (L : Int) := by omega
      have hl := HL.out
      obtain ⟨ba, off, rfl, hcc⟩ := (HX.out.grown HG.out (by simp)).at (by omega)
      obtain ⟨⟨t, v⟩, ex⟩ : ∃ x, ps[k]? = some x := ⟨_, List.getElem?_eq_getElem (by omega)⟩
      have a0 : wr.cell? ⟨ba, off + k * 2, none⟩ = some (.int .i64 t) := hcc k _ 0 _ ex rfl
      have EX : Hid (ps[k]? = some (t, v)) := ex
      cases k with
      | zero =>
        rw [Nat.zero_mul, Nat.add_zero] at a0
        have hz0 : decide ((0 : Int) < ((0 : Nat) : Int)) = false := by simp
        clear hcc ex hl
        go_wp2_with fail
        go_quiet (fail)
        go_wp2
        go_roundw
        case rel =>
          refine ⟨1, by omega, by go_num, fun j p q h => by omega, ?_⟩
          obtain ⟨n, e⟩ := HW.out
          exact ⟨_, by rw [e, drewN_drewN]⟩
        case measure => simp [intOf]; omega
      | succ i =>
        obtain ⟨⟨s, u⟩, ey⟩ : ∃ x, ps[i]? = some x := ⟨_, List.getElem?_eq_getElem (by omega)⟩
        have b0 : wr.cell? ⟨ba, off + i * 2, none⟩ = some (.int .i64 s) := hcc i _ 0 _ ey rfl
        have EY : Hid (ps[i]? = some (s, u)) := ey
        have hj1 : decide ((0 : Int) < ((i + 1 : Nat) : Int)) = true := by simp
        clear hcc ex ey hl
        by_cases hst : s < t
        · have hd : decide (t ≤ s) = false := by simp; omega
          have HST : Hid (s < t) := hst
          clear hst
          go_wp2_with fail
          go_quiet (fail)
          go_wp2
          go_roundw
          case rel =>
            refine ⟨i + 2, by omega, by go_num, fun j p q h hp hq => ?_, ?_⟩
            · by_cases e : j + 1 < i + 1
              · exact HA.out j p q e hp hq
              · obtain rfl : j = i := by omega
                rw [EY.out] at hp
                rw [EX.out] at hq
                cases hp; cases hq
                exact HST.out
            · obtain ⟨n, e⟩ := HW.out
              exact ⟨_, by rw [e, drewN_drewN]⟩
          case measure => simp [intOf]; omega
        · have hd : decide (t ≤ s) = true := by simp; omega
          have HN : Hid (false = R) := by
            cases R with
            | false => rfl
            | true => exact absurd (HR.out.1 rfl i _ _ EY.out EX.out) hst
          clear hst
          go_wp2_with fail
          go_quiet (fail)
          go_wp2
          go_ret
          exact ⟨ret_bool HN.out, HG.out.trans (gb_drewN wr _)⟩
    · obtain rfl : k = L := by omega
      have HN : Hid (true = R) := (HR.out.2 (fun j p q hp hq => HA.out j p q (by have := (List.getElem?_eq_some_iff.1 hq).1; have := HL.out; omega) hp hq)).symm
      go_wp2
      go_ret
      exact ⟨ret_bool HN.out, HG.out⟩
theorem lastT_at : ∀ (r : List Pt) (q : Pt), ((q :: r)[r.length]?).map (·.1) = some (lastT q.1 r)
  | [], q => rfl
  | x :: r, q => by
    have := lastT_at r x
    simpa [lastT] using this
theorem okTimes_eq (q : Pt) (r : List Pt) : okTimes (q :: r) = (decide (-1099511627776 ≤ q.1) && decide (lastT q.1 r ≤ 1099511627776) && riseL (q :: r)) := by
  show ((decide (-1099511627776 ≤ q.1) && decide (q.1 ≤ 1099511627776)) && okTs q.1 r) = _
  by_cases h1 : -1099511627776 ≤ q.1
  · rw [decide_eq_true h1, Bool.true_and, Bool.true_and, okTs_last r q.1 h1]
    rfl
  · rw [decide_eq_false h1]
    simp
set_option maxHeartbeats 2000000 in
theorem d_inOrder (a : Option Addr) (ps : List Pnt) (L c : Nat) (w : World) (hx : SRd pntE w a ps) (hL : ps.length = L) (hz : L ≤ 8796093022208) :
    Calls Tryd.prog 29 #[.slice a L c] w fun e w' => e = .returned (.bool (okTimes ps)) ∧ w.grownBy w' none := by
  have HRS := d_rising a ps L c w hx hL hz
  cases ps with
  | nil =>
    simp at hL
    subst hL
    rw [show okTimes ([] : List Pnt) = true from rfl]
    clear HRS hx
    go_enter Tryd.func29, Tryd.ntmps29
    go_wp2
    go_ret
    exact ⟨rfl, World.grownBy.refl _ _⟩
  | cons q r =>
    obtain ⟨ba, off, rfl, hcc⟩ := hx.at (by simp)
    have a0 : w.cell? ⟨ba, off, none⟩ = some (.int .i64 q.1) := by have := hcc 0 q 0 _ rfl rfl; simpa using this
    have hlast := lastT_at r q
    obtain ⟨⟨t, v⟩, ex⟩ : ∃ x, (q :: r)[r.length]? = some x := ⟨_, List.getElem?_eq_getElem (by simp)⟩
    rw [ex] at hlast
    simp only [Option.map_some, Option.some.injEq] at hlast
    have a1 : w.cell? ⟨ba, off + r.length * 2, none⟩ = some (.int .i64 t) := hcc r.length _ 0 _ ex rfl
    have HEQ : Hid (okTimes (q :: r) = (decide (-1099511627776 ≤ q.1) && decide (t ≤ 1099511627776) && riseL (q :: r))) := by
      show _ = _
      rw [okTimes_eq, hlast]
    have hL' : L = r.length + 1 := by rw [← hL]; rfl
    subst hL'
    generalize okTimes (q :: r) = R at HEQ ⊢
    generalize riseL (q :: r) = B at HRS HEQ
    generalize q.1 = s at a0 HEQ
    generalize r.length = n at a1 HRS hz ⊢
    clear hcc ex hlast hx hL
    by_cases h1 : -1099511627776 ≤ s
    · by_cases h2 : t ≤ 1099511627776
      · have HN : Hid (B = R) := by
          have h := HEQ.out
          rw [decide_eq_true h1, decide_eq_true h2, Bool.true_and, Bool.true_and] at h
          exact h.symm
        go_enter Tryd.func29, Tryd.ntmps29
        go_wp2_with fail
        refine HRS.mono ?_
        rintro e w1 ⟨rfl, hg⟩
        have HG : Hid (w.grownBy w1 none) := hg
        clear hg
        go_wp2
        go_ret
        exact ⟨ret_bool HN.out, HG.out⟩
      · have HN : Hid (false = R) := by
          have h := HEQ.out
          rw [decide_eq_false h2] at h
          show false = R
          simpa using h.symm
        go_enter Tryd.func29, Tryd.ntmps29
        go_wp2
        go_ret
        exact ⟨ret_bool HN.out, World.grownBy.refl _ _⟩
    · have HN : Hid (false = R) := by
        have h := HEQ.out
        rw [decide_eq_false h1] at h
        show false = R
        simpa using h.symm
      go_enter Tryd.func29, Tryd.ntmps29
      go_wp2
      go_ret
      exact ⟨ret_bool HN.out, World.grownBy.refl _ _⟩
end Go.Proofs.YteahhkpbjkcmhaaDoor
