/- Package chunk: points in order. -/
import Derived.Test.YtiokmigpklhimaaDoorRpts
namespace Go.Proofs.YtiokmigpklhimaaDoor
open Go.RowKit
set_option linter.unusedVariables false

def inO : Int → List Pt → Bool
  | _, [] => true
  | m, q :: r => (decide (m ≤ q.1) && decide (q.1 ≤ 1099511627776)) && inO (q.1 + 1) r
theorem inO_ts : ∀ (ps : List Pt) (t : Int), -1099511627776 ≤ t + 1 → inO (t + 1) ps = okTs t ps
  | [], _, _ => rfl
  | q :: r, t, ht => by
    unfold inO okTs
    by_cases h1 : t < q.1
    · rw [inO_ts r q.1 (by omega)]
      have e1 : decide (t + 1 ≤ q.1) = true := by simp; omega
      have e2 : decide (t < q.1) = true := by simp; omega
      have e3 : decide (-1099511627776 ≤ q.1) = true := by simp; omega
      rw [e1, e2, e3]
      simp
    · have e1 : decide (t + 1 ≤ q.1) = false := by simp; omega
      have e2 : decide (t < q.1) = false := by simp; omega
      rw [e1, e2]
      simp
theorem inO_ok (ps : List Pt) : inO (-1099511627776) ps = okTimes ps := by
  cases ps with
  | nil => rfl
  | cons q r =>
    unfold inO okTimes
    by_cases h1 : -1099511627776 ≤ q.1
    · rw [inO_ts r q.1 (by omega)]
    · show _ = ((decide (-1099511627776 ≤ q.1) && decide (q.1 ≤ 1099511627776)) && okTs q.1 r)
      rw [decide_eq_false h1, Bool.false_and, Bool.false_and, Bool.false_and]
set_option maxHeartbeats 2000000 in
theorem d_inOrder (a : Option Addr) (ps : List Pnt) (L c : Nat) (w : World) (hx : SRd pntE w a ps) (hL : ps.length = L) (hz : L ≤ 8796093022208) :
    Calls Tryd.prog 29 #[.slice a L c] w fun e w' => e = .returned (.bool (okTimes ps)) ∧ w.grownBy w' none := by
  have HX : Hid (SRd pntE w a ps) := hx
  have HL : Hid (ps.length = L) := hL
  have HO : Hid (inO (-1099511627776) ps = okTimes ps) := inO_ok ps
  clear hx hL
  go_enter Tryd.func29, Tryd.ntmps29
  go_wp2
  go_loopw [3, 8] (fun t3 t8 wr => ∃ (k : Nat) (m : Int), k ≤ L ∧ t3 = .int .i64 m ∧ t8 = .int .i64 k ∧ (-1099511627776 ≤ m ∧ m ≤ 1099511627777) ∧ inO m (ps.drop k) = okTimes ps ∧ w.grownBy wr none) (fun _ t8 _ => L - (intOf t8).toNat)
  case atStart => exact ⟨0, _, Nat.zero_le _, rfl, rfl, by omega, HO.out, World.grownBy.refl w none⟩
  case round =>
    obtain ⟨k, m, hk, rfl, rfl, hm, hin, hg⟩ := hrel
    have HG : Hid (w.grownBy wr none) := hg
    clear HO
    by_cases hlt : k < L
    · have hki : (k : Int) < (L : Int) := by omega
      have hl := HL.out
      obtain ⟨ba, off, rfl, hcc⟩ := (HX.out.grown HG.out (by simp)).at (by omega)
      obtain ⟨⟨t, v⟩, ex⟩ : ∃ x, ps[k]? = some x := ⟨_, List.getElem?_eq_getElem (by omega)⟩
      have a0 : wr.cell? ⟨ba, off + k * 2, none⟩ = some (.int .i64 t) := hcc k _ 0 _ ex rfl
      have a1 : wr.cell? ⟨ba, off + k * 2 + 1, none⟩ = some (.int .u64 v) := by rw [Nat.add_assoc]; exact hcc k _ 1 _ ex rfl
      obtain ⟨h1, h2⟩ := List.getElem?_eq_some_iff.1 ex
      rw [List.drop_eq_getElem_cons h1, h2] at hin
      unfold inO at hin
      simp only at hin
      have HIN : Hid (((decide (m ≤ t) && decide (t ≤ 1099511627776)) && inO (t + 1) (ps.drop (k + 1))) = okTimes ps) := hin
      have HGA : Hid (∀ o, w.grownBy (wr.alloc o) none) := fun o => gb_trans HG.out (World.grownBy_alloc wr o none) (by simp)
      clear hcc ex h1 h2 hin hl hg
      by_cases c1 : m ≤ t
      · by_cases c2 : t ≤ 1099511627776
        · have q1 : decide (t < m) = false := by simp; omega
          have q2 : decide (1099511627776 < t) = false := by simp; omega
          have HN : Hid (inO (t + 1) (ps.drop (k + 1)) = okTimes ps) := by
            have h := HIN.out
            rw [decide_eq_true c1, decide_eq_true c2, Bool.true_and, Bool.true_and] at h
            exact h
          go_wp2
          go_roundw
          case rel => exact ⟨k + 1, t + 1, by omega, by go_num, by go_num, by omega, HN.out, HGA.out _⟩
          case measure => simp [intOf]; omega
        · have q1 : decide (t < m) = false := by simp; omega
          have q2 : decide (1099511627776 < t) = true := by simp; omega
          have HN : Hid (false = okTimes ps) := by
            have h := HIN.out
            rw [decide_eq_false c2, Bool.and_false, Bool.false_and] at h
            exact h
          go_wp2
          go_ret
          exact ⟨ret_bool HN.out, HGA.out _⟩
      · have q1 : decide (t < m) = true := by simp; omega
        have HN : Hid (false = okTimes ps) := by
          have h := HIN.out
          rw [decide_eq_false c1, Bool.false_and, Bool.false_and] at h
          exact h
        go_wp2
        go_ret
        exact ⟨ret_bool HN.out, HGA.out _⟩
    · obtain rfl : k = L := by omega
      have HN : Hid (true = okTimes ps) := by
        rw [List.drop_eq_nil_of_le (by have := HL.out; omega)] at hin
        exact hin
      clear hin
      go_wp2
      go_ret
      exact ⟨ret_bool HN.out, HG.out⟩
end Go.Proofs.YtiokmigpklhimaaDoor
