/- The document's own signed and zero. -/
import Derived.Test.YteahhkpbjkcmhaaDoorRhead
import Derived.Test.YteahhkpbjkcmhaaDoorRstep
namespace Go.Proofs.YteahhkpbjkcmhaaDoor
open Go.RowKit
set_option linter.unusedVariables false

theorem HeadAt.kept {w w' : World} {row : Option Nat} {p : Nat} {a : Option Addr} {zs : List Int} {cap : Nat} {st : Option (List Bool)} (h : HeadAt w p a zs cap st) (hg : w.grownBy w' row) (hne : some p ≠ row) : HeadAt w' p a zs cap st := by
  obtain ⟨n, bad, hrow, hn, hst⟩ := h
  exact ⟨n, bad, hrow.of_block (hg.block p hrow.lt hne), hn, hst⟩
/-- A number in two's complement. -/
def GetSR (k : Nat) (st st' : Option (List Bool)) (z : Int) : Prop :=
  match st with
  | none => st' = none
  | some l => match getS k l with
    | some (u, r) => z = u ∧ st' = some r
    | none => st' = none
theorem sgn_shift (v : Int) (k : Nat) (h : 0 ≤ v ∧ v < 2 ^ k) (hk : 0 < k ∧ k ≤ 64) : IntKind.i64.wrap (v * 2 ^ (64 - k) % 18446744073709551616) / 2 ^ (64 - k) = sgn k v := by
  obtain ⟨S, eS⟩ : ∃ S : Int, S = 2 ^ (64 - k) := ⟨_, rfl⟩
  obtain ⟨Q, eQ⟩ : ∃ Q : Int, Q = 2 ^ (k - 1) := ⟨_, rfl⟩
  have hS : 0 < S := by rw [eS]; exact pow2_pos _
  have e1 : (2 : Int) ^ k = 2 * Q := by rw [eQ, show k = (k - 1) + 1 by omega, Int.pow_succ, Nat.add_sub_cancel]; omega
  have e2 : Q * S = 9223372036854775808 := by rw [eQ, eS, ← Int.pow_add, show k - 1 + (64 - k) = 63 by omega]; rfl
  have hy0 : 0 ≤ v * S := Int.mul_nonneg h.1 (Int.le_of_lt hS)
  have hy1 : v * S < 2 * Q * S := by rw [e1] at h; exact Int.mul_lt_mul_of_pos_right h.2 hS
  have e3 : 2 * Q * S = 18446744073709551616 := by rw [Int.mul_assoc, e2]; rfl
  unfold sgn
  rw [← eS, ← eQ, e1, Int.emod_eq_of_lt hy0 (by omega)]
  by_cases hv : v < Q
  · have hlt : v * S < Q * S := Int.mul_lt_mul_of_pos_right hv hS
    rw [if_pos hv, wrap_id _ (by omega), Int.mul_ediv_cancel _ (by omega)]
  · have hge : Q * S ≤ v * S := Int.mul_le_mul_of_nonneg_right (by omega) (Int.le_of_lt hS)
    have ew : IntKind.i64.wrap (v * S) = v * S - 18446744073709551616 := by rw [IntKind.wrap_i64]; omega
    rw [if_neg hv, ew, ← e3, ← Int.sub_mul, Int.mul_ediv_cancel _ (by omega)]
theorem sgn_bd (v : Int) (k : Nat) (h : 0 ≤ v ∧ v < 2 ^ k) (hk : 0 < k ∧ k ≤ 64) : -9223372036854775808 ≤ sgn k v ∧ sgn k v ≤ 9223372036854775807 := by
  have e1 : (2 : Int) ^ k = 2 * 2 ^ (k - 1) := by conv => lhs; rw [show k = (k - 1) + 1 by omega, Int.pow_succ]
                                                  omega
  have hle : (2 : Int) ^ (k - 1) ≤ 2 ^ 63 := pow2_le (by omega)
  have e63 : (2 : Int) ^ 63 = 9223372036854775808 := rfl
  unfold sgn
  split <;> omega
theorem getR_signed {k : Nat} {st st' : Option (List Bool)} {v : Int} (h : GetR k st st' v) : GetSR k st st' (sgn k v) := by
  unfold GetR at h
  unfold GetSR getS
  cases st with
  | none => exact h
  | some l =>
    simp only at h ⊢
    cases e : get k l with
    | none => rw [e] at h; exact h.2
    | some q =>
      obtain ⟨u, r⟩ := q
      rw [e] at h
      simp only at h
      simp only [Option.map_some]
      exact ⟨by rw [h.1], h.2⟩
theorem wrap64_is (x : Int) : wrap64 x = IntKind.i64.wrap x := by rw [IntKind.wrap_i64]; unfold wrap64; rfl
set_option maxHeartbeats 1000000 in
theorem r_signed (p : Nat) (a : Option Addr) (zs : List Int) (cap k : Nat) (st : Option (List Bool)) (w : World) (h : HeadAt w p a zs cap st) (hr : Rd w a zs) (hz : (zs.length : Int) ≤ 140737488351232) (hk : k ≤ 64) (hk0 : 0 < k) :
    Calls Tryd.prog 43 #[.pointer (some ⟨p, 0, none⟩), .int .i64 k] w fun e w' => ∃ z st', e = .returned (.int .i64 z) ∧ -9223372036854775808 ≤ z ∧ z ≤ 9223372036854775807 ∧ HeadAt w' p a zs cap st' ∧ GetSR k st st' z ∧ w.grownBy w' (some p) := by
  have HG : Hid (Calls Tryd.prog 31 #[.pointer (some ⟨p, 0, none⟩), .int .i64 k] w fun e w' => ∃ v st', e = .returned (.int .u64 v) ∧ 0 ≤ v ∧ v < 2 ^ k ∧ HeadAt w' p a zs cap st' ∧ GetR k st st' v ∧ w.grownBy w' (some p)) := r_hget p a zs cap k st w h hr hz hk
  have e6 : (64 : Int) - (k : Int) = ((64 - k : Nat) : Int) := by omega
  clear h hr hz
  go_enter Tryd.func43, Tryd.ntmps43
  go_wp2_with fail
  refine HG.out.mono ?_
  rintro e w1 ⟨v, st', rfl, hv0, hv1, hh, hgr, hg⟩
  have HV : Hid (0 ≤ v ∧ v < 2 ^ k) := ⟨hv0, hv1⟩
  have HH : Hid (HeadAt w1 p a zs cap st' ∧ GetR k st st' v ∧ w.grownBy w1 (some p)) := ⟨hh, hgr, hg⟩
  clear hh hgr hg HG hv0 hv1
  go_wp2
  go_ret
  have ez : wrap64 (IntKind.u64.wrap (v * 2 ^ (64 - k))) / 2 ^ (64 - k) = sgn k v := by rw [wrap64_is, wrap_is]; exact sgn_shift v k HV.out ⟨hk0, hk⟩
  have hb := sgn_bd v k HV.out ⟨hk0, hk⟩
  refine ⟨sgn k v, st', ?_, hb.1, hb.2, HH.out.1, getR_signed HH.out.2.1, HH.out.2.2⟩
  rw [← ez]
  rfl
theorem get_one {l r : List Bool} {u : Int} (h : get 1 l = some (u, r)) : (u = 0 ∧ l = false :: r) ∨ (u = 1 ∧ l = true :: r) := by
  obtain ⟨e, h0, h1⟩ := get_back h
  have : u = 0 ∨ u = 1 := by omega
  rcases this with rfl | rfl
  · left; exact ⟨rfl, e⟩
  · right; exact ⟨rfl, e⟩
/-- A step in time, read. -/
def GetZR (st st' : Option (List Bool)) (z : Int) : Prop :=
  match st with
  | none => st' = none
  | some l => match decZ l with
    | some (u, r) => z = u ∧ st' = some r
    | none => st' = none
/-- So many ones have been read. -/
def Ones (st : Option (List Bool)) (k : Nat) (sk : Option (List Bool)) : Prop := (st = none ∧ sk = none) ∨ ∃ l l', st = some l ∧ sk = some l' ∧ l = List.replicate k true ++ l'
theorem Ones.get {st sk s2 : Option (List Bool)} {k : Nat} {v : Int} (h : Ones st k sk) (hg : GetR 1 sk s2 v) (hv : v ≠ 0) : Ones st (k + 1) s2 := by
  rcases h with ⟨rfl, rfl⟩ | ⟨l, l', rfl, rfl, e⟩
  · exact .inl ⟨rfl, hg⟩
  · unfold GetR at hg
    simp only at hg
    cases e1 : Go.Proofs.YteahhkpbjkcmhaaDoor.get 1 l' with
    | none => rw [e1] at hg; exact absurd hg.1 hv
    | some q =>
      obtain ⟨u, r⟩ := q
      rw [e1] at hg
      simp only at hg
      rcases get_one e1 with ⟨hu, _⟩ | ⟨hu, el⟩
      · exact absurd (hg.1.trans hu) hv
      · refine .inr ⟨l, r, rfl, hg.2, ?_⟩
        rw [e, el, List.replicate_succ', List.append_assoc]
        rfl
theorem Ones.stop {st sk s2 s3 : Option (List Bool)} {k w : Nat} {v z : Int} (h : Ones st k sk) (hg : GetR 1 sk s2 v) (hv : v = 0) (hs : GetSR w s2 s3 z) (hd : ∀ r, decZ (List.replicate k true ++ false :: r) = getS w r) (hd0 : decZ (List.replicate k true) = none) : GetZR st s3 z := by
  rcases h with ⟨rfl, rfl⟩ | ⟨l, l', rfl, rfl, e⟩
  · unfold GetR at hg
    simp only at hg
    subst hg
    exact hs
  · unfold GetR at hg
    simp only at hg
    unfold GetZR
    simp only
    cases e1 : Go.Proofs.YteahhkpbjkcmhaaDoor.get 1 l' with
    | none =>
      rw [e1] at hg
      have hl : l' = [] := by
        unfold Go.Proofs.YteahhkpbjkcmhaaDoor.get at e1
        split at e1
        · cases e1
        · exact List.length_eq_zero_iff.1 (by omega)
      rw [e, hl, List.append_nil, hd0]
      obtain ⟨_, rfl⟩ := hg
      exact hs
    | some q =>
      obtain ⟨u, r⟩ := q
      rw [e1] at hg
      simp only at hg
      rcases get_one e1 with ⟨hu, el⟩ | ⟨hu, _⟩
      · rw [e, el, hd]
        obtain ⟨_, rfl⟩ := hg
        unfold GetSR at hs
        exact hs
      · exact absurd (hv ▸ hg.1.trans hu) (by decide)
end Go.Proofs.YteahhkpbjkcmhaaDoor
