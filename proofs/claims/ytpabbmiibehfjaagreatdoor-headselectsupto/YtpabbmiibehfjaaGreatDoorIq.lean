/- What HeadKeeps asks: ref3.Compare only reads; what stands behind Add; where a point comes from. -/
import Derived.Test.YtpabbmiibehfjaaGreatDoorGv
namespace Go.Proofs.YtpabbmiibehfjaaGreatDoor
open Go.RowKit Go.Maps
set_option linter.unusedVariables false
set_option maxRecDepth 20000

theorem drW {w wr : World} (h : ∃ m, wr = w.drewN m) (n : Nat) : ∃ m, wr.drewN n = w.drewN m := by
  obtain ⟨m, rfl⟩ := h
  exact ⟨_, drewN_drewN _ _ _⟩
set_option maxHeartbeats 1000000 in
theorem r_compareQ (a b : Option Addr) (xs ys : List Lab) (L M c d : Nat) (R : Int) (w : World) (hx : SRd labE w a xs) (hy : SRd labE w b ys) (hL : xs.length = L) (hM : ys.length = M) (hz : L ≤ 4398046511104) (hz2 : M ≤ 4398046511104) (hR : cmpR xs ys = R) :
    Calls Tryz.prog 17 #[.slice a L c, .slice b M d] w fun e w' => e = .returned (.int .i64 R) ∧ ∃ n, w' = w.drewN n := by
  have HX : Hid (SRd labE w a xs) := hx
  have HY : Hid (SRd labE w b ys) := hy
  have HL : Hid (xs.length = L) := hL
  have HM : Hid (ys.length = M) := hM
  have H0 : Hid (CmpAt xs ys 0 R) := hR
  clear hx hy hL hM hR
  go_enter Tryz.func17, Tryz.ntmps17
  go_wp2
  go_loopw [5] (fun i wr => ∃ k n : Nat, k ≤ L ∧ k ≤ M ∧ i = .int .i64 k ∧ wr = w.drewN n ∧ CmpAt xs ys k R) (fun i _ => L - (intOf i).toNat)
  case atStart => exact ⟨0, 0, Nat.zero_le _, Nat.zero_le _, rfl, rfl, H0.out⟩
  case round =>
    obtain ⟨k, m, hk, hk2, rfl, hw, hc⟩ := hrel
    have HW : Hid (∃ m, wr = w.drewN m) := ⟨m, hw⟩
    have HWC : Hid (∀ a v, w.cell? a = some v → wr.cell? a = some v) := fun a v h => by rw [hw]; exact h
    clear hw
    have HC : Hid (CmpAt xs ys k R) := hc
    clear hc H0
    by_cases hlt : k < L ∧ k < M
    · have hl := HL.out
      have hm := HM.out
      obtain ⟨ba, offa, rfl, hca⟩ := HX.out.at (by omega)
      obtain ⟨bb, offb, rfl, hcb⟩ := HY.out.at (by omega)
      obtain ⟨⟨s1, s2⟩, ex⟩ : ∃ x, xs[k]? = some x := ⟨_, List.getElem?_eq_getElem (by omega)⟩
      obtain ⟨⟨t1, t2⟩, ey⟩ : ∃ y, ys[k]? = some y := ⟨_, List.getElem?_eq_getElem (by omega)⟩
      have a0 : wr.cell? ⟨ba, offa + k * 2, none⟩ = some (.string s1) := HWC.out _ _ (hca k _ 0 _ ex rfl)
      have a1 : wr.cell? ⟨ba, offa + k * 2 + 1, none⟩ = some (.string s2) := by rw [Nat.add_assoc]; exact HWC.out _ _ (hca k _ 1 _ ex rfl)
      have b0 : wr.cell? ⟨bb, offb + k * 2, none⟩ = some (.string t1) := HWC.out _ _ (hcb k _ 0 _ ey rfl)
      have b1 : wr.cell? ⟨bb, offb + k * 2 + 1, none⟩ = some (.string t2) := by rw [Nat.add_assoc]; exact HWC.out _ _ (hcb k _ 1 _ ey rfl)
      have HN : Hid (_ = R) := HC.out.next ex ey
      have hi1 : (k : Int) < (L : Int) := by omega
      have hi2 : (k : Int) < (M : Int) := by omega
      have HO1 : Hid (∀ w, Calls Tryz.prog 45 #[.string s1, .string t1] w fun e w' => e = .returned (.int .i64 (ordR s1 t1)) ∧ w = w') := r_order s1 t1
      have HO2 : Hid (∀ w, Calls Tryz.prog 45 #[.string s2, .string t2] w fun e w' => e = .returned (.int .i64 (ordR s2 t2)) ∧ w = w') := r_order s2 t2
      have hk1 : k < L := hlt.1
      have hk2' : k < M := hlt.2
      clear hca hcb ex ey hl hm hlt
      by_cases h1 : ordR s1 t1 = 0
      · have q1 : (ordR s1 t1 != 0) = false := by simpa using h1
        by_cases h2 : ordR s2 t2 = 0
        · have q2 : (ordR s2 t2 != 0) = false := by simpa using h2
          have HS : Hid (CmpAt xs ys (k + 1) R) := by
            have h := HN.out
            rw [if_neg (by simpa using h1), if_neg (by simpa using h2)] at h
            exact h
          generalize ordR s1 t1 = o1 at HO1 q1
          generalize ordR s2 t2 = o2 at HO2 q2
          clear h1 h2 HN
          go_wp2
          go_quiet (exact Calls.quiet_of_same ((HO1.out _).mono (fun _ _ h => ⟨h.1, h.2.symm⟩)))
          obtain ⟨w2, ew⟩ : ∃ w2, w2 = wr.drewN nq := ⟨_, rfl⟩
          rw [← ew]
          have c1 : w2.cell? ⟨ba, offa + k * 2 + 1, none⟩ = some (.string s2) := by rw [ew]; exact a1
          have e1 : w2.cell? ⟨bb, offb + k * 2 + 1, none⟩ = some (.string t2) := by rw [ew]; exact b1
          have HW2 : Hid (∃ m, w2 = w.drewN m) := by
            obtain ⟨m, hm⟩ := HW.out
            exact ⟨m + nq, by rw [ew, hm, drewN_drewN]⟩
          clear ew a1 b1 a0 b0
          go_wp2
          go_quiet (exact Calls.quiet_of_same ((HO2.out _).mono (fun _ _ h => ⟨h.1, h.2.symm⟩)))
          go_wp2
          go_roundw
          case rel => obtain ⟨m, hm⟩ := HW2.out; exact ⟨k + 1, _, by omega, by omega, by go_num, by rw [hm, drewN_drewN], HS.out⟩
          case measure => simp [intOf]; omega
        · have q2 : (ordR s2 t2 != 0) = true := by simpa using h2
          have HS : Hid (ordR s2 t2 = R) := by
            have h := HN.out
            rw [if_neg (by simpa using h1), if_pos (by simpa using h2)] at h
            exact h
          rw [HS.out] at HO2 q2
          generalize ordR s1 t1 = o1 at HO1 q1
          clear h1 h2 HN HS
          go_wp2
          go_quiet (exact Calls.quiet_of_same ((HO1.out _).mono (fun _ _ h => ⟨h.1, h.2.symm⟩)))
          obtain ⟨w2, ew⟩ : ∃ w2, w2 = wr.drewN nq := ⟨_, rfl⟩
          rw [← ew]
          have c1 : w2.cell? ⟨ba, offa + k * 2 + 1, none⟩ = some (.string s2) := by rw [ew]; exact a1
          have e1 : w2.cell? ⟨bb, offb + k * 2 + 1, none⟩ = some (.string t2) := by rw [ew]; exact b1
          have HW2 : Hid (∃ m, w2 = w.drewN m) := by
            obtain ⟨m, hm⟩ := HW.out
            exact ⟨m + nq, by rw [ew, hm, drewN_drewN]⟩
          clear ew a1 b1 a0 b0
          go_wp2
          go_quiet (exact Calls.quiet_of_same ((HO2.out _).mono (fun _ _ h => ⟨h.1, h.2.symm⟩)))
          go_wp2
          go_ret
          exact ⟨rfl, drW HW2.out _⟩
      · have q1 : (ordR s1 t1 != 0) = true := by simpa using h1
        have HS : Hid (ordR s1 t1 = R) := by
          have h := HN.out
          rw [if_pos (by simpa using h1)] at h
          exact h
        rw [HS.out] at HO1 q1
        clear h1 HN HS
        go_wp2
        go_quiet (exact Calls.quiet_of_same ((HO1.out _).mono (fun _ _ h => ⟨h.1, h.2.symm⟩)))
        go_wp2
        go_ret
        exact ⟨rfl, drW HW.out _⟩
    · have HD : Hid ((if L < M then (-1 : Int) else if M < L then 1 else 0) = R) := by
        have h := HC.out.done (by have := HL.out; omega) (by have := HM.out; omega) (by have := HL.out; have := HM.out; omega)
        rw [HL.out, HM.out] at h
        exact h
      by_cases h1 : L < M
      · have hk' : ¬ k < L := by omega
        have HR : Hid ((-1 : Int) = R) := by have h := HD.out; rw [if_pos h1] at h; exact h
        clear hlt HD
        go_wp2
        go_ret
        exact ⟨ret_int HR.out, drW HW.out 0⟩
      · by_cases h2 : M < L
        · have hk' : k < L := by omega
          have hk'' : ¬ k < M := by omega
          have HR : Hid ((1 : Int) = R) := by have h := HD.out; rw [if_neg h1, if_pos h2] at h; exact h
          clear hlt HD
          go_wp2
          go_ret
          exact ⟨ret_int HR.out, drW HW.out 0⟩
        · have hk' : ¬ k < L := by omega
          have HR : Hid ((0 : Int) = R) := by have h := HD.out; rw [if_neg h1, if_neg h2] at h; exact h
          clear hlt HD
          go_wp2
          go_ret
          exact ⟨ret_int HR.out, drW HW.out 0⟩
theorem fate_ok {lim : Nat} {S : List Ser} {ls : List Lab} {T V : Int} (h : fateR lim S ls T V = 1) : checkR ls = 0 ∧ -1099511627776 ≤ T ∧ T ≤ 1099511627776 := by
  unfold fateR at h
  split at h
  · assumption
  · omega
theorem add_has {lim : Nat} {S : List Ser} {ls : List Lab} {T V : Int} (h : fateR lim S ls T V = 1) : ∃ ps, (ls, ps ++ [(T, V)]) ∈ addR lim S ls T V := by
  unfold addR
  rw [if_pos h]
  cases hf : findR S ls with
  | none => exact ⟨[], by simp⟩
  | some ps =>
    refine ⟨ps, List.mem_map.2 ⟨(ls, ps), find_some hf, ?_⟩⟩
    simp
theorem fate_again {lim : Nat} {S : List Ser} (hg : Good S) {ls : List Lab} {T V : Int} (h : fateR lim S ls T V = 1) : fateR lim (addR lim S ls T V) ls T V = 2 := by
  obtain ⟨ps, hm⟩ := add_has h
  have hf := find_mem (addR_good hg ls T V) hm
  unfold fateR
  rw [if_pos (fate_ok h), hf]
  have hl : (ps ++ [(T, V)]).getLastD (0, 0) = (T, V) := getLastD_of (by simp)
  simp only [hl]
  rw [if_neg (by omega), if_neg (by omega), if_pos trivial]
theorem fate_same {lim : Nat} {S : List Ser} {ls : List Lab} {T V : Int} (h : fateR lim S ls T V ≠ 1) : addR lim S ls T V = S := by
  unfold addR
  rw [if_neg h]
theorem pts_cons (s : Ser) (S : List Ser) : ptsN (s :: S) = s.2.length + ptsN S := by
  unfold ptsN
  rw [List.map_cons, List.sum_cons]
theorem pts_app (S R : List Ser) : ptsN (S ++ R) = ptsN S + ptsN R := by
  unfold ptsN
  rw [List.map_append, List.sum_append]
theorem pts_not {ls : List Lab} {p : Pt} : ∀ (S : List Ser), ls ∉ S.map (·.1) → (S.map fun s => if s.1 = ls then (s.1, s.2 ++ [p]) else s) = S
  | [], _ => rfl
  | s :: r, h => by
    rw [List.map_cons, List.mem_cons, not_or] at h
    rw [List.map_cons, if_neg (fun e => h.1 e.symm), pts_not r h.2]
theorem pts_put {ls : List Lab} {p : Pt} : ∀ (S : List Ser), (S.map (·.1)).Nodup → ls ∈ S.map (·.1) → ptsN (S.map fun s => if s.1 = ls then (s.1, s.2 ++ [p]) else s) = ptsN S + 1
  | [], _, h => by simp at h
  | s :: r, hn, h => by
    rw [List.map_cons, List.nodup_cons] at hn
    rw [List.map_cons, pts_cons, pts_cons]
    by_cases e : s.1 = ls
    · subst e
      rw [if_pos rfl, pts_not r hn.1]
      simp only [List.length_append, List.length_cons, List.length_nil]
      omega
    · rw [List.map_cons, List.mem_cons] at h
      rw [if_neg e, pts_put r hn.2 (h.resolve_left (fun x => e x.symm))]
      omega
theorem pts_add {lim : Nat} {S : List Ser} (hg : Good S) {ls : List Lab} {T V : Int} (h : fateR lim S ls T V = 1) : ptsN (addR lim S ls T V) = ptsN S + 1 := by
  unfold addR
  rw [if_pos h]
  cases hf : findR S ls with
  | none =>
    simp only
    rw [pts_app, pts_cons]
    have h2 : ptsN S = ptsN (S.take (insAt (S.map (·.1)) ls)) + ptsN (S.drop (insAt (S.map (·.1)) ls)) := by rw [← pts_app, List.take_append_drop]
    simp only [List.length_cons, List.length_nil]
    omega
  | some ps => exact pts_put S (sets_nodup hg.sets) (List.mem_map.2 ⟨_, find_some hf, rfl⟩)
theorem add_from {lim : Nat} {S : List Ser} {ls : List Lab} {T V : Int} {s : Ser} {p : Pt} (hs : s ∈ addR lim S ls T V) (hp : p ∈ s.2) : (∃ t ∈ S, t.1 = s.1 ∧ p ∈ t.2) ∨ (ls = s.1 ∧ (T, V) = p) := by
  unfold addR at hs
  split at hs
  · split at hs
    · rcases List.mem_append.1 hs with h | h
      · exact .inl ⟨s, List.mem_of_mem_take h, rfl, hp⟩
      · rcases List.mem_cons.1 h with rfl | h
        · simp only [List.mem_singleton] at hp
          exact .inr ⟨rfl, hp.symm⟩
        · exact .inl ⟨s, List.mem_of_mem_drop h, rfl, hp⟩
    · obtain ⟨t, ht, rfl⟩ := List.mem_map.1 hs
      by_cases e : t.1 = ls
      · rw [if_pos e] at hp ⊢
        simp only [List.mem_append, List.mem_singleton] at hp
        rcases hp with hp | hp
        · exact .inl ⟨t, ht, rfl, hp⟩
        · exact .inr ⟨e.symm, hp.symm⟩
      · rw [if_neg e] at hp ⊢
        exact .inl ⟨t, ht, rfl, hp⟩
  · exact .inl ⟨s, hs, rfl, hp⟩
theorem run_from (lim : Nat) (Q : List Smp) : ∀ k, k ≤ Q.length → ∀ s ∈ runS lim (Q.take k), ∀ p ∈ s.2, ∃ j, j < k ∧ Q[j]? = some (s.1, p)
  | 0, _, s, hs, p, hp => by simp [runS] at hs
  | k + 1, hk, s, hs, p, hp => by
    obtain ⟨⟨ls, T, V⟩, hq⟩ : ∃ q, Q[k]? = some q := ⟨_, List.getElem?_eq_getElem (by omega)⟩
    rw [runS_next hq] at hs
    rcases add_from hs hp with ⟨t, ht, e, hp'⟩ | ⟨e1, e2⟩
    · obtain ⟨j, hj, hjq⟩ := run_from lim Q k (by omega) t ht p hp'
      exact ⟨j, by omega, by rw [hjq, e]⟩
    · exact ⟨k, by omega, by rw [hq, e1, e2]⟩
end Go.Proofs.YtpabbmiibehfjaaGreatDoor
