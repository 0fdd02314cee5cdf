/- Several texts in one: Iq, Ir. -/
import Derived.Test.YtpabbmiibehfjaaGreatDoorGv
/- What HeadKeeps asks: ref3.Compare only reads; what stands behind Add; where a point comes from. -/
namespace Go.Proofs.YtpabbmiibehfjaaGreatDoor
open Go.RowKit Go.Maps
set_option linter.unusedVariables false
set_option maxRecDepth 20000

theorem drW {w wr : World} (h : ∃ m, wr = w.drewN m) (n : Nat) : ∃ m, wr.drewN n = w.drewN m := by
  obtain ⟨m, rfl⟩ := h
  exact ⟨_, drewN_drewN _ _ _⟩
set_option maxHeartbeats 1000000 in
theorem r_compareQ (a b : Option Addr) (xs ys : List Lab) (L M c d : Nat) (R : Int) (w : World) (hx : SRd labE w a xs) (hy : SRd labE w b ys) (hL : xs.length = L) (hM : ys.length = M) (hz : L ≤ 4398046511104) (hz2 : M ≤ 4398046511104) (hR : cmpR xs ys = R) :
    Calls Tryz.prog 17 #[.slice a L c, .slice b M d] w fun e w' => e = .returned (.int .i64 R) ∧ ∃ n, w' = w.drewN n := by
  have HX : Hid (SRd labE w a xs) := hx
  have HY : Hid (SRd labE w b ys) := hy
  have HL : Hid (xs.length = L) := hL
  have HM : Hid (ys.length = M) := hM
  have H0 : Hid (CmpAt xs ys 0 R) := hR
  clear hx hy hL hM hR
  go_enter Tryz.func17, Tryz.ntmps17
  go_wp2
  go_loopw [5] (fun i wr => ∃ k n : Nat, k ≤ L ∧ k ≤ M ∧ i = .int .i64 k ∧ wr = w.drewN n ∧ CmpAt xs ys k R) (fun i _ => L - (intOf i).toNat)
  case atStart => exact ⟨0, 0, Nat.zero_le _, Nat.zero_le _, rfl, rfl, H0.out⟩
  case round =>
    obtain ⟨k, m, hk, hk2, rfl, hw, hc⟩ := hrel
    have HW : Hid (∃ m, wr = w.drewN m) := ⟨m, hw⟩
    have HWC : Hid (∀ a v, w.cell? a = some v → wr.cell? a = some v) := fun a v h => by rw [hw]; exact h
    clear hw
    have HC : Hid (CmpAt xs ys k R) := hc
    clear hc H0
    by_cases hlt : k < L ∧ k < M
    · have hl := HL.out
      have hm := HM.out
      obtain ⟨ba, offa, rfl, hca⟩ := HX.out.at (by omega)
      obtain ⟨bb, offb, rfl, hcb⟩ := HY.out.at (by omega)
      obtain ⟨⟨s1, s2⟩, ex⟩ : ∃ x, xs[k]? = some x := ⟨_, List.getElem?_eq_getElem (by omega)⟩
      obtain ⟨⟨t1, t2⟩, ey⟩ : ∃ y, ys[k]? = some y := ⟨_, List.getElem?_eq_getElem (by omega)⟩
      have a0 : wr.cell? ⟨ba, offa + k * 2, none⟩ = some (.string s1) := HWC.out _ _ (hca k _ 0 _ ex rfl)
      have a1 : wr.cell? ⟨ba, offa + k * 2 + 1, none⟩ = some (.string s2) := by rw [Nat.add_assoc]; exact HWC.out _ _ (hca k _ 1 _ ex rfl)
      have b0 : wr.cell? ⟨bb, offb + k * 2, none⟩ = some (.string t1) := HWC.out _ _ (hcb k _ 0 _ ey rfl)
      have b1 : wr.cell? ⟨bb, offb + k * 2 + 1, none⟩ = some (.string t2) := by rw [Nat.add_assoc]; exact HWC.out _ _ (hcb k _ 1 _ ey rfl)
      have HN : Hid (_ = R) := HC.out.next ex ey
      have hi1 : (k : Int) < (L : Int) := by omega
      have hi2 : (k : Int) < (M : Int) := by omega
      have HO1 : Hid (∀ w, Calls Tryz.prog 45 #[.string s1, .string t1] w fun e w' => e = .returned (.int .i64 (ordR s1 t1)) ∧ w = w') := r_order s1 t1
      have HO2 : Hid (∀ w, Calls Tryz.prog 45 #[.string s2, .string t2] w fun e w' => e = .returned (.int .i64 (ordR s2 t2)) ∧ w = w') := r_order s2 t2
      have hk1 : k < L := hlt.1
      have hk2' : k < M := hlt.2
      clear hca hcb ex ey hl hm hlt
      by_cases h1 : ordR s1 t1 = 0
      · have q1 : (ordR s1 t1 != 0) = false := by simpa using h1
        by_cases h2 : ordR s2 t2 = 0
        · have q2 : (ordR s2 t2 != 0) = false := by simpa using h2
          have HS : Hid (CmpAt xs ys (k + 1) R) := by
            have h := HN.out
            rw [if_neg (by simpa using h1), if_neg (by simpa using h2)] at h
            exact h
          generalize ordR s1 t1 = o1 at HO1 q1
          generalize ordR s2 t2 = o2 at HO2 q2
          clear h1 h2 HN
          go_wp2
          go_quiet (exact Calls.quiet_of_same ((HO1.out _).mono (fun _ _ h => ⟨h.1, h.2.symm⟩)))
          obtain ⟨w2, ew⟩ : ∃ w2, w2 = wr.drewN nq := ⟨_, rfl⟩
          rw [← ew]
          have c1 : w2.cell? ⟨ba, offa + k * 2 + 1, none⟩ = some (.string s2) := by rw [ew]; exact a1
          have e1 : w2.cell? ⟨bb, offb + k * 2 + 1, none⟩ = some (.string t2) := by rw [ew]; exact b1
          have HW2 : Hid (∃ m, w2 = w.drewN m) := by
            obtain ⟨m, hm⟩ := HW.out
            exact ⟨m + nq, by rw [ew, hm, drewN_drewN]⟩
          clear ew a1 b1 a0 b0
          go_wp2
          go_quiet (exact Calls.quiet_of_same ((HO2.out _).mono (fun _ _ h => ⟨h.1, h.2.symm⟩)))
          go_wp2
          go_roundw
          case rel => obtain ⟨m, hm⟩ := HW2.out; exact ⟨k + 1, _, by omega, by omega, by go_num, by rw [hm, drewN_drewN], HS.out⟩
          case measure => simp [intOf]; omega
        · have q2 : (ordR s2 t2 != 0) = true := by simpa using h2
          have HS : Hid (ordR s2 t2 = R) := by
            have h := HN.out
            rw [if_neg (by simpa using h1), if_pos (by simpa using h2)] at h
            exact h
          rw [HS.out] at HO2 q2
          generalize ordR s1 t1 = o1 at HO1 q1
          clear h1 h2 HN HS
          go_wp2
          go_quiet (exact Calls.quiet_of_same ((HO1.out _).mono (fun _ _ h => ⟨h.1, h.2.symm⟩)))
          obtain ⟨w2, ew⟩ : ∃ w2, w2 = wr.drewN nq := ⟨_, rfl⟩
          rw [← ew]
          have c1 : w2.cell? ⟨ba, offa + k * 2 + 1, none⟩ = some (.string s2) := by rw [ew]; exact a1
          have e1 : w2.cell? ⟨bb, offb + k * 2 + 1, none⟩ = some (.string t2) := by rw [ew]; exact b1
          have HW2 : Hid (∃ m, w2 = w.drewN m) := by
            obtain ⟨m, hm⟩ := HW.out
            exact ⟨m + nq, by rw [ew, hm, drewN_drewN]⟩
          clear ew a1 b1 a0 b0
          go_wp2
          go_quiet (exact Calls.quiet_of_same ((HO2.out _).mono (fun _ _ h => ⟨h.1, h.2.symm⟩)))
          go_wp2
          go_ret
          exact ⟨rfl, drW HW2.out _⟩
      · have q1 : (ordR s1 t1 != 0) = true := by simpa using h1
        have HS : Hid (ordR s1 t1 = R) := by
          have h := HN.out
          rw [if_pos (by simpa using h1)] at h
          exact h
        rw [HS.out] at HO1 q1
        clear h1 HN HS
        go_wp2
        go_quiet (exact Calls.quiet_of_same ((HO1.out _).mono (fun _ _ h => ⟨h.1, h.2.symm⟩)))
        go_wp2
        go_ret
        exact ⟨rfl, drW HW.out _⟩
    · have HD : Hid ((if L < M then (-1 : Int) else if M < L then 1 else 0) = R) := by
        have h := HC.out.done (by have := HL.out; omega) (by have := HM.out; omega) (by have := HL.out; have := HM.out; omega)
        rw [HL.out, HM.out] at h
        exact h
      by_cases h1 : L < M
      · have hk' : ¬ k < L := by omega
        have HR : Hid ((-1 : Int) = R) := by have h := HD.out; rw [if_pos h1] at h; exact h
        clear hlt HD
        go_wp2
        go_ret
        exact ⟨ret_int HR.out, drW HW.out 0⟩
      · by_cases h2 : M < L
        · have hk' : k < L := by omega
          have hk'' : ¬ k < M := by omega
          have HR : Hid ((1 : Int) = R) := by have h := HD.out; rw [if_neg h1, if_pos h2] at h; exact h
          clear hlt HD
          go_wp2
          go_ret
          exact ⟨ret_int HR.out, drW HW.out 0⟩
        · have hk' : ¬ k < L := by omega
          have HR : Hid ((0 : Int) = R) := by have h := HD.out; rw [if_neg h1, if_neg h2] at h; exact h
          clear hlt HD
          go_wp2
          go_ret
          exact ⟨ret_int HR.out, drW HW.out 0⟩
theorem fate_ok {lim : Nat} {S : List Ser} {ls : List Lab} {T V : Int} (h : fateR lim S ls T V = 1) : checkR ls = 0 ∧ -1099511627776 ≤ T ∧ T ≤ 1099511627776 := by
  unfold fateR at h
  split at h
  · assumption
  · omega
theorem add_has {lim : Nat} {S : List Ser} {ls : List Lab} {T V : Int} (h : fateR lim S ls T V = 1) : ∃ ps, (ls, ps ++ [(T, V)]) ∈ addR lim S ls T V := by
  unfold addR
  rw [if_pos h]
  cases hf : findR S ls with
  | none => exact ⟨[], by simp⟩
  | some ps =>
    refine ⟨ps, List.mem_map.2 ⟨(ls, ps), find_some hf, ?_⟩⟩
    simp
theorem fate_again {lim : Nat} {S : List Ser} (hg : Good S) {ls : List Lab} {T V : Int} (h : fateR lim S ls T V = 1) : fateR lim (addR lim S ls T V) ls T V = 2 := by
  obtain ⟨ps, hm⟩ := add_has h
  have hf := find_mem (addR_good hg ls T V) hm
  unfold fateR
  rw [if_pos (fate_ok h), hf]
  have hl : (ps ++ [(T, V)]).getLastD (0, 0) = (T, V) := getLastD_of (by simp)
  simp only [hl]
  rw [if_neg (by omega), if_neg (by omega), if_pos trivial]
theorem fate_same {lim : Nat} {S : List Ser} {ls : List Lab} {T V : Int} (h : fateR lim S ls T V ≠ 1) : addR lim S ls T V = S := by
  unfold addR
  rw [if_neg h]
theorem pts_cons (s : Ser) (S : List Ser) : ptsN (s :: S) = s.2.length + ptsN S := by
  unfold ptsN
  rw [List.map_cons, List.sum_cons]
theorem pts_app (S R : List Ser) : ptsN (S ++ R) = ptsN S + ptsN R := by
  unfold ptsN
  rw [List.map_append, List.sum_append]
theorem pts_not {ls : List Lab} {p : Pt} : ∀ (S : List Ser), ls ∉ S.map (·.1) → (S.map fun s => if s.1 = ls then (s.1, s.2 ++ [p]) else s) = S
  | [], _ => rfl
  | s :: r, h => by
    rw [List.map_cons, List.mem_cons, not_or] at h
    rw [List.map_cons, if_neg (fun e => h.1 e.symm), pts_not r h.2]
theorem pts_put {ls : List Lab} {p : Pt} : ∀ (S : List Ser), (S.map (·.1)).Nodup → ls ∈ S.map (·.1) → ptsN (S.map fun s => if s.1 = ls then (s.1, s.2 ++ [p]) else s) = ptsN S + 1
  | [], _, h => by simp at h
  | s :: r, hn, h => by
    rw [List.map_cons, List.nodup_cons] at hn
    rw [List.map_cons, pts_cons, pts_cons]
    by_cases e : s.1 = ls
    · subst e
      rw [if_pos rfl, pts_not r hn.1]
      simp only [List.length_append, List.length_cons, List.length_nil]
      omega
    · rw [List.map_cons, List.mem_cons] at h
      rw [if_neg e, pts_put r hn.2 (h.resolve_left (fun x => e x.symm))]
      omega
theorem pts_add {lim : Nat} {S : List Ser} (hg : Good S) {ls : List Lab} {T V : Int} (h : fateR lim S ls T V = 1) : ptsN (addR lim S ls T V) = ptsN S + 1 := by
  unfold addR
  rw [if_pos h]
  cases hf : findR S ls with
  | none =>
    simp only
    rw [pts_app, pts_cons]
    have h2 : ptsN S = ptsN (S.take (insAt (S.map (·.1)) ls)) + ptsN (S.drop (insAt (S.map (·.1)) ls)) := by rw [← pts_app, List.take_append_drop]
    simp only [List.length_cons, List.length_nil]
    omega
  | some ps => exact pts_put S (sets_nodup hg.sets) (List.mem_map.2 ⟨_, find_some hf, rfl⟩)
theorem add_from {lim : Nat} {S : List Ser} {ls : List Lab} {T V : Int} {s : Ser} {p : Pt} (hs : s ∈ addR lim S ls T V) (hp : p ∈ s.2) : (∃ t ∈ S, t.1 = s.1 ∧ p ∈ t.2) ∨ (ls = s.1 ∧ (T, V) = p) := by
  unfold addR at hs
  split at hs
  · split at hs
    · rcases List.mem_append.1 hs with h | h
      · exact .inl ⟨s, List.mem_of_mem_take h, rfl, hp⟩
      · rcases List.mem_cons.1 h with rfl | h
        · simp only [List.mem_singleton] at hp
          exact .inr ⟨rfl, hp.symm⟩
        · exact .inl ⟨s, List.mem_of_mem_drop h, rfl, hp⟩
    · obtain ⟨t, ht, rfl⟩ := List.mem_map.1 hs
      by_cases e : t.1 = ls
      · rw [if_pos e] at hp ⊢
        simp only [List.mem_append, List.mem_singleton] at hp
        rcases hp with hp | hp
        · exact .inl ⟨t, ht, rfl, hp⟩
        · exact .inr ⟨e.symm, hp.symm⟩
      · rw [if_neg e] at hp ⊢
        exact .inl ⟨t, ht, rfl, hp⟩
  · exact .inl ⟨s, hs, rfl, hp⟩
theorem run_from (lim : Nat) (Q : List Smp) : ∀ k, k ≤ Q.length → ∀ s ∈ runS lim (Q.take k), ∀ p ∈ s.2, ∃ j, j < k ∧ Q[j]? = some (s.1, p)
  | 0, _, s, hs, p, hp => by simp [runS] at hs
  | k + 1, hk, s, hs, p, hp => by
    obtain ⟨⟨ls, T, V⟩, hq⟩ : ∃ q, Q[k]? = some q := ⟨_, List.getElem?_eq_getElem (by omega)⟩
    rw [runS_next hq] at hs
    rcases add_from hs hp with ⟨t, ht, e, hp'⟩ | ⟨e1, e2⟩
    · obtain ⟨j, hj, hjq⟩ := run_from lim Q k (by omega) t ht p hp'
      exact ⟨j, by omega, by rw [hjq, e]⟩
    · exact ⟨k, by omega, by rw [hq, e1, e2]⟩
end Go.Proofs.YtpabbmiibehfjaaGreatDoor

/- HeadKeeps. -/
namespace Go.Proofs.YtpabbmiibehfjaaGreatDoor
open Go.RowKit Go.Maps
set_option linter.unusedVariables false
set_option maxRecDepth 20000

theorem run_fate {w wr : World} {hb lim N P : Nat} {S : List Ser} {B : Nat → Prop} {la : Option Addr} {lc L : Nat} {ls : List Lab} (T V : Int) (h : RunAt w wr hb lim N P S B) (hP : P ≤ 8796093022206) (hr : SRd labE w la ls) (hL : ls.length = L) (hz : ls.length ≤ 4398046511104) :
    Calls Tryz.prog 14 #[.pointer (some ⟨hb, 0, none⟩), .agg #[.slice la L lc, .int .i64 T, .int .u64 V]] wr fun e w' => e = .returned (.int .i64 (fateR lim S ls T V)) ∧ RunAt w w' hb lim N P S B := by
  refine (h_fate w.heap.size hb lim N P S B la L lc ls T V wr h.head (hr.grown h.grown (by simp)) hL (by omega) hP).mono ?_
  rintro e w' ⟨rfl, hg⟩
  exact ⟨rfl, h.grew hg⟩
theorem run_add {w wr : World} {hb lim N P : Nat} {S : List Ser} {B : Nat → Prop} {la : Option Addr} {lc L : Nat} {ls : List Lab} (T V : Int) (h : RunAt w wr hb lim N P S B) (hP : P ≤ 8796093022206) (hN : N + 20 < 9223372036854775807) (hr : SRd labE w la ls) (hL : ls.length = L) (hz : ls.length ≤ 4398046511104) (hnil : la = none → lc = 0) :
    Calls Tryz.prog 15 #[.pointer (some ⟨hb, 0, none⟩), .agg #[.slice la L lc, .int .i64 T, .int .u64 V]] wr fun e w' => e = .returned (.int .i64 (fateR lim S ls T V)) ∧ ∃ B', RunAt w w' hb lim (N + 20) (P + 1) (addR lim S ls T V) B' := by
  refine (h_add w.heap.size hb lim N P S B la L lc ls T V wr h.head (hr.grown h.grown (by simp)) hL (by omega) hnil hP hN).mono ?_
  rintro e w' ⟨rfl, B', hh, hst⟩
  exact ⟨rfl, B', h.step hst hh⟩
theorem pnt_cells {w : World} {a : Option Addr} {ps : List Pt} (h : SRd pntE w a ps) {k : Nat} {t v : Int} (hs : ps[k]? = some (t, v)) :
    ∃ b off, a = some ⟨b, off, none⟩ ∧ w.cell? ⟨b, off + k * 2, none⟩ = some (.int .i64 t) ∧ w.cell? ⟨b, off + k * 2 + 1, none⟩ = some (.int .u64 v) := by
  have hk : k < ps.length := (List.getElem?_eq_some_iff.1 hs).1
  obtain ⟨b, off, rfl, hc⟩ := h.at (by omega)
  exact ⟨b, off, rfl, hc k _ 0 _ hs rfl, by rw [Nat.add_assoc]; exact hc k _ 1 _ hs rfl⟩
theorem row2 {w : World} {x y : Value} {t : TypeId} : (w.alloc (.cells #[x, y] t)).cell? ⟨w.heap.size, 0, none⟩ = some x ∧ (w.alloc (.cells #[x, y] t)).cell? ⟨w.heap.size, 1, none⟩ = some y :=
  ⟨cell_of_row _ w.heap.size 0 _ t _ (heap_alloc_new w _), cell_of_row _ w.heap.size 1 _ t _ (heap_alloc_new w _)⟩
theorem sets_at {S : List Ser} (h : Good S) {j : Nat} {s t : Ser} (hs : S[j]? = some s) (ht : S[j + 1]? = some t) : cmpR s.1 t.1 < 0 := by
  have hp := h.sets
  have h1 : (S.map (·.1))[j]? = some s.1 := by rw [List.getElem?_map, hs]; rfl
  have h2 : (S.map (·.1))[j + 1]? = some t.1 := by rw [List.getElem?_map, ht]; rfl
  obtain ⟨l1, e1⟩ := List.getElem?_eq_some_iff.1 h1
  obtain ⟨l2, e2⟩ := List.getElem?_eq_some_iff.1 h2
  have := List.pairwise_iff_getElem.1 hp j (j + 1) l1 l2 (by omega)
  rw [e1, e2] at this
  exact this
theorem rise_at {ps : List Pt} (h : Rise ps) {j : Nat} {s t : Pt} (hs : ps[j]? = some s) (ht : ps[j + 1]? = some t) : s.1 < t.1 := by
  obtain ⟨l1, e1⟩ := List.getElem?_eq_some_iff.1 hs
  obtain ⟨l2, e2⟩ := List.getElem?_eq_some_iff.1 ht
  have := List.pairwise_iff_getElem.1 h.up j (j + 1) l1 l2 (by omega)
  rw [e1, e2] at this
  exact this
/-- The head's series, handed out; each is small, and each of its points came in as a sample. -/
structure KeepsAt (w w3 : World) (a1 : Option Addr) (raw1 : List (Sv × Sv)) (S : List Ser) (a : Option Addr) (raw : List (Sv × Int × Int)) (Q : List Smp) : Prop where
  gr : w.grownBy w3 none
  rd : SerRd w3 a1 raw1 S
  smp : SmpRd w a raw Q
  good : Good S
  small : ∀ s ∈ S, s.1.length ≤ 16 ∧ s.2.length ≤ 8796093022206
  from' : ∀ s ∈ S, ∀ p ∈ s.2, ∃ j, j < Q.length ∧ Q[j]? = some (s.1, p)
end Go.Proofs.YtpabbmiibehfjaaGreatDoor

