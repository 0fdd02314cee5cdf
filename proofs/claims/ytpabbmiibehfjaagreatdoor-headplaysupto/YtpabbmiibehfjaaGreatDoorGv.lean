/- Several texts in one: In, Io. -/
import Derived.Test.YtpabbmiibehfjaaGreatDoorIk
/- What HeadCuts asks: maths; the laws' count of points. -/
namespace Go.Proofs.YtpabbmiibehfjaaGreatDoor
open Go.RowKit Go.Maps
set_option linter.unusedVariables false
set_option maxRecDepth 20000

theorem keepS_cong {f g : Pt → Bool} {S : List Ser} (h : ∀ s ∈ S, ∀ p ∈ s.2, f p = g p) : keepS f S = keepS g S := by
  unfold keepS
  induction S with
  | nil => rfl
  | cons s r ih =>
    rw [List.filterMap_cons, List.filterMap_cons, ih (fun t ht => h t (List.mem_cons_of_mem _ ht)), List.filter_congr (h s (List.mem_cons_self ..))]
theorem keepS_all {f : Pt → Bool} {S : List Ser} (hn : ∀ s ∈ S, s.2 ≠ []) (h : ∀ s ∈ S, ∀ p ∈ s.2, f p = true) : keepS f S = S := by
  unfold keepS
  induction S with
  | nil => rfl
  | cons s r ih =>
    have hs := h s (List.mem_cons_self ..)
    rw [List.filterMap_cons, ih (fun t ht => hn t (List.mem_cons_of_mem _ ht)) (fun t ht => h t (List.mem_cons_of_mem _ ht)), List.filter_eq_self.2 hs, if_neg (by simpa using hn s (List.mem_cons_self ..))]
theorem keepS_none {f : Pt → Bool} {S : List Ser} (h : ∀ s ∈ S, ∀ p ∈ s.2, f p = false) : keepS f S = [] := by
  unfold keepS
  rw [List.filterMap_eq_nil_iff]
  intro s hs
  rw [List.filter_eq_nil_iff.2 (fun p hp => by simp [h s hs p hp])]
  rfl
theorem good_all {S : List Ser} (h : Good S) : keepS (within (-1099511627776) 1099511627776) S = S :=
  keepS_all h.some (fun s hs p hp => by
    have h1 := (h.rise s hs).lo p hp
    have h2 := (h.rise s hs).hi p hp
    simp [within]
    omega)
theorem good_below {S : List Ser} (h : Good S) (b : Int) : keepS (within (-1099511627776) (b - 1)) S = keepS (lowT b) S :=
  keepS_cong (fun s hs p hp => by
    have h1 := (h.rise s hs).lo p hp
    have h2 := (h.rise s hs).hi p hp
    simp only [within, lowT, decide_eq_true h1, Bool.true_and, decide_eq_decide]
    omega)
theorem good_above {S : List Ser} (h : Good S) (b : Int) : keepS (within b 1099511627776) S = keepS (highT b) S :=
  keepS_cong (fun s hs p hp => by
    have h2 := (h.rise s hs).hi p hp
    simp only [within, highT, decide_eq_true h2, Bool.and_true])
theorem good_low0 {S : List Ser} (h : Good S) {b : Int} (hb : b ≤ -1099511627776) : keepS (lowT b) S = [] :=
  keepS_none (fun s hs p hp => by
    have h1 := (h.rise s hs).lo p hp
    simp only [lowT, decide_eq_false_iff_not]
    omega)
theorem good_high0 {S : List Ser} (h : Good S) {b : Int} (hb : b ≤ -1099511627776) : keepS (highT b) S = S :=
  keepS_all h.some (fun s hs p hp => by
    have h1 := (h.rise s hs).lo p hp
    simp only [highT, decide_eq_true_eq]
    omega)
theorem low_high (b : Int) (S : List Ser) : keepS (lowT b) (keepS (highT b) S) = [] :=
  keepS_none (fun s hs p hp => by
    obtain ⟨t, _, _, rfl⟩ := keepS_mem.1 hs
    have := (List.mem_filter.1 hp).2
    simp only [highT, decide_eq_true_eq] at this
    simp only [lowT, decide_eq_false_iff_not]
    omega)
theorem pts_keep (f : Pt → Bool) (S : List Ser) : ptsN (keepS f S) = (S.map fun s => (s.2.filter f).length).sum := by
  unfold ptsN keepS
  induction S with
  | nil => rfl
  | cons s r ih =>
    rw [List.filterMap_cons, List.map_cons, List.sum_cons]
    by_cases hs : (s.2.filter f).isEmpty = true
    · rw [if_pos hs]
      simp only
      rw [ih, List.isEmpty_iff.1 hs]
      simp
    · rw [if_neg hs]
      simp only
      rw [List.map_cons, List.sum_cons, ih]
theorem pts_cut (b : Int) (S : List Ser) : ptsN (keepS (lowT b) S) + ptsN (keepS (highT b) S) = ptsN S := by
  rw [pts_keep, pts_keep]
  unfold ptsN
  induction S with
  | nil => rfl
  | cons s r ih =>
    rw [List.map_cons, List.map_cons, List.map_cons, List.sum_cons, List.sum_cons, List.sum_cons, ← ih]
    have : (s.2.filter (lowT b)).length + (s.2.filter (highT b)).length = s.2.length := by
      rw [show s.2.filter (highT b) = s.2.filter (fun p => !lowT b p) from List.filter_congr (fun p _ => by
        by_cases h : p.1 < b
        · simp [lowT, highT, h]
        · simp [lowT, highT, h]; omega)]
      induction s.2 with
      | nil => rfl
      | cons p q ih => cases h : lowT b p <;> simp [h] <;> omega
    omega
set_option maxHeartbeats 1000000 in
theorem h_points (a : Option Addr) (raw : List (Sv × Sv)) (S : List Ser) (c : Nat) (w : World) (hr : SerRd w a raw S) (hz : S.length ≤ 1024) (hP : ∀ s ∈ S, s.2.length ≤ 8796093022207) :
    Calls Tryz.prog 19 #[.slice a S.length c] w fun e w' => e = .returned (.int .i64 (ptsN S)) ∧ w = w' := by
  have HR : Hid (SerRd w a raw S) := hr
  have HB : Hid (∀ k, ptsN (S.take k) ≤ 9007199254739968) := fun k => by
    have a1 := ptsN_le (S := S.take k) (P := 8796093022207) (fun s hs => hP s (List.mem_of_mem_take hs))
    have a2 : (S.take k).length * 8796093022207 ≤ 1024 * 8796093022207 := Nat.mul_le_mul (by rw [List.length_take]; omega) (Nat.le_refl _)
    omega
  have HT : Hid (S.take S.length = S) := List.take_length
  obtain ⟨M, eM⟩ : ∃ M, M = S.length := ⟨_, rfl⟩
  have EM : Hid (M = S.length) := eM
  rw [← eM] at hz HT ⊢
  clear hr hP eM
  go_enter Tryz.func19, Tryz.ntmps19
  go_wp2
  go_loopw [3, 4] (fun t i wr => ∃ k : Nat, k ≤ M ∧ i = .int .i64 k ∧ t = .int .i64 (ptsN (S.take k)) ∧ wr = w) (fun _ i _ => M - (intOf i).toNat)
  case atStart => exact ⟨0, Nat.zero_le _, rfl, by simp [ptsN], rfl⟩
  case round =>
    obtain ⟨k, hk, rfl, rfl, rfl⟩ := hrel
    by_cases hlt : k < M
    · have hi : (k : Int) < (M : Int) := by omega
      obtain ⟨s, hs⟩ : ∃ s, S[k]? = some s := ⟨_, List.getElem?_eq_getElem (by have := EM.out; omega)⟩
      obtain ⟨b, off, la, lc, pa, pc, rfl, c0, c1, _, _⟩ := ser_cells HR.out hs
      have hsum := ptsN_take hs
      have hb1 := HB.out (k + 1)
      have HSUM : Hid (ptsN (S.take (k + 1)) = ptsN (S.take k) + s.2.length) := hsum
      rw [hsum] at hb1
      generalize ptsN (S.take k) = q at hb1 HSUM ⊢
      generalize s.2.length = m at hb1 HSUM c1 ⊢
      clear hs hsum c0
      go_wp2
      go_roundw
      case rel => exact ⟨k + 1, by omega, by go_num, by rw [HSUM.out]; go_num, by trivial⟩
      case measure => simp [intOf]; omega
    · obtain rfl : k = M := by omega
      have hi : ¬ (k : Int) < (k : Int) := by omega
      rw [HT.out]
      go_wp2
      go_ret
      exact ⟨rfl, rfl⟩
/-- Select of all sets, by a head that the law made. -/
theorem selectR {w wr : World} {hb lim N P : Nat} {S : List Ser} {B : Nat → Prop} (f t : Int) (h : RunAt w wr hb lim N P S B) (hP : P ≤ 8796093022206) :
    Calls Tryz.prog 12 #[.pointer (some ⟨hb, 0, none⟩), .slice none 0 0, .int .i64 f, .int .i64 t] wr fun e w' => ∃ a c, e = .returned (.slice a (keepS (within f t) S).length c) ∧ SerOut w' (fun k => ¬ B k) (.slice a (keepS (within f t) S).length c) (keepS (within f t) S) ∧ RunAt w w' hb lim N P S B ∧ wr.grownBy w' none := by
  refine (h_select w.heap.size hb lim N P S B f t wr h.head hP).mono ?_
  rintro e w' ⟨v, rfl, ho, hg⟩
  have ho' : SerOut w' (fun k => ¬ B k) v (keepS (within f t) S) := ho.stay (fun k _ _ => rfl) (fun k hk hB => by have := (h.head.blocks k hB).2; omega)
  obtain ⟨a, c, raw, rfl, _⟩ := ho.read
  exact ⟨a, c, rfl, ho', h.grew hg, hg⟩
end Go.Proofs.YtpabbmiibehfjaaGreatDoor

/- HeadCuts. -/
namespace Go.Proofs.YtpabbmiibehfjaaGreatDoor
open Go.RowKit Go.Maps
set_option linter.unusedVariables false
set_option maxRecDepth 20000

theorem lim1024 : limR 1024 = 1024 := by decide
/-- Lists that are handed out by a head: two of them are held against one another. -/
theorem same_of {w : World} {X Y : Nat → Prop} {a b : Option Addr} {c d L M : Nat} {S T : List Ser} (hx : SerOut w X (.slice a L c) S) (hy : SerOut w Y (.slice b M d) T) (hz : S.length ≤ 1024) (hz2 : ∀ s ∈ S, s.1.length ≤ 4398046511104 ∧ s.2.length ≤ 8796093022208) :
    Calls Tryz.prog 11 #[.slice a L c, .slice b M d] w fun e w' => e = .returned (.bool (decide (S = T))) ∧ w.grownBy w' none := by
  obtain ⟨a1, c1, r1, e1, h1⟩ := hx.read
  obtain ⟨a2, c2, r2, e2, h2⟩ := hy.read
  simp only [Value.slice.injEq] at e1 e2
  obtain ⟨rfl, rfl, rfl⟩ := e1
  obtain ⟨rfl, rfl, rfl⟩ := e2
  exact hsame a b r1 r2 S T c d w h1 h2 (by omega) hz2
theorem points_of {w : World} {X : Nat → Prop} {a : Option Addr} {c L : Nat} {S : List Ser} (hx : SerOut w X (.slice a L c) S) (hz : S.length ≤ 1024) (hP : ∀ s ∈ S, s.2.length ≤ 8796093022207) :
    Calls Tryz.prog 19 #[.slice a L c] w fun e w' => e = .returned (.int .i64 (ptsN S)) ∧ w = w' := by
  obtain ⟨a1, c1, r1, e1, h1⟩ := hx.read
  simp only [Value.slice.injEq] at e1
  obtain ⟨rfl, rfl, rfl⟩ := e1
  exact h_points a r1 S c w h1 hz hP
/-- A head's series: each is small. -/
theorem run_small {w wr : World} {hb lim N P : Nat} {S : List Ser} {B : Nat → Prop} (h : RunAt w wr hb lim N P S B) (hP : P ≤ 8796093022206) : Good S ∧ S.length ≤ 1024 ∧ ∀ s ∈ S, s.1.length ≤ 16 ∧ s.2.length ≤ 8796093022206 := by
  obtain ⟨m1, m2, n, es, h1, h2, h3, h4, h5, h6, h7⟩ := h.head
  exact ⟨h4, by omega, fun s hs => ⟨ok_len (h4.ok s hs), Nat.le_trans (h7 s hs) hP⟩⟩
theorem keep_small {S : List Ser} (f : Pt → Bool) (h : ∀ s ∈ S, s.1.length ≤ 16 ∧ s.2.length ≤ 8796093022206) : ∀ s ∈ keepS f S, s.1.length ≤ 16 ∧ s.2.length ≤ 8796093022206 := fun s hs => by
  obtain ⟨t, ht, _, rfl⟩ := keepS_mem.1 hs
  exact ⟨(h t ht).1, Nat.le_trans (List.length_filter_le _ _) (h t ht).2⟩
theorem pts_bd {S : List Ser} (hz : S.length ≤ 1024) (h : ∀ s ∈ S, s.1.length ≤ 16 ∧ s.2.length ≤ 8796093022206) : ptsN S ≤ 9007199254739968 := by
  have a1 := ptsN_le (S := S) (P := 8796093022206) (fun s hs => (h s hs).2)
  have a2 : S.length * 8796093022206 ≤ 1024 * 8796093022206 := Nat.mul_le_mul hz (Nat.le_refl _)
  omega
/-- What stands ahead of the answer. -/
structure CutsAt (w wr : World) (hb N P : Nat) (S : List Ser) (b : Int) (B : Nat → Prop) (all got low high left : Sv) : Prop where
  run : RunAt w wr hb 1024 N P (keepS (highT b) S) B
  good : Good S
  len : S.length ≤ 1024
  small : ∀ s ∈ S, s.1.length ≤ 16 ∧ s.2.length ≤ 8796093022206
  all : ∃ X, SerOut wr X (svV all) S
  got : ∃ X, SerOut wr X (svV got) (keepS (lowT b) S)
  low : ∃ X, SerOut wr X (svV low) (keepS (lowT b) S)
  high : ∃ X, SerOut wr X (svV high) (keepS (highT b) S)
  left : ∃ X, SerOut wr X (svV left) (keepS (highT b) S)
theorem CutsAt.grown {w wr w' : World} {hb N P : Nat} {S : List Ser} {b : Int} {B : Nat → Prop} {all got low high left : Sv} (h : CutsAt w wr hb N P S b B all got low high left) (hg : wr.grownBy w' none) : CutsAt w w' hb N P S b B all got low high left := by
  obtain ⟨r, g, l, s, ⟨X1, h1⟩, ⟨X2, h2⟩, ⟨X3, h3⟩, ⟨X4, h4⟩, ⟨X5, h5⟩⟩ := h
  exact ⟨r.grew hg, g, l, s, ⟨X1, h1.grown hg⟩, ⟨X2, h2.grown hg⟩, ⟨X3, h3.grown hg⟩, ⟨X4, h4.grown hg⟩, ⟨X5, h5.grown hg⟩⟩
section
variable {w wr : World} {hb N P : Nat} {S : List Ser} {b : Int} {B : Nat → Prop} {a1 a2 a3 a4 a5 : Option Addr} {l1 l2 l3 l4 l5 c1 c2 c3 c4 c5 : Nat}
theorem CutsAt.same1 (h : CutsAt w wr hb N P S b B (a1, l1, c1) (a2, l2, c2) (a3, l3, c3) (a4, l4, c4) (a5, l5, c5)) :
    Calls Tryz.prog 11 #[.slice a2 l2 c2, .slice a3 l3 c3] wr fun e w' => e = .returned (.bool true) ∧ CutsAt w w' hb N P S b B (a1, l1, c1) (a2, l2, c2) (a3, l3, c3) (a4, l4, c4) (a5, l5, c5) := by
  obtain ⟨X, h2⟩ := h.got
  obtain ⟨Y, h3⟩ := h.low
  have hs := keep_small (lowT b) h.small
  refine (same_of h2 h3 (Nat.le_trans (keepS_len _ _) h.len) (fun s m => ⟨by have := (hs s m).1; omega, by have := (hs s m).2; omega⟩)).mono ?_
  rintro e w' ⟨rfl, hg⟩
  exact ⟨by simp, h.grown hg⟩
theorem CutsAt.same2 (h : CutsAt w wr hb N P S b B (a1, l1, c1) (a2, l2, c2) (a3, l3, c3) (a4, l4, c4) (a5, l5, c5)) :
    Calls Tryz.prog 11 #[.slice a5 l5 c5, .slice a4 l4 c4] wr fun e w' => e = .returned (.bool true) ∧ CutsAt w w' hb N P S b B (a1, l1, c1) (a2, l2, c2) (a3, l3, c3) (a4, l4, c4) (a5, l5, c5) := by
  obtain ⟨X, h2⟩ := h.left
  obtain ⟨Y, h3⟩ := h.high
  have hs := keep_small (highT b) h.small
  refine (same_of h2 h3 (Nat.le_trans (keepS_len _ _) h.len) (fun s m => ⟨by have := (hs s m).1; omega, by have := (hs s m).2; omega⟩)).mono ?_
  rintro e w' ⟨rfl, hg⟩
  exact ⟨by simp, h.grown hg⟩
theorem CutsAt.pts1 (h : CutsAt w wr hb N P S b B (a1, l1, c1) (a2, l2, c2) (a3, l3, c3) (a4, l4, c4) (a5, l5, c5)) :
    Calls Tryz.prog 19 #[.slice a2 l2 c2] wr fun e w' => e = .returned (.int .i64 (ptsN (keepS (lowT b) S))) ∧ wr = w' := by
  obtain ⟨X, h2⟩ := h.got
  exact points_of h2 (Nat.le_trans (keepS_len _ _) h.len) (fun s m => by have := (keep_small (lowT b) h.small s m).2; omega)
theorem CutsAt.pts2 (h : CutsAt w wr hb N P S b B (a1, l1, c1) (a2, l2, c2) (a3, l3, c3) (a4, l4, c4) (a5, l5, c5)) :
    Calls Tryz.prog 19 #[.slice a5 l5 c5] wr fun e w' => e = .returned (.int .i64 (ptsN (keepS (highT b) S))) ∧ wr = w' := by
  obtain ⟨X, h2⟩ := h.left
  exact points_of h2 (Nat.le_trans (keepS_len _ _) h.len) (fun s m => by have := (keep_small (highT b) h.small s m).2; omega)
theorem CutsAt.pts3 (h : CutsAt w wr hb N P S b B (a1, l1, c1) (a2, l2, c2) (a3, l3, c3) (a4, l4, c4) (a5, l5, c5)) :
    Calls Tryz.prog 19 #[.slice a1 l1 c1] wr fun e w' => e = .returned (.int .i64 (ptsN S)) ∧ wr = w' := by
  obtain ⟨X, h2⟩ := h.all
  exact points_of h2 h.len (fun s m => by have := (h.small s m).2; omega)
theorem CutsAt.again (h : CutsAt w wr hb N P S b B (a1, l1, c1) (a2, l2, c2) (a3, l3, c3) (a4, l4, c4) (a5, l5, c5)) (hP : P ≤ 8796093022206) (hN : N + 20000 < 9223372036854775807) :
    Calls Tryz.prog 18 #[.pointer (some ⟨hb, 0, none⟩), .int .i64 b] wr fun e w' => ∃ a c, e = .returned (.slice a 0 c) ∧ w.grownBy w' none := by
  refine (h_cut w.heap.size hb 1024 N P _ B b wr h.run.head hP hN).mono ?_
  rintro e w' ⟨v, X, B2, rfl, ho, hh, hst, _⟩
  rw [low_high] at ho
  obtain ⟨a, c, raw, rfl, _⟩ := ho.read
  exact ⟨a, c, rfl, (h.run.step hst hh).grown⟩
end
theorem out_cut {w w' : World} {B B' : Nat → Prop} {v : Value} {S : List Ser} (h : SerOut w (fun k => ¬ B k) v S) (hs : Step w w' B B') : ∃ X, SerOut w' X v S := ⟨_, h.kept hs.1 (fun k hk => hk)⟩
theorem out_grown {w w' : World} {v : Value} {S : List Ser} (h : ∃ X, SerOut w X v S) (hg : w.grownBy w' none) : ∃ X, SerOut w' X v S := by
  obtain ⟨X, h⟩ := h
  exact ⟨X, h.grown hg⟩
end Go.Proofs.YtpabbmiibehfjaaGreatDoor

