/- Several texts in one: Hx, Hy. -/
import Derived.Test.YtpabbmiibehfjaaGreatDoorGn
/- Package head: New, Count. -/
namespace Go.Proofs.YtpabbmiibehfjaaGreatDoor
open Go.RowKit Go.Maps
set_option linter.unusedVariables false
set_option maxRecDepth 20000

theorem isz66 : (Tryz.prog.info? 66).map (·.size) = some 2 := by kernel_rfl
set_option maxHeartbeats 1000000 in
theorem h_table (w : World) : Calls Tryz.prog 23 #[] w fun e w' => ∃ m1 m2, e = .returned (.agg #[.map (some m1), .map (some m2)]) ∧ MapG serM w' m1 0 (fun _ => none) ∧ MapG posM w' m2 0 (fun _ => none) ∧ m1 ≠ m2 ∧ w.heap.size ≤ m1 ∧ w.heap.size ≤ m2 ∧ w.grownBy w' none := by
  have hmm := @run_makeMap Tryz.prog
  go_enter Tryz.func23, Tryz.ntmps23
  go_wp2
  clear hmm
  have s1 : (w.alloc (.cells #[.map (some (w.heap.size + 1)), .map (some (w.heap.size + 1 + 1))] 66)).heap.size = w.heap.size + 1 := Array.size_push _
  have s2 : ((w.alloc (.cells #[.map (some (w.heap.size + 1)), .map (some (w.heap.size + 1 + 1))] 66)).alloc (.map #[] 0)).heap.size = w.heap.size + 1 + 1 := by rw [show ((w.alloc (.cells #[.map (some (w.heap.size + 1)), .map (some (w.heap.size + 1 + 1))] 66)).alloc (.map #[] 0)).heap.size = (w.alloc (.cells #[.map (some (w.heap.size + 1)), .map (some (w.heap.size + 1 + 1))] 66)).heap.size + 1 from Array.size_push _, s1]
  have b1 := heap_alloc_new w (.cells #[.map (some (w.heap.size + 1)), .map (some (w.heap.size + 1 + 1))] 66)
  have M1 := mapG_made serM (w.alloc (.cells #[.map (some (w.heap.size + 1)), .map (some (w.heap.size + 1 + 1))] 66))
  have M2 := mapG_made posM ((w.alloc (.cells #[.map (some (w.heap.size + 1)), .map (some (w.heap.size + 1 + 1))] 66)).alloc (.map #[] 0))
  have G0 := World.grownBy_alloc w (.cells #[.map (some (w.heap.size + 1)), .map (some (w.heap.size + 1 + 1))] 66) none
  rw [s1] at M1
  rw [s2] at M2
  generalize w.alloc (.cells #[.map (some (w.heap.size + 1)), .map (some (w.heap.size + 1 + 1))] 66) = w1 at s1 s2 b1 M1 M2 G0 ⊢
  have G1 := World.grownBy_alloc w1 (.map #[] 0) none
  have G2 := World.grownBy_alloc (w1.alloc (.map #[] 0)) (.map #[] 0) none
  refine bodyPost_ret (v := .agg #[.map (some (w.heap.size + 1)), .map (some (w.heap.size + 1 + 1))]) (results_cell_row Tryz.results23 _ _ w.heap.size 66 _ (0, 0) _ rfl ?_ Tryz.underlying66 rfl isz66) rfl ⟨_, _, rfl, mapG_kept serM M1 G2 (by simp), M2, by omega, by omega, by omega, (G0.trans G1).trans G2⟩
  rw [G2.block w.heap.size (by omega) (by simp), G1.block w.heap.size (by omega) (by simp)]
  exact b1
theorem lim_bd (x : Int) : ∃ n : Nat, n ≤ 1024 ∧ min (max x 0) 1024 = (n : Int) ∧ n = (min (max x 0) 1024).toNat := ⟨(min (max x 0) 1024).toNat, by omega, by omega, rfl⟩
def limR (x : Int) : Nat := (min (max x 0) 1024).toNat
set_option maxHeartbeats 1000000 in
theorem h_new (base : Nat) (x : Int) (w : World) (hb : base ≤ w.heap.size) : Calls Tryz.prog 8 #[.int .i64 x] w fun e w' => ∃ hb B, e = .returned (.pointer (some ⟨hb, 0, none⟩)) ∧ HeadAt w' base hb (limR x) 0 0 [] B ∧ w.grownBy w' none ∧ ∀ k, B k → w.heap.size ≤ k := by
  have HT := h_table w
  have HB : Hid (base ≤ w.heap.size) := hb
  have hl : min (max x 0) 1024 = (limR x : Int) := by unfold limR; omega
  have HL : Hid (limR x ≤ 1024) := by show _ ≤ _; unfold limR; omega
  generalize limR x = lim at hl HL ⊢
  clear hb
  have h3 : (x < 0 ∧ lim = 0) ∨ (x = (lim : Int)) ∨ (1024 < x ∧ lim = 1024) := by omega
  clear hl
  rcases h3 with ⟨hx0, rfl⟩ | rfl | ⟨hx0, rfl⟩
  · have q1 : ¬ (0 : Int) ≤ x := by omega
    go_enter Tryz.func8, Tryz.ntmps8
    go_wp2_with fail
    refine HT.mono ?_
    rintro e w1 ⟨m1, m2, rfl, hM1, hM2, hne, h1, h2, hg⟩
    have HH : Hid (HeadAt (w1.alloc (.cells #[.map (some m1), .map (some m2), .int .i64 (0 : Nat)] 69)) base w1.heap.size 0 0 0 [] (fun k => k = w1.heap.size ∨ k = m1 ∨ k = m2)) := by
      have ga := World.grownBy_alloc w1 (.cells #[.map (some m1), .map (some m2), .int .i64 (0 : Nat)] 69) none
      have l1 := mapG_lt serM hM1
      have l2 := mapG_lt posM hM2
      have b0 := HB.out
      have sz : (w1.alloc (.cells #[.map (some m1), .map (some m2), .int .i64 (0 : Nat)] 69)).heap.size = w1.heap.size + 1 := Array.size_push _
      have hsz := hg.size
      refine ⟨m1, m2, 0, [], ⟨?_, mapG_kept serM hM1 ga (by simp), ⟨fun _ => none, mapG_kept posM hM2 ga (by simp), .inr (.inr rfl), (fun l s _ h => by cases h), (fun l _ _ => rfl), (fun l l' s s' _ _ _ h => by cases h)⟩, by simp, by simp, List.Pairwise.nil, List.Pairwise.nil, hne, ⟨.inl rfl, .inr (.inl rfl), by simp⟩, fun k hk => ?_, by omega, by simp⟩, Nat.le_refl _, rfl, Good.nil, Nat.zero_le _, HL.out, by simp⟩
      · exact World.rowIs_alloc w1 #[.map (some m1), .map (some m2), .int .i64 (0 : Nat)] 69 _ (fun i hi => by
          match i, hi with
          | 0, _ => rfl
          | 1, _ => rfl
          | 2, _ => rfl)
      · rw [sz]
        rcases hk with rfl | rfl | rfl <;> omega
    have HG : Hid (w.grownBy (w1.alloc (.cells #[.map (some m1), .map (some m2), .int .i64 (0 : Nat)] 69)) none) := hg.trans (World.grownBy_alloc w1 _ none)
    have HK : Hid (∀ k, (k = w1.heap.size ∨ k = m1 ∨ k = m2) → w.heap.size ≤ k) := by
      intro k hk
      have := hg.size
      rcases hk with rfl | rfl | rfl <;> omega
    clear hM1 hM2 hne h1 h2 hg HT
    go_wp2
    all_goals go_ret
    all_goals exact ⟨_, _, rfl, HH.out, HG.out, HK.out⟩
  · have q1 : (lim : Int) ≤ 1024 := by have := HL.out; omega
    go_enter Tryz.func8, Tryz.ntmps8
    go_wp2_with fail
    refine HT.mono ?_
    rintro e w1 ⟨m1, m2, rfl, hM1, hM2, hne, h1, h2, hg⟩
    have HH : Hid (HeadAt (w1.alloc (.cells #[.map (some m1), .map (some m2), .int .i64 lim] 69)) base w1.heap.size lim 0 0 [] (fun k => k = w1.heap.size ∨ k = m1 ∨ k = m2)) := by
      have ga := World.grownBy_alloc w1 (.cells #[.map (some m1), .map (some m2), .int .i64 lim] 69) none
      have l1 := mapG_lt serM hM1
      have l2 := mapG_lt posM hM2
      have b0 := HB.out
      have sz : (w1.alloc (.cells #[.map (some m1), .map (some m2), .int .i64 lim] 69)).heap.size = w1.heap.size + 1 := Array.size_push _
      have hsz := hg.size
      refine ⟨m1, m2, 0, [], ⟨?_, mapG_kept serM hM1 ga (by simp), ⟨fun _ => none, mapG_kept posM hM2 ga (by simp), .inr (.inr rfl), (fun l s _ h => by cases h), (fun l _ _ => rfl), (fun l l' s s' _ _ _ h => by cases h)⟩, by simp, by simp, List.Pairwise.nil, List.Pairwise.nil, hne, ⟨.inl rfl, .inr (.inl rfl), by simp⟩, fun k hk => ?_, by omega, by simp⟩, Nat.le_refl _, rfl, Good.nil, Nat.zero_le _, HL.out, by simp⟩
      · exact World.rowIs_alloc w1 #[.map (some m1), .map (some m2), .int .i64 lim] 69 _ (fun i hi => by
          match i, hi with
          | 0, _ => rfl
          | 1, _ => rfl
          | 2, _ => rfl)
      · rw [sz]
        rcases hk with rfl | rfl | rfl <;> omega
    have HG : Hid (w.grownBy (w1.alloc (.cells #[.map (some m1), .map (some m2), .int .i64 lim] 69)) none) := hg.trans (World.grownBy_alloc w1 _ none)
    have HK : Hid (∀ k, (k = w1.heap.size ∨ k = m1 ∨ k = m2) → w.heap.size ≤ k) := by
      intro k hk
      have := hg.size
      rcases hk with rfl | rfl | rfl <;> omega
    clear hM1 hM2 hne h1 h2 hg HT
    go_wp2
    all_goals go_ret
    all_goals exact ⟨_, _, rfl, HH.out, HG.out, HK.out⟩
  · have q1 : ¬ x ≤ 1024 := by omega
    have q2 : ¬ x ≤ 0 := by omega
    go_enter Tryz.func8, Tryz.ntmps8
    go_wp2_with fail
    refine HT.mono ?_
    rintro e w1 ⟨m1, m2, rfl, hM1, hM2, hne, h1, h2, hg⟩
    have HH : Hid (HeadAt (w1.alloc (.cells #[.map (some m1), .map (some m2), .int .i64 (1024 : Nat)] 69)) base w1.heap.size 1024 0 0 [] (fun k => k = w1.heap.size ∨ k = m1 ∨ k = m2)) := by
      have ga := World.grownBy_alloc w1 (.cells #[.map (some m1), .map (some m2), .int .i64 (1024 : Nat)] 69) none
      have l1 := mapG_lt serM hM1
      have l2 := mapG_lt posM hM2
      have b0 := HB.out
      have sz : (w1.alloc (.cells #[.map (some m1), .map (some m2), .int .i64 (1024 : Nat)] 69)).heap.size = w1.heap.size + 1 := Array.size_push _
      have hsz := hg.size
      refine ⟨m1, m2, 0, [], ⟨?_, mapG_kept serM hM1 ga (by simp), ⟨fun _ => none, mapG_kept posM hM2 ga (by simp), .inr (.inr rfl), (fun l s _ h => by cases h), (fun l _ _ => rfl), (fun l l' s s' _ _ _ h => by cases h)⟩, by simp, by simp, List.Pairwise.nil, List.Pairwise.nil, hne, ⟨.inl rfl, .inr (.inl rfl), by simp⟩, fun k hk => ?_, by omega, by simp⟩, Nat.le_refl _, rfl, Good.nil, Nat.zero_le _, HL.out, by simp⟩
      · exact World.rowIs_alloc w1 #[.map (some m1), .map (some m2), .int .i64 (1024 : Nat)] 69 _ (fun i hi => by
          match i, hi with
          | 0, _ => rfl
          | 1, _ => rfl
          | 2, _ => rfl)
      · rw [sz]
        rcases hk with rfl | rfl | rfl <;> omega
    have HG : Hid (w.grownBy (w1.alloc (.cells #[.map (some m1), .map (some m2), .int .i64 (1024 : Nat)] 69)) none) := hg.trans (World.grownBy_alloc w1 _ none)
    have HK : Hid (∀ k, (k = w1.heap.size ∨ k = m1 ∨ k = m2) → w.heap.size ≤ k) := by
      intro k hk
      have := hg.size
      rcases hk with rfl | rfl | rfl <;> omega
    clear hM1 hM2 hne h1 h2 hg HT
    go_wp2
    all_goals go_ret
    all_goals exact ⟨_, _, rfl, HH.out, HG.out, HK.out⟩
end Go.Proofs.YtpabbmiibehfjaaGreatDoor

/- Package head: Count, Span. -/
namespace Go.Proofs.YtpabbmiibehfjaaGreatDoor
open Go.RowKit Go.Maps
set_option linter.unusedVariables false
set_option maxRecDepth 20000

/-- How many points. -/
def ptsN (S : List Ser) : Nat := (S.map fun s => s.2.length).sum
theorem ptsN_take {S : List Ser} {k : Nat} {s : Ser} (h : S[k]? = some s) : ptsN (S.take (k + 1)) = ptsN (S.take k) + s.2.length := by
  unfold ptsN
  rw [List.take_add_one, h, List.map_append, List.sum_append]
  simp
theorem ptsN_le {S : List Ser} {P : Nat} (h : ∀ s ∈ S, s.2.length ≤ P) : ptsN S ≤ S.length * P := by
  unfold ptsN
  induction S with
  | nil => simp
  | cons s r ih =>
    have h1 := h s (by simp)
    have h2 := ih (fun t ht => h t (by simp [ht]))
    rw [List.map_cons, List.sum_cons, List.length_cons, Nat.succ_mul]
    omega
theorem ent_at {es : List Ent} {S : List Ser} (hS : es.map entS = S) {k : Nat} {e : Ent} (h : es[k]? = some e) : S[k]? = some (e.ls, e.ps) := by
  rw [← hS, List.getElem?_map, h]
  rfl
set_option maxHeartbeats 2000000 in
theorem h_count (base hb lim N P : Nat) (S : List Ser) (B : Nat → Prop) (w : World) (h : HeadAt w base hb lim N P S B) (hP : P ≤ 8796093022207) :
    Calls Tryz.prog 16 #[.pointer (some ⟨hb, 0, none⟩)] w fun e w' => e = .returned (.tuple #[.int .i64 S.length, .int .i64 (ptsN S)]) ∧ w = w' := by
  obtain ⟨m1, m2, n, es, h1, h2, h3, h4, h5, h6, h7⟩ := h
  have HA : Hid (Calls Tryz.prog 44 #[.pointer (some ⟨hb, 0, none⟩)] w fun e w' => ∃ a c, e = .returned (.slice a es.length c) ∧ SRd ptsE w a (es.map (·.p)) ∧ w = w') := h_all base hb m1 m2 lim n es B w h1
  have hlen : es.length = S.length := by rw [← h3, List.length_map]
  have HB : Hid (∀ k, ptsN (S.take k) ≤ 9007199254739968) := fun k => by
    have a1 := ptsN_le (S := S.take k) (P := P) (fun s hs => h7 s (List.mem_of_mem_take hs))
    have a2 : (S.take k).length * P ≤ 1024 * 8796093022207 := Nat.mul_le_mul (by rw [List.length_take]; omega) hP
    omega
  have HE : Hid (∀ (k : Nat) (e : Ent), es[k]? = some e → w.cell? ⟨e.p, 1, none⟩ = some (.slice e.pa e.ps.length e.pc) ∧ ptsN (S.take (k + 1)) = ptsN (S.take k) + e.ps.length) := fun k e he => ⟨((h1.ent e (List.mem_of_getElem? he)).cells).2, ptsN_take (ent_at h3 he)⟩
  have HEL : Hid (es.length = S.length) := hlen
  have hM : S.length ≤ 1024 := by omega
  have HT : Hid (S.take S.length = S) := List.take_length
  rw [hlen] at HA
  generalize S.length = M at HA HEL hM HT ⊢
  clear h1 h2 h3 h4 h5 h6 h7 hlen
  go_enter Tryz.func16, Tryz.ntmps16
  go_wp2_with fail
  refine HA.out.mono ?_
  rintro e w1 ⟨a, c, rfl, hr, rfl⟩
  have HR : Hid (SRd ptsE w a (es.map (·.p))) := hr
  clear hr
  go_wp2
  go_loopw [4, 12] (fun t i wr => ∃ k : Nat, k ≤ M ∧ i = .int .i64 k ∧ t = .int .i64 (ptsN (S.take k)) ∧ wr = w) (fun _ i _ => M - (intOf i).toNat)
  case atStart => exact ⟨0, Nat.zero_le _, rfl, by simp [ptsN], rfl⟩
  case round =>
    obtain ⟨k, hk, rfl, rfl, rfl⟩ := hrel
    by_cases hlt : k < M
    · have hi : (k : Int) < (M : Int) := by omega
      obtain ⟨e, he⟩ : ∃ e, es[k]? = some e := ⟨_, List.getElem?_eq_getElem (by have := HEL.out; omega)⟩
      obtain ⟨b, off, rfl, hc⟩ := ptr_cell (i := k) (p := e.p) HR.out (by rw [List.getElem?_map, he]; rfl)
      obtain ⟨c1, hsum⟩ := HE.out k e he
      have hb1 := HB.out (k + 1)
      have HSUM : Hid (ptsN (S.take (k + 1)) = ptsN (S.take k) + e.ps.length) := hsum
      rw [hsum] at hb1
      generalize ptsN (S.take k) = q at hb1 HSUM ⊢
      generalize e.ps.length = m at hb1 HSUM c1 ⊢
      clear he hsum
      go_wp2
      go_roundw
      case rel => exact ⟨k + 1, by omega, by go_num, by rw [HSUM.out]; go_num, by trivial⟩
      case measure => simp [intOf]; omega
    · obtain rfl : k = M := by omega
      have hi : ¬ (k : Int) < (k : Int) := by omega
      rw [HT.out]
      go_wp2_with fail
      refine HA.out.mono ?_
      rintro e w1 ⟨a', c', rfl, _, rfl⟩
      go_wp2
      go_ret2
      exact ⟨rfl, rfl⟩
def loS (S : List Ser) : Int := S.foldl (fun m s => min m (s.2.headD (0, 0)).1) 1099511627776
def hiS (S : List Ser) : Int := S.foldl (fun m s => max m (s.2.getLastD (0, 0)).1) (-1099511627776)
theorem headD_at {ps : List Pt} (h : ps ≠ []) : ps[0]? = some (ps.headD (0, 0)) := by
  cases ps with
  | nil => exact absurd rfl h
  | cons p r => rfl
theorem loS_take {S : List Ser} {k : Nat} {s : Ser} (h : S[k]? = some s) : loS (S.take (k + 1)) = min (loS (S.take k)) (s.2.headD (0, 0)).1 := by
  unfold loS
  rw [List.take_add_one, h, List.foldl_append]
  rfl
theorem hiS_take {S : List Ser} {k : Nat} {s : Ser} (h : S[k]? = some s) : hiS (S.take (k + 1)) = max (hiS (S.take k)) (s.2.getLastD (0, 0)).1 := by
  unfold hiS
  rw [List.take_add_one, h, List.foldl_append]
  rfl
theorem field51 (t v : Int) (w : World) : (Instr.field 51 (.agg #[.int .i64 t, .int .u64 v]) 0).run Tryz.prog w = .ok (.int .i64 t) w := by kernel_rfl
set_option maxHeartbeats 4000000 in
theorem h_span (base hb lim N P : Nat) (S : List Ser) (B : Nat → Prop) (w : World) (h : HeadAt w base hb lim N P S B) (hP : P ≤ 8796093022206) :
    Calls Tryz.prog 22 #[.pointer (some ⟨hb, 0, none⟩)] w fun e w' => e = .returned (.tuple #[.int .i64 (if S = [] then 0 else loS S), .int .i64 (if S = [] then 0 else hiS S), .bool (decide (S ≠ []))]) ∧ w.grownBy w' none := by
  obtain ⟨m1, m2, n, es, h1, h2, h3, h4, h5, h6, h7⟩ := h
  have HA : Hid (∀ w1, w.grownBy w1 none → Calls Tryz.prog 44 #[.pointer (some ⟨hb, 0, none⟩)] w1 fun e w' => ∃ a c, e = .returned (.slice a es.length c) ∧ SRd ptsE w1 a (es.map (·.p)) ∧ w1 = w') := fun w1 hg => h_all base hb m1 m2 lim n es B w1 (h1.kept hg)
  have hlen : es.length = S.length := by rw [← h3, List.length_map]
  have HL0 : Hid (w.grownBy w none) := World.grownBy.refl _ _
  by_cases hS0 : S = []
  · have hes : es.length = 0 := by rw [hlen, hS0]; rfl
    simp only [hS0, if_true, ne_eq, not_true_eq_false, decide_false]
    rw [hes] at HA
    clear h1 h2 h3 h4 h5 h6 h7 hlen hS0 hes
    go_enter Tryz.func22, Tryz.ntmps22
    go_wp2_with fail
    refine (HA.out w HL0.out).mono ?_
    rintro e w1 ⟨a, c, rfl, _, rfl⟩
    go_wp2
    go_ret3
    exact ⟨rfl, HL0.out⟩
  · have hpos : 0 < S.length := List.length_pos_iff.2 hS0
    simp only [hS0, if_false, ne_eq, not_false_eq_true, decide_true]
    have HE : Hid (∀ (k : Nat) (e : Ent) (w1 : World), es[k]? = some e → w.grownBy w1 none → EntIs w1 base e ∧ e.ps ≠ [] ∧ e.ps.length ≤ 8796093022206 ∧ loS (S.take (k + 1)) = min (loS (S.take k)) (e.ps.headD (0, 0)).1 ∧ hiS (S.take (k + 1)) = max (hiS (S.take k)) (e.ps.getLastD (0, 0)).1) := fun k e w1 he hg => by
      have hm := List.mem_of_getElem? (ent_at h3 he)
      exact ⟨(h1.ent e (List.mem_of_getElem? he)).kept hg, h4.some _ hm, Nat.le_trans (h7 _ hm) hP, loS_take (ent_at h3 he), hiS_take (ent_at h3 he)⟩
    have HEL : Hid (es.length = S.length) := hlen
    have hM : S.length ≤ 1024 := by omega
    have HT : Hid (S.take S.length = S) := List.take_length
    rw [hlen] at HA
    generalize S.length = M at HA HEL hM HT hpos
    have q0 : ((M : Int) == 0) = false := by simp; omega
    clear h1 h2 h3 h4 h5 h6 h7 hlen hS0
    go_enter Tryz.func22, Tryz.ntmps22
    go_wp2_with fail
    refine (HA.out w HL0.out).mono ?_
    rintro e w1 ⟨a, c, rfl, _, rfl⟩
    go_wp2_with fail
    refine (HA.out w HL0.out).mono ?_
    rintro e w1 ⟨a, c, rfl, hr, rfl⟩
    have HR : Hid (SRd ptsE w a (es.map (·.p))) := hr
    clear hr
    go_wp2
    go_loopw [5, 6, 20] (fun lo hi i wr => ∃ k : Nat, k ≤ M ∧ i = .int .i64 k ∧ lo = .int .i64 (loS (S.take k)) ∧ hi = .int .i64 (hiS (S.take k)) ∧ w.grownBy wr none) (fun _ _ i _ => M - (intOf i).toNat)
    case atStart => exact ⟨0, Nat.zero_le _, rfl, rfl, rfl, HL0.out⟩
    case round =>
      obtain ⟨k, hk, rfl, rfl, rfl, hg⟩ := hrel
      have HG : Hid (w.grownBy wr none) := hg
      clear hg
      by_cases hlt : k < M
      · have hi : (k : Int) < (M : Int) := by omega
        obtain ⟨e, he⟩ : ∃ e, es[k]? = some e := ⟨_, List.getElem?_eq_getElem (by have := HEL.out; omega)⟩
        obtain ⟨b, off, rfl, hc⟩ := ptr_cell (i := k) (p := e.p) (HR.out.grown HG.out (by simp)) (by rw [List.getElem?_map, he]; rfl)
        obtain ⟨hei, hne, hle, hlo, hhi⟩ := HE.out k e wr he HG.out
        have HLO : Hid (loS (S.take (k + 1)) = min (loS (S.take k)) (e.ps.headD (0, 0)).1) := hlo
        have HHI : Hid (hiS (S.take (k + 1)) = max (hiS (S.take k)) (e.ps.getLastD (0, 0)).1) := hhi
        have HLA : Hid (Calls Tryz.prog 49 #[.pointer (some ⟨e.p, 0, none⟩)] wr fun r w' => r = .returned (.agg #[.int .i64 (e.ps.getLastD (0, 0)).1, .int .u64 (e.ps.getLastD (0, 0)).2]) ∧ wr.grownBy w' none) := h_last base e wr hei hne (by omega)
        obtain ⟨_, c1⟩ := hei.cells
        obtain ⟨b2, off2, ea, k0, _⟩ := pnt_cell (L := e.ps.length) (SOwn.rd hei.pts) (headD_at hne)
        rw [ea] at c1
        have k0' : wr.cell? ⟨b2, off2, none⟩ = some (.int .i64 (e.ps.headD (0, 0)).1) := by simpa using k0
        have hpl : 0 < e.ps.length := List.length_pos_iff.2 hne
        obtain ⟨m, hm⟩ : ∃ m, e.ps.length = m + 1 := ⟨e.ps.length - 1, by omega⟩
        rw [hm] at c1
        generalize loS (S.take k) = lo at HLO ⊢
        generalize hiS (S.take k) = hi2 at HHI ⊢
        generalize (e.ps.headD (0, 0)).1 = t0 at k0' HLO ⊢
        generalize (e.ps.getLastD (0, 0)).1 = t1 at HLA HHI ⊢
        generalize (e.ps.getLastD (0, 0)).2 = t2 at HLA
        have hfld := fun w => field51 t1 t2 w
        clear he hlo hhi hei hne hle k0 ea hpl hm
        go_wp2_with fail
        all_goals (
          refine HLA.out.mono ?_
          rintro r w2 ⟨rfl, hg2⟩
          have HG2 : Hid (w.grownBy w2 none) := HG.out.trans hg2
          clear hg2
          go_wp2
          all_goals (
            go_roundw
            case rel => exact ⟨k + 1, by omega, by go_num, by rw [HLO.out]; congr 1; omega, by rw [HHI.out]; congr 1; omega, HG2.out⟩
            case measure => simp [intOf]; omega))
      · obtain rfl : k = M := by omega
        have hi : ¬ (k : Int) < (k : Int) := by omega
        rw [HT.out]
        go_wp2
        go_ret3
        exact ⟨rfl, HG.out⟩
end Go.Proofs.YtpabbmiibehfjaaGreatDoor

