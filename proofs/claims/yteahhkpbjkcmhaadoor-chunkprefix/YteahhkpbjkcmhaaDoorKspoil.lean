/- What was handed out is written over, whatever room is behind it. -/
import Derived.Test.YteahhkpbjkcmhaaDoorPnts
import Derived.Test.YteahhkpbjkcmhaaDoorMs
namespace Go.Proofs.YteahhkpbjkcmhaaDoor
open Go.ChangeShapes Go.WideShapes Go.ChangeAt Go.RowKit
set_option linter.unusedVariables false
set_option maxRecDepth 20000

set_option maxHeartbeats 400000 in
theorem spoil_fits (base g N c : Nat) (ys : List Int) (w : World) (ho : Own w base g N c ys) (hc : N + 1 ≤ c) (hN : N ≤ 140737488355300) :
    Calls Tryd.prog 15 #[.slice (some ⟨g, 0, none⟩) N c] w fun e w' => e = .returned (.tuple #[]) ∧ w.grownBy w' (some g) := by
  obtain ⟨i0, hi, hz0, hz1, hz2⟩ := info_parts info5
  have HO : Hid (Own w base g N c ys) := ho
  have HG0 : Hid (g < w.heap.size) := ho.ge.2
  clear ho
  go_enter Tryd.func15, Tryd.ntmps15
  go_wp2_with (at_builtin; refine wpList_append_fits _ rfl (.tmp 5) (.tmp 6) 23 rfl base 5 i0 1 Tryd.underlying23 hi hz1 g N c (bs ys) rfl (HO.out.1.alloc _) ⟨w.heap.size, 0, none⟩ 1 1 (bs [201]) rfl rfl (news_at (cs := bs [201])) (bs_one _) hc ?_; intro w1 hown hg1)
  have HG1 : Hid (w.grownBy w1 (some g)) := gb_trans (gb_any (World.grownBy_alloc w _ none) _) hg1 (fun j hj => .inr hj)
  have HO1 : Hid (∃ zk, Own w1 base g (N + 1) c zk) := by
    obtain ⟨g', c', e, h⟩ := own_more hown HO.out.2 (by omega)
    simp only [Value.slice.injEq, Option.some.injEq, Addr.mk.injEq, and_true, true_and] at e
    obtain ⟨rfl, rfl⟩ := e
    exact ⟨_, h⟩
  clear hown hg1
  go_loopw [3] (fun i wr => ∃ k : Nat, k ≤ N + 1 ∧ i = .int .i64 k ∧ w.grownBy wr (some g) ∧ ∃ zk, Own wr base g (N + 1) c zk) (fun i _ => N + 1 - (intOf i).toNat)
  case atStart => exact ⟨0, Nat.zero_le _, rfl, HG1.out, HO1.out⟩
  case round =>
    obtain ⟨k, hk, rfl, hgr, zk, hok⟩ := hrel
    have HGR : Hid (w.grownBy wr (some g)) := hgr
    have HOK : Hid (Own wr base g (N + 1) c zk) := hok
    clear hgr hok HG1 HO1
    by_cases hlt : k < N + 1
    · have hcell := HOK.out.cell k hlt
      have hfr := HOK.out.1.frozenAt k
      have hi : (k : Int) < (N : Int) + 1 := by omega
      go_wp2
      go_roundw
      case rel => exact ⟨k + 1, by omega, by go_num, gb_trans HGR.out (gb_set rfl) (fun j hj => .inr hj), _, HOK.out.set k 201 (by omega)⟩
      case measure => simp [intOf]; omega
    · go_wp2
      go_loopw [4] (fun i wq => ∃ k : Nat, k ≤ N ∧ i = .int .i64 k ∧ w.grownBy wq (some g) ∧ ∃ zk, Own wq base g (N + 1) c zk) (fun i _ => N - (intOf i).toNat)
      case atStart => exact ⟨0, Nat.zero_le _, rfl, HGR.out, _, HOK.out⟩
      case round =>
        obtain ⟨q, hq, rfl, hgq, zq, hoq⟩ := hrel
        have HGQ : Hid (w.grownBy wr (some g)) := hgq
        have HOQ : Hid (Own wr base g (N + 1) c zq) := hoq
        clear hgq hoq HOK HGR
        by_cases hlt : q < N
        · have hcell := HOQ.out.cell q (by omega)
          have hfr := HOQ.out.1.frozenAt q
          have hi : (q : Int) < (N : Int) := by omega
          go_wp2
          go_roundw
          case rel => exact ⟨q + 1, by omega, by go_num, gb_trans HGQ.out (gb_set rfl) (fun j hj => .inr hj), _, HOQ.out.set q 201 (by omega)⟩
          case measure => simp [intOf]; omega
        · go_wp2
          go_end0
          exact ⟨rfl, HGQ.out⟩
theorem spoil_any (base g N c : Nat) (ys : List Int) (w : World) (ho : Own w base g N c ys) (hN : N ≤ 140737488351300) :
    Calls Tryd.prog 15 #[.slice (some ⟨g, 0, none⟩) N c] w fun e w' => e = .returned (.tuple #[]) ∧ w.grownBy w' (some g) := by
  have hc := ho.cap.1
  by_cases h : N + 1 ≤ c
  · exact spoil_fits base g N c ys w ho h (by omega)
  · obtain rfl : c = N := by omega
    exact spoil_own base g c ys w ho hN
theorem PRow.other {w : World} {g cap : Nat} (h : PRow w g cap) (g2 j : Nat) (v : Value) : PRow (w.setCell ⟨g2, j, none⟩ v) g cap := by
  by_cases e : g2 = g
  · subst e; exact h.set j v
  · obtain ⟨cur, h1, h2⟩ := h
    exact ⟨cur, ((gb_set (w := w) (p := ⟨g2, j, none⟩) (u := v) rfl).block g (Array.getElem?_eq_some_iff.1 h1).1 (fun x => e (Option.some.inj x).symm)).trans h1, h2⟩
abbrev sput (w : World) (g k : Nat) : World := (w.setCell ⟨g, k * 2, none⟩ (.int .i64 (-7))).setCell ⟨g, k * 2 + 1, none⟩ (.int .u64 77)
theorem gb_sput (w : World) (g k : Nat) : w.grownBy (sput w g k) (some g) := gb_trans (gb_set rfl) (gb_set rfl) (fun j hj => .inr hj)

theorem PRow.kept {w w' : World} {row : Option Nat} {g cap : Nat} (h : PRow w g cap) (hg : w.grownBy w' row) (hne : some g ≠ row) : PRow w' g cap := by
  obtain ⟨cur, h1, h2⟩ := h
  exact ⟨cur, (hg.block g (Array.getElem?_eq_some_iff.1 h1).1 hne).trans h1, h2⟩
theorem PRow.sput {w : World} {g cap : Nat} (h : PRow w g cap) (g2 k : Nat) : PRow (sput w g2 k) g cap := (h.other g2 _ _).other g2 _ _

set_option maxHeartbeats 1000000 in
theorem pspoil_fits (g base n c : Nat) (ls : List Pnt) (w : World) (ho : POwn w base g n c ls) (hc : n + 1 ≤ c) (hn : n ≤ 8796093022000) :
    Calls Tryd.prog 23 #[.slice (some ⟨g, 0, none⟩) n c] w fun e w' => e = .returned (.tuple #[]) ∧ w.grownBy w' (some g) := by
  obtain ⟨i0, z, hi, hz0, hz1, hz2, hz3⟩ := pntET.info
  have hcm : (c : Int) ≤ 9223372036854775807 := by have := ho.cap.2; unfold maxLen at this; omega
  have HO : Hid (POwn (w.alloc (.cells (pntE.flat [pmark]).toArray 41)) base g n c ls) := ho.kept (World.grownBy_alloc w _ none) (by simp)
  clear ho
  go_enter Tryd.func23, Tryd.ntmps23
  go_wp2_with (at_builtin; refine wpList_append_fits _ rfl (.tmp 5) (.tmp 7) 22 rfl base 41 i0 2 pntET.under hi hz1 g n c (pntE.flat ls) rfl HO.out ⟨w.heap.size, 0, none⟩ 1 1 (pntE.flat [pmark]) rfl rfl (SRd.news (plit w [pmark])) (pntE.flat_one _) hc ?_; intro w1 hown hg1)
  have HG1 : Hid (w.grownBy w1 (some g)) := gb_trans (gb_any (World.grownBy_alloc w _ none) _) hg1 (fun j hj => .inr hj)
  have HR1 : Hid (PRow w1 g c) := by
    have h : POwn w1 base g (n + 1) c (ls ++ [pmark]) := by
      unfold POwn SOwn
      rw [pntE.flat_app]
      exact hown
    exact h.row
  clear hown hg1 HO
  go_loopw [3] (fun i wr => ∃ k : Nat, k ≤ n + 1 ∧ i = .int .i64 k ∧ w.grownBy wr (some g) ∧ PRow wr g c) (fun i _ => n + 1 - (intOf i).toNat)
  case atStart => exact ⟨0, Nat.zero_le _, rfl, HG1.out, HR1.out⟩
  case round =>
    obtain ⟨k, hk, rfl, hgr, hrow⟩ := hrel
    have HGR : Hid (w.grownBy wr (some g)) := hgr
    have HROW : Hid (PRow wr g c) := hrow
    clear hgr hrow HG1 HR1
    by_cases hlt : k < n + 1
    · obtain ⟨⟨v0, c0⟩, f0⟩ := HROW.out.cells (k * 2) (by omega)
      obtain ⟨⟨v1, c9⟩, f1⟩ := HROW.out.cells (k * 2 + 1) (by omega)
      have hi : (k : Int) < (n : Int) + 1 := by omega
      go_wp2
      go_roundw
      case rel => exact ⟨k + 1, by omega, by go_num, gb_trans HGR.out (gb_sput wr g k) (fun j hj => .inr hj), HROW.out.sput g k⟩
      case measure => simp [intOf]; omega
    · go_wp2
      go_loopw [4] (fun i wq => ∃ k : Nat, k ≤ n ∧ i = .int .i64 k ∧ w.grownBy wq (some g) ∧ PRow wq g c) (fun i _ => n - (intOf i).toNat)
      case atStart => exact ⟨0, Nat.zero_le _, rfl, HGR.out, HROW.out⟩
      case round =>
        obtain ⟨q, hq, rfl, hgq, hrq⟩ := hrel
        have HGQ : Hid (w.grownBy wr (some g)) := hgq
        have HRQ : Hid (PRow wr g c) := hrq
        clear hgq hrq HROW HGR
        by_cases hlt : q < n
        · obtain ⟨⟨v0, c0⟩, f0⟩ := HRQ.out.cells (q * 2) (by omega)
          obtain ⟨⟨v1, c9⟩, f1⟩ := HRQ.out.cells (q * 2 + 1) (by omega)
          have hi : (q : Int) < (n : Int) := by omega
          go_wp2
          go_roundw
          case rel => exact ⟨q + 1, by omega, by go_num, gb_trans HGQ.out (gb_sput wr g q) (fun j hj => .inr hj), HRQ.out.sput g q⟩
          case measure => simp [intOf]; omega
        · go_wp2
          go_end0
          exact ⟨rfl, HGQ.out⟩

set_option maxHeartbeats 1000000 in
theorem pspoil_grow (g base n : Nat) (ls : List Pnt) (w : World) (ho : POwn w base g n n ls) (hn : n ≤ 8796093022000) :
    Calls Tryd.prog 23 #[.slice (some ⟨g, 0, none⟩) n n] w fun e w' => e = .returned (.tuple #[]) ∧ w.grownBy w' (some g) := by
  obtain ⟨i0, z, hi, hz0, hz1, hz2, hz3⟩ := pntET.info
  have HO : Hid (POwn w base g n n ls) := ho
  have HL : Hid ((pntE.flat ls).length = n * 2) := ho.1
  have HOL : Hid (∀ b, some (⟨g, 0, none⟩ : Addr) = some b → ∀ j u, (pntE.flat ls)[j]? = some u → (w.alloc (.cells (pntE.flat [pmark]).toArray 41)).cell? (b.add j) = some u) := by
    intro b hb j u hj
    cases hb
    exact SRd.news (ho.rd.grown (World.grownBy_alloc w _ none) (by simp)) j u hj
  clear ho
  go_enter Tryd.func23, Tryd.ntmps23
  go_wp2_with (at_builtin; refine wpList_append_grows _ rfl (.tmp 5) (.tmp 7) 22 rfl 41 i0 z 2 16 pntET.under hi hz0 hz1 hz2 hz3 (by decide) (some ⟨g, 0, none⟩) n n (pntE.flat ls) rfl (by simp) HL.out HOL.out ⟨w.heap.size, 0, none⟩ 1 1 (pntE.flat [pmark]) rfl rfl (SRd.news (plit w [pmark])) (pntE.flat_one _) (by omega) (by unfold maxLen; omega) (by omega) ?_; intro v' w1 hown hg1; obtain ⟨g1, c1, rfl, hge1, hlt1, hc1, hcm1⟩ := SOwn.some (E := pntE) (l := ls ++ [pmark]) (show SOwn pntE 41 w1 _ v' (n + 1) (ls ++ [pmark]) by unfold SOwn; rw [pntE.flat_app]; exact hown) (fun e => by rw [e] at hown; rcases hown.2 with ⟨_, h⟩ | ⟨_, _, _, h, _⟩ <;> simp at h))
  have HG1 : Hid (w.grownBy w1 none) := gb_trans (World.grownBy_alloc w _ none) hg1 (by simp)
  have HR1 : Hid (PRow w1 g1 c1) := by
    have h : POwn w1 (w.alloc (.cells (pntE.flat [pmark]).toArray 41)).heap.size g1 (n + 1) c1 (ls ++ [pmark]) := by
      unfold POwn SOwn
      rw [pntE.flat_app]
      exact hown
    exact h.row
  have HGe : Hid (w.heap.size ≤ g1) := Nat.le_trans (World.grownBy_alloc w _ none).size hge1
  have hcm : (c1 : Int) ≤ 9223372036854775807 := by unfold maxLen at hcm1; omega
  clear hown hg1 hge1 hlt1 hcm1
  go_loopw [3] (fun i wr => ∃ k : Nat, k ≤ n + 1 ∧ i = .int .i64 k ∧ w.grownBy wr none ∧ PRow wr g1 c1) (fun i _ => n + 1 - (intOf i).toNat)
  case atStart => exact ⟨0, Nat.zero_le _, rfl, HG1.out, HR1.out⟩
  case round =>
    obtain ⟨k, hk, rfl, hgr, hrow⟩ := hrel
    have HGR : Hid (w.grownBy wr none) := hgr
    have HROW : Hid (PRow wr g1 c1) := hrow
    clear hgr hrow HG1 HR1
    by_cases hlt : k < n + 1
    · obtain ⟨⟨v0, c0⟩, f0⟩ := HROW.out.cells (k * 2) (by omega)
      obtain ⟨⟨v1, c9⟩, f1⟩ := HROW.out.cells (k * 2 + 1) (by omega)
      have hi : (k : Int) < (n : Int) + 1 := by omega
      go_wp2
      go_roundw
      case rel => exact ⟨k + 1, by omega, by go_num, gb_trans HGR.out (gb_sput wr g1 k) (fun j hj => .inl (by simp at hj; have := HGe.out; omega)), HROW.out.sput g1 k⟩
      case measure => simp [intOf]; omega
    · have HRA : Hid (PRow wr g n) := HO.out.row.kept HGR.out (by simp)
      clear HROW
      go_wp2
      go_loopw [4] (fun i wq => ∃ k : Nat, k ≤ n ∧ i = .int .i64 k ∧ w.grownBy wq (some g) ∧ PRow wq g n) (fun i _ => n - (intOf i).toNat)
      case atStart => exact ⟨0, Nat.zero_le _, rfl, gb_any HGR.out _, HRA.out⟩
      case round =>
        obtain ⟨q, hq, rfl, hgq, hrq⟩ := hrel
        have HGQ : Hid (w.grownBy wr (some g)) := hgq
        have HRQ : Hid (PRow wr g n) := hrq
        clear hgq hrq HRA HGR
        by_cases hlt : q < n
        · obtain ⟨⟨v0, c0⟩, f0⟩ := HRQ.out.cells (q * 2) (by omega)
          obtain ⟨⟨v1, c9⟩, f1⟩ := HRQ.out.cells (q * 2 + 1) (by omega)
          have hi : (q : Int) < (n : Int) := by omega
          go_wp2
          go_roundw
          case rel => exact ⟨q + 1, by omega, by go_num, gb_trans HGQ.out (gb_sput wr g q) (fun j hj => .inr hj), HRQ.out.sput g q⟩
          case measure => simp [intOf]; omega
        · go_wp2
          go_end0
          exact ⟨rfl, HGQ.out⟩

set_option maxHeartbeats 1000000 in
theorem pspoil_nil (w : World) :
    Calls Tryd.prog 23 #[.slice none 0 0] w fun e w' => e = .returned (.tuple #[]) ∧ w.grownBy w' none := by
  obtain ⟨i0, z, hi, hz0, hz1, hz2, hz3⟩ := pntET.info
  go_enter Tryd.func23, Tryd.ntmps23
  go_wp2_with (at_builtin; refine wpList_append_grows _ rfl (.tmp 5) (.tmp 7) 22 rfl 41 i0 z 2 16 pntET.under hi hz0 hz1 hz2 hz3 (by decide) none 0 0 (pntE.flat []) rfl (by simp) rfl (by simp) ⟨w.heap.size, 0, none⟩ 1 1 (pntE.flat [pmark]) rfl rfl (SRd.news (plit w [pmark])) (pntE.flat_one _) (by omega) (by unfold maxLen; omega) (by omega) ?_; intro v' w1 hown hg1; obtain ⟨g1, c1, rfl, hge1, hlt1, hc1, hcm1⟩ := SOwn.some (E := pntE) (l := [] ++ [pmark]) (show SOwn pntE 41 w1 _ v' (0 + 1) ([] ++ [pmark]) by unfold SOwn; rw [pntE.flat_app]; exact hown) (fun e => by rw [e] at hown; rcases hown.2 with ⟨_, h⟩ | ⟨_, _, _, h, _⟩ <;> simp at h))
  have HG1 : Hid (w.grownBy w1 none) := gb_trans (World.grownBy_alloc w _ none) hg1 (by simp)
  have HR1 : Hid (PRow w1 g1 c1) := by
    have h : POwn w1 (w.alloc (.cells (pntE.flat [pmark]).toArray 41)).heap.size g1 (1) c1 ([] ++ [pmark]) := by
      unfold POwn SOwn
      rw [pntE.flat_app]
      exact hown
    exact h.row
  have HGe : Hid (w.heap.size ≤ g1) := Nat.le_trans (World.grownBy_alloc w _ none).size hge1
  have hcm : (c1 : Int) ≤ 9223372036854775807 := by unfold maxLen at hcm1; omega
  clear hown hg1 hge1 hlt1 hcm1
  go_loopw [3] (fun i wr => ∃ k : Nat, k ≤ 1 ∧ i = .int .i64 k ∧ w.grownBy wr none ∧ PRow wr g1 c1) (fun i _ => 1 - (intOf i).toNat)
  case atStart => exact ⟨0, Nat.zero_le _, rfl, HG1.out, HR1.out⟩
  case round =>
    obtain ⟨k, hk, rfl, hgr, hrow⟩ := hrel
    have HGR : Hid (w.grownBy wr none) := hgr
    have HROW : Hid (PRow wr g1 c1) := hrow
    clear hgr hrow HG1 HR1
    by_cases hlt : k < 1
    · obtain ⟨⟨v0, c0⟩, f0⟩ := HROW.out.cells (k * 2) (by omega)
      obtain ⟨⟨v1, c9⟩, f1⟩ := HROW.out.cells (k * 2 + 1) (by omega)
      have hi : (k : Int) < 1 := by omega
      go_wp2
      go_roundw
      case rel => exact ⟨k + 1, by omega, by go_num, gb_trans HGR.out (gb_sput wr g1 k) (fun j hj => .inl (by simp at hj; have := HGe.out; omega)), HROW.out.sput g1 k⟩
      case measure => simp [intOf]; omega
    · clear HROW
      go_wp2
      refine wp_loop_rounds 1 ?_
      rw [rounds_succ]
      go_wp2
      go_end0
      exact ⟨rfl, HGR.out⟩

/-- SpoilLabels of what a call made. -/
theorem pspoil (a : Option Addr) (base n c : Nat) (ls : List Pnt) (w : World) (ho : SOwn pntE 41 w base (.slice a n c) n ls) (hn : n ≤ 8796093022000) :
    Calls Tryd.prog 23 #[.slice a n c] w fun e w' => e = .returned (.tuple #[]) ∧ w.grownBy w' (Value.slice a n c).ownBlock := by
  rcases ho.2 with ⟨h', h0⟩ | ⟨g, cap, cur, h', h1, h2, h3, h4, h5, h6⟩
  · simp only [Value.slice.injEq] at h'
    obtain ⟨rfl, rfl, rfl⟩ := h'
    exact pspoil_nil w
  · simp only [Value.slice.injEq] at h'
    obtain ⟨rfl, _, rfl⟩ := h'
    by_cases hc : n + 1 ≤ c
    · exact pspoil_fits g base n c ls w ho hc hn
    · obtain rfl : c = n := by omega
      exact pspoil_grow g base c ls w ho hn
end Go.Proofs.YteahhkpbjkcmhaaDoor
