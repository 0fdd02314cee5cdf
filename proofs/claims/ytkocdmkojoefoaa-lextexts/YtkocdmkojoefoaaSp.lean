/- SpoilTokens: what was handed out is written over. -/
import Derived.Test.YtkocdmkojoefoaaTk
import Derived.Test.YtkocdmkojoefoaaTx
namespace Go.Proofs.Ytkocdmkojoefoaa
open Go.RowKit
set_option linter.unusedVariables false
set_option maxRecDepth 20000

/-- A row of so many tokens, whatever they are. -/
def Row4 (w : World) (g cap : Nat) : Prop := ∃ cur : Array Value, w.heap[g]? = some (.cells cur 32 (0, 0)) ∧ cur.size = cap * 4
theorem Row4.of {w : World} {base g n cap : Nat} {ts : List Tok} (h : SOwn tokE 32 w base (.slice (some ⟨g, 0, none⟩) n cap) n ts) : Row4 w g cap := by
  rcases h.2 with ⟨h', _⟩ | ⟨g', cap', cur, h', _, h2, _, _, h5, _⟩
  · simp at h'
  · simp only [Value.slice.injEq, Option.some.injEq, Addr.mk.injEq] at h'
    obtain ⟨⟨rfl, _⟩, _, rfl⟩ := h'
    exact ⟨cur, h2, h5⟩
theorem Row4.cells {w : World} {g cap : Nat} (h : Row4 w g cap) (k : Nat) (hk : k < cap) : ∃ v0 v1 v2 v3, w.cell? ⟨g, k * 4, none⟩ = some v0 ∧ w.cell? ⟨g, k * 4 + 1, none⟩ = some v1 ∧ w.cell? ⟨g, k * 4 + 2, none⟩ = some v2 ∧ w.cell? ⟨g, k * 4 + 3, none⟩ = some v3 ∧ w.frozen? ⟨g, k * 4, none⟩ = false ∧ w.frozen? ⟨g, k * 4 + 1, none⟩ = false ∧ w.frozen? ⟨g, k * 4 + 2, none⟩ = false ∧ w.frozen? ⟨g, k * 4 + 3, none⟩ = false := by
  obtain ⟨cur, h1, h2⟩ := h
  refine ⟨_, _, _, _, by rw [cell_of_row w g _ cur 32 _ h1, Array.getElem?_eq_getElem (by omega)], by rw [cell_of_row w g _ cur 32 _ h1, Array.getElem?_eq_getElem (by omega)], by rw [cell_of_row w g _ cur 32 _ h1, Array.getElem?_eq_getElem (by omega)], by rw [cell_of_row w g _ cur 32 _ h1, Array.getElem?_eq_getElem (by omega)], ?_, ?_, ?_, ?_⟩ <;> simp [World.frozen?, h1]
theorem Row4.set {w : World} {g cap : Nat} (h : Row4 w g cap) (j : Nat) (v : Value) : Row4 (w.setCell ⟨g, j, none⟩ v) g cap := by
  obtain ⟨cur, h1, h2⟩ := h
  exact ⟨cur.setIfInBounds j v, by rw [setCell_eq_setRow w g j cur 32 (0, 0) v h1, setRow_heap w g cur _ 32 _ h1], by simpa using h2⟩
theorem Row4.other {w : World} {g cap : Nat} (h : Row4 w g cap) (g2 j : Nat) (v : Value) : Row4 (w.setCell ⟨g2, j, none⟩ v) g cap := by
  by_cases e : g2 = g
  · subst e; exact h.set j v
  · obtain ⟨cur, h1, h2⟩ := h
    exact ⟨cur, ((gb_set (w := w) (p := ⟨g2, j, none⟩) (u := v) rfl).block g (Array.getElem?_eq_some_iff.1 h1).1 (fun x => e (Option.some.inj x).symm)).trans h1, h2⟩
theorem Row4.kept {w w' : World} {row : Option Nat} {g cap : Nat} (h : Row4 w g cap) (hg : w.grownBy w' row) (hne : some g ≠ row) : Row4 w' g cap := by
  obtain ⟨cur, h1, h2⟩ := h
  exact ⟨cur, (hg.block g (Array.getElem?_eq_some_iff.1 h1).1 hne).trans h1, h2⟩
abbrev tput (w : World) (g k : Nat) : World := (((w.setCell ⟨g, k * 4, none⟩ (.int .i64 77)).setCell ⟨g, k * 4 + 1, none⟩ (.int .i64 0)).setCell ⟨g, k * 4 + 2, none⟩ (.string ⟨#[]⟩)).setCell ⟨g, k * 4 + 3, none⟩ (.int .i64 0)
theorem gb_tput (w : World) (g k : Nat) : w.grownBy (tput w g k) (some g) := gb_trans (gb_trans (gb_trans (gb_set rfl) (gb_set rfl) (fun j hj => .inr hj)) (gb_set rfl) (fun j hj => .inr hj)) (gb_set rfl) (fun j hj => .inr hj)
theorem Row4.tput {w : World} {g cap : Nat} (h : Row4 w g cap) (g2 k : Nat) : Row4 (tput w g2 k) g cap := (((h.other g2 _ _).other g2 _ _).other g2 _ _).other g2 _ _
def tmark : Tok := ((77 : Int), (0 : Int), (⟨#[]⟩ : ByteArray), (0 : Int))
def TOwn (w : World) (base g n cap : Nat) (ls : List Tok) : Prop := SOwn tokE 32 w base (.slice (some ⟨g, 0, none⟩) n cap) n ls
theorem TOwn.kept {w w' : World} {row : Option Nat} {base g n cap : Nat} {ls : List Tok} (h : TOwn w base g n cap ls) (hg : w.grownBy w' row) (hne : some g ≠ row) : TOwn w' base g n cap ls :=
  SOwn.kept h hg (.inr (by simpa [Value.ownBlock] using hne))
theorem TOwn.cap {w : World} {base g n cap : Nat} {ls : List Tok} (h : TOwn w base g n cap ls) : n ≤ cap ∧ cap ≤ maxLen := by
  obtain ⟨g', c', e, _, _, h1, h2⟩ := SOwn.some h (by simp)
  simp only [Value.slice.injEq] at e
  obtain ⟨_, _, rfl⟩ := e
  exact ⟨h1, h2⟩
theorem TOwn.rd {w : World} {base g n cap : Nat} {ls : List Tok} (h : TOwn w base g n cap ls) : SRd tokE w (some ⟨g, 0, none⟩) ls := SOwn.rd h
theorem TOwn.row {w : World} {base g n cap : Nat} {ls : List Tok} (h : TOwn w base g n cap ls) : Row4 w g cap := Row4.of h
set_option maxHeartbeats 1000000 in
theorem tspoil_fits (g base n c : Nat) (ls : List Tok) (w : World) (ho : TOwn w base g n c ls) (hc : n + 1 ≤ c) (hn : n ≤ 100000) :
    Calls Try.prog 11 #[.slice (some ⟨g, 0, none⟩) n c] w fun e w' => e = .returned (.tuple #[]) ∧ w.grownBy w' (some g) := by
  obtain ⟨i0, z, hi, hz0, hz1, hz2, hz3⟩ := tokT.info
  have hcm : (c : Int) ≤ 9223372036854775807 := by have := ho.cap.2; unfold maxLen at this; omega
  have HO : Hid (TOwn (w.alloc (.cells (tokE.flat [tmark]).toArray 32)) base g n c ls) := ho.kept (World.grownBy_alloc w _ none) (by simp)
  clear ho
  go_enter Try.func11, Try.ntmps11
  go_wp2_with (at_builtin; refine wpList_append_fits _ rfl (.tmp 5) (.tmp 7) 22 rfl base 32 i0 4 tokT.under hi hz1 g n c (tokE.flat ls) rfl HO.out ⟨w.heap.size, 0, none⟩ 1 1 (tokE.flat [tmark]) rfl rfl (SRd.news (srd_lit tokE 32 w [tmark])) (tokE.flat_one _) hc ?_; intro w1 hown hg1)
  have HG1 : Hid (w.grownBy w1 (some g)) := gb_trans (gb_any (World.grownBy_alloc w _ none) _) hg1 (fun j hj => .inr hj)
  have HR1 : Hid (Row4 w1 g c) := by
    have h : TOwn w1 base g (n + 1) c (ls ++ [tmark]) := by
      unfold TOwn SOwn
      rw [tokE.flat_app]
      exact hown
    exact h.row
  clear hown hg1 HO
  go_loopw [3] (fun i wr => ∃ k : Nat, k ≤ n + 1 ∧ i = .int .i64 k ∧ w.grownBy wr (some g) ∧ Row4 wr g c) (fun i _ => n + 1 - (intOf i).toNat)
  case atStart => exact ⟨0, Nat.zero_le _, rfl, HG1.out, HR1.out⟩
  case round =>
    obtain ⟨k, hk, rfl, hgr, hrow⟩ := hrel
    have HGR : Hid (w.grownBy wr (some g)) := hgr
    have HROW : Hid (Row4 wr g c) := hrow
    clear hgr hrow HG1 HR1
    by_cases hlt : k < n + 1
    · obtain ⟨v0, v1, v2, v3, c0, c9, c8, c7, f0, f1, f2, f3⟩ := HROW.out.cells k (by omega)
      have hi : (k : Int) < (n : Int) + 1 := by omega
      go_wp2
      go_roundw
      case rel => exact ⟨k + 1, by omega, by go_num, gb_trans HGR.out (gb_tput wr g k) (fun j hj => .inr hj), HROW.out.tput g k⟩
      case measure => simp [intOf]; omega
    · go_wp2
      go_loopw [4] (fun i wq => ∃ k : Nat, k ≤ n ∧ i = .int .i64 k ∧ w.grownBy wq (some g) ∧ Row4 wq g c) (fun i _ => n - (intOf i).toNat)
      case atStart => exact ⟨0, Nat.zero_le _, rfl, HGR.out, HROW.out⟩
      case round =>
        obtain ⟨q, hq, rfl, hgq, hrq⟩ := hrel
        have HGQ : Hid (w.grownBy wr (some g)) := hgq
        have HRQ : Hid (Row4 wr g c) := hrq
        clear hgq hrq HROW HGR
        by_cases hlt : q < n
        · obtain ⟨v0, v1, v2, v3, c0, c9, c8, c7, f0, f1, f2, f3⟩ := HRQ.out.cells q (by omega)
          have hi : (q : Int) < (n : Int) := by omega
          go_wp2
          go_roundw
          case rel => exact ⟨q + 1, by omega, by go_num, gb_trans HGQ.out (gb_tput wr g q) (fun j hj => .inr hj), HRQ.out.tput g q⟩
          case measure => simp [intOf]; omega
        · go_wp2
          go_end0
          exact ⟨rfl, HGQ.out⟩

set_option maxHeartbeats 1000000 in
theorem tspoil_grow (g base n : Nat) (ls : List Tok) (w : World) (ho : TOwn w base g n n ls) (hn : n ≤ 100000) :
    Calls Try.prog 11 #[.slice (some ⟨g, 0, none⟩) n n] w fun e w' => e = .returned (.tuple #[]) ∧ w.grownBy w' (some g) := by
  obtain ⟨i0, z, hi, hz0, hz1, hz2, hz3⟩ := tokT.info
  have HO : Hid (TOwn w base g n n ls) := ho
  have HL : Hid ((tokE.flat ls).length = n * 4) := ho.1
  have HOL : Hid (∀ b, some (⟨g, 0, none⟩ : Addr) = some b → ∀ j u, (tokE.flat ls)[j]? = some u → (w.alloc (.cells (tokE.flat [tmark]).toArray 32)).cell? (b.add j) = some u) := by
    intro b hb j u hj
    cases hb
    exact SRd.news (ho.rd.grown (World.grownBy_alloc w _ none) (by simp)) j u hj
  clear ho
  go_enter Try.func11, Try.ntmps11
  go_wp2_with (at_builtin; refine wpList_append_grows _ rfl (.tmp 5) (.tmp 7) 22 rfl 32 i0 z 4 40 tokT.under hi hz0 hz1 hz2 hz3 (by decide) (some ⟨g, 0, none⟩) n n (tokE.flat ls) rfl (by simp) HL.out HOL.out ⟨w.heap.size, 0, none⟩ 1 1 (tokE.flat [tmark]) rfl rfl (SRd.news (srd_lit tokE 32 w [tmark])) (tokE.flat_one _) (by omega) (by unfold maxLen; omega) (by omega) ?_; intro v' w1 hown hg1; obtain ⟨g1, c1, rfl, hge1, hlt1, hc1, hcm1⟩ := SOwn.some (E := tokE) (l := ls ++ [tmark]) (show SOwn tokE 32 w1 _ v' (n + 1) (ls ++ [tmark]) by unfold SOwn; rw [tokE.flat_app]; exact hown) (fun e => by rw [e] at hown; rcases hown.2 with ⟨_, h⟩ | ⟨_, _, _, h, _⟩ <;> simp at h))
  have HG1 : Hid (w.grownBy w1 none) := gb_trans (World.grownBy_alloc w _ none) hg1 (by simp)
  have HR1 : Hid (Row4 w1 g1 c1) := by
    have h : TOwn w1 (w.alloc (.cells (tokE.flat [tmark]).toArray 32)).heap.size g1 (n + 1) c1 (ls ++ [tmark]) := by
      unfold TOwn SOwn
      rw [tokE.flat_app]
      exact hown
    exact h.row
  have HGe : Hid (w.heap.size ≤ g1) := Nat.le_trans (World.grownBy_alloc w _ none).size hge1
  have hcm : (c1 : Int) ≤ 9223372036854775807 := by unfold maxLen at hcm1; omega
  clear hown hg1 hge1 hlt1 hcm1
  go_loopw [3] (fun i wr => ∃ k : Nat, k ≤ n + 1 ∧ i = .int .i64 k ∧ w.grownBy wr none ∧ Row4 wr g1 c1) (fun i _ => n + 1 - (intOf i).toNat)
  case atStart => exact ⟨0, Nat.zero_le _, rfl, HG1.out, HR1.out⟩
  case round =>
    obtain ⟨k, hk, rfl, hgr, hrow⟩ := hrel
    have HGR : Hid (w.grownBy wr none) := hgr
    have HROW : Hid (Row4 wr g1 c1) := hrow
    clear hgr hrow HG1 HR1
    by_cases hlt : k < n + 1
    · obtain ⟨v0, v1, v2, v3, c0, c9, c8, c7, f0, f1, f2, f3⟩ := HROW.out.cells k (by omega)
      have hi : (k : Int) < (n : Int) + 1 := by omega
      go_wp2
      go_roundw
      case rel => exact ⟨k + 1, by omega, by go_num, gb_trans HGR.out (gb_tput wr g1 k) (fun j hj => .inl (by simp at hj; have := HGe.out; omega)), HROW.out.tput g1 k⟩
      case measure => simp [intOf]; omega
    · have HRA : Hid (Row4 wr g n) := HO.out.row.kept HGR.out (by simp)
      clear HROW
      go_wp2
      go_loopw [4] (fun i wq => ∃ k : Nat, k ≤ n ∧ i = .int .i64 k ∧ w.grownBy wq (some g) ∧ Row4 wq g n) (fun i _ => n - (intOf i).toNat)
      case atStart => exact ⟨0, Nat.zero_le _, rfl, gb_any HGR.out _, HRA.out⟩
      case round =>
        obtain ⟨q, hq, rfl, hgq, hrq⟩ := hrel
        have HGQ : Hid (w.grownBy wr (some g)) := hgq
        have HRQ : Hid (Row4 wr g n) := hrq
        clear hgq hrq HRA HGR
        by_cases hlt : q < n
        · obtain ⟨v0, v1, v2, v3, c0, c9, c8, c7, f0, f1, f2, f3⟩ := HRQ.out.cells q (by omega)
          have hi : (q : Int) < (n : Int) := by omega
          go_wp2
          go_roundw
          case rel => exact ⟨q + 1, by omega, by go_num, gb_trans HGQ.out (gb_tput wr g q) (fun j hj => .inr hj), HRQ.out.tput g q⟩
          case measure => simp [intOf]; omega
        · go_wp2
          go_end0
          exact ⟨rfl, HGQ.out⟩

set_option maxHeartbeats 1000000 in
theorem tspoil_nil (w : World) :
    Calls Try.prog 11 #[.slice none 0 0] w fun e w' => e = .returned (.tuple #[]) ∧ w.grownBy w' none := by
  obtain ⟨i0, z, hi, hz0, hz1, hz2, hz3⟩ := tokT.info
  go_enter Try.func11, Try.ntmps11
  go_wp2_with (at_builtin; refine wpList_append_grows _ rfl (.tmp 5) (.tmp 7) 22 rfl 32 i0 z 4 40 tokT.under hi hz0 hz1 hz2 hz3 (by decide) none 0 0 (tokE.flat []) rfl (by simp) rfl (by simp) ⟨w.heap.size, 0, none⟩ 1 1 (tokE.flat [tmark]) rfl rfl (SRd.news (srd_lit tokE 32 w [tmark])) (tokE.flat_one _) (by omega) (by unfold maxLen; omega) (by omega) ?_; intro v' w1 hown hg1; obtain ⟨g1, c1, rfl, hge1, hlt1, hc1, hcm1⟩ := SOwn.some (E := tokE) (l := [] ++ [tmark]) (show SOwn tokE 32 w1 _ v' (0 + 1) ([] ++ [tmark]) by unfold SOwn; rw [tokE.flat_app]; exact hown) (fun e => by rw [e] at hown; rcases hown.2 with ⟨_, h⟩ | ⟨_, _, _, h, _⟩ <;> simp at h))
  have HG1 : Hid (w.grownBy w1 none) := gb_trans (World.grownBy_alloc w _ none) hg1 (by simp)
  have HR1 : Hid (Row4 w1 g1 c1) := by
    have h : TOwn w1 (w.alloc (.cells (tokE.flat [tmark]).toArray 32)).heap.size g1 (1) c1 ([] ++ [tmark]) := by
      unfold TOwn SOwn
      rw [tokE.flat_app]
      exact hown
    exact h.row
  have HGe : Hid (w.heap.size ≤ g1) := Nat.le_trans (World.grownBy_alloc w _ none).size hge1
  have hcm : (c1 : Int) ≤ 9223372036854775807 := by unfold maxLen at hcm1; omega
  clear hown hg1 hge1 hlt1 hcm1
  go_loopw [3] (fun i wr => ∃ k : Nat, k ≤ 1 ∧ i = .int .i64 k ∧ w.grownBy wr none ∧ Row4 wr g1 c1) (fun i _ => 1 - (intOf i).toNat)
  case atStart => exact ⟨0, Nat.zero_le _, rfl, HG1.out, HR1.out⟩
  case round =>
    obtain ⟨k, hk, rfl, hgr, hrow⟩ := hrel
    have HGR : Hid (w.grownBy wr none) := hgr
    have HROW : Hid (Row4 wr g1 c1) := hrow
    clear hgr hrow HG1 HR1
    by_cases hlt : k < 1
    · obtain ⟨v0, v1, v2, v3, c0, c9, c8, c7, f0, f1, f2, f3⟩ := HROW.out.cells k (by omega)
      have hi : (k : Int) < 1 := by omega
      go_wp2
      go_roundw
      case rel => exact ⟨k + 1, by omega, by go_num, gb_trans HGR.out (gb_tput wr g1 k) (fun j hj => .inl (by simp at hj; have := HGe.out; omega)), HROW.out.tput g1 k⟩
      case measure => simp [intOf]; omega
    · clear HROW
      go_wp2
      refine wp_loop_rounds 1 ?_
      rw [rounds_succ]
      go_wp2
      go_end0
      exact ⟨rfl, HGR.out⟩

/-- SpoilLabels of what a call made. -/

theorem t_spoil (g base n c : Nat) (ts : List Tok) (w : World) (ho : SOwn tokE 32 w base (.slice (some ⟨g, 0, none⟩) n c) n ts) (hn : n ≤ 100000) :
    Calls Try.prog 11 #[.slice (some ⟨g, 0, none⟩) n c] w fun e w' => e = .returned (.tuple #[]) ∧ w.grownBy w' (some g) := by
  have hc := (TOwn.cap ho).1
  by_cases h : n + 1 ≤ c
  · exact tspoil_fits g base n c ts w ho h hn
  · obtain rfl : c = n := by omega
    exact tspoil_grow g base c ts w ho hn
end Go.Proofs.Ytkocdmkojoefoaa
