/- Package types: awake; what is read, as Check wants it. -/
import Derived.Test.YthbodkgcbfplgaaGreatKj
namespace Go.Proofs.YthbodkgcbfplgaaGreat
open Go.RowKit
set_option linter.unusedVariables false
set_option linter.unusedSimpArgs false
set_option maxRecDepth 20000

theorem own_sl {α : Type} {E : Elem α} {e : TypeId} {w : World} {b n : Nat} {s : Sl} {l : List α} (h : SOwn E e w b (slV s) n l) : s.2.1 = n ∧ SRd E w s.1 l ∧ n ≤ 9223372036854775807 := by
  obtain ⟨a, m, c⟩ := s
  unfold slV at h
  dsimp only at h
  have hm : m = n ∧ n ≤ 9223372036854775807 := by
    rcases h.2 with ⟨h', h0⟩ | ⟨g, cap, cur, h', k1, k2, k3, k4, k5, k6⟩
    · injection h' with _ h2 _
      exact ⟨h2.trans h0.symm, by omega⟩
    · injection h' with _ h2 _
      refine ⟨h2, ?_⟩
      unfold maxLen at k4
      omega
  obtain ⟨rfl, hn⟩ := hm
  exact ⟨rfl, SOwn.rd h, hn⟩
theorem NdAt.rds {w : World} {b : Nat} {a : Option Addr} {n c : Nat} {Q : List Row} (h : NdAt w b (.slice a n c) Q) : NsRd w a Q ∧ n = Q.length := by
  have h0 := own_sl (s := (a, n, c)) h.own
  refine ⟨⟨h0.2.1, fun q hq => ?_⟩, h0.1⟩
  have hm := own_sl (h.mat q hq)
  have hn := own_sl (h.nam q hq)
  exact ⟨hm.2.1, hm.1, hn.2.1, hn.1, hm.2.2, hn.2.2⟩
def awX : Nd := ⟨2, 0, ⟨#[]⟩, [(1, nameS, ⟨#[120]⟩)], 0, 0, 0, [], false, 0⟩
def awC : Nd := ⟨4, 1, ⟨#[]⟩, [], 0, 0, 0, [], false, 1⟩
theorem aw_one : chkT [awX] = (2, 0, 0) := by kernel_rfl
theorem aw_two : chkT [awX, awC] = (0, 1, 191) := by kernel_rfl
def awM : List Mt := [(1, nameS, ⟨#[120]⟩)]
theorem aw_rd {w W : World} {g : Nat} (h : SRd matE W (some ⟨g, 0, none⟩) awM) : NdRd W (awX, (some ⟨g, 0, none⟩, 1, 1), (none, 0, 0)) :=
  ⟨h, rfl, .inl rfl, rfl, by show (1 : Nat) ≤ _; omega, by show (0 : Nat) ≤ _; omega⟩
theorem awc_rd (W : World) : NdRd W (awC, (none, 0, 0), (none, 0, 0)) :=
  ⟨.inl rfl, rfl, .inl rfl, rfl, by show (0 : Nat) ≤ _; omega, by show (0 : Nat) ≤ _; omega⟩
set_option maxHeartbeats 4000000 in
theorem f_awake (w : World) : Calls Tryz.prog 11 #[] w fun e w' => e = .returned (.bool true) ∧ w.grownBy w' none := by
  have HG1 : Hid (SRd matE (w.alloc (.cells #[.int .i64 1, .string nameS, .string ⟨#[120]⟩] 54)) (some ⟨w.heap.size, 0, none⟩) awM) := lit_rd matE w 54 awM
  have HC1 : Hid (∀ (W : World) (g b : Nat), b = W.heap.size → SRd matE W (some ⟨g, 0, none⟩) awM → Calls Tryz.prog 9 #[.slice (some ⟨b, 0, none⟩) 1 1] (W.alloc (.cells #[.int .i64 2, .int .i64 0, .string ⟨#[]⟩, .slice (some ⟨g, 0, none⟩) 1 1, .int .i64 0, .int .i64 0, .int .i64 0, .slice none 0 0, .bool false, .int .i64 0] 37)) fun e w' => e = .returned (.tuple #[.int .i64 2, .int .i64 0, .int .i64 0]) ∧ (W.alloc (.cells #[.int .i64 2, .int .i64 0, .string ⟨#[]⟩, .slice (some ⟨g, 0, none⟩) 1 1, .int .i64 0, .int .i64 0, .int .i64 0, .slice none 0 0, .bool false, .int .i64 0] 37)).grownBy w' none) := fun W g b hb hg => by
    subst hb
    have hr := lit_rd ndE W 37 [(awX, (some ⟨g, 0, none⟩, 1, 1), (none, 0, 0))]
    have h := f_check (some ⟨W.heap.size, 0, none⟩) 1 [(awX, (some ⟨g, 0, none⟩, 1, 1), (none, 0, 0))] _ ⟨hr, fun q hq => by
      rw [List.mem_singleton.1 hq]
      exact aw_rd (w := W) (hg.grown (World.grownBy_alloc _ _ none) (by simp))⟩ (by simp)
    have e1 : chkT ([(awX, ((some ⟨g, 0, none⟩ : Option Addr), 1, 1), ((none : Option Addr), 0, 0))].map (·.1)) = (2, 0, 0) := aw_one
    rw [e1] at h
    exact h
  have HC2 : Hid (∀ (W : World) (g b : Nat), b = W.heap.size → SRd matE W (some ⟨g, 0, none⟩) awM → Calls Tryz.prog 9 #[.slice (some ⟨b, 0, none⟩) 2 2] (W.alloc (.cells #[.int .i64 2, .int .i64 0, .string ⟨#[]⟩, .slice (some ⟨g, 0, none⟩) 1 1, .int .i64 0, .int .i64 0, .int .i64 0, .slice none 0 0, .bool false, .int .i64 0, .int .i64 4, .int .i64 1, .string ⟨#[]⟩, .slice none 0 0, .int .i64 0, .int .i64 0, .int .i64 0, .slice none 0 0, .bool false, .int .i64 1] 37)) fun e w' => e = .returned (.tuple #[.int .i64 0, .int .i64 1, .int .i64 191]) ∧ (W.alloc (.cells #[.int .i64 2, .int .i64 0, .string ⟨#[]⟩, .slice (some ⟨g, 0, none⟩) 1 1, .int .i64 0, .int .i64 0, .int .i64 0, .slice none 0 0, .bool false, .int .i64 0, .int .i64 4, .int .i64 1, .string ⟨#[]⟩, .slice none 0 0, .int .i64 0, .int .i64 0, .int .i64 0, .slice none 0 0, .bool false, .int .i64 1] 37)).grownBy w' none) := fun W g b hb hg => by
    subst hb
    have hr := lit_rd ndE W 37 [(awX, (some ⟨g, 0, none⟩, 1, 1), (none, 0, 0)), (awC, (none, 0, 0), (none, 0, 0))]
    have h := f_check (some ⟨W.heap.size, 0, none⟩) 2 [(awX, (some ⟨g, 0, none⟩, 1, 1), (none, 0, 0)), (awC, (none, 0, 0), (none, 0, 0))] _ ⟨hr, fun q hq => by
      rcases List.mem_cons.1 hq with rfl | hq
      · exact aw_rd (w := W) (hg.grown (World.grownBy_alloc _ _ none) (by simp))
      · rw [List.mem_singleton.1 hq]
        exact awc_rd _⟩ (by simp)
    have e1 : chkT ([(awX, ((some ⟨g, 0, none⟩ : Option Addr), 1, 1), ((none : Option Addr), 0, 0)), (awC, ((none : Option Addr), 0, 0), ((none : Option Addr), 0, 0))].map (·.1)) = (0, 1, 191) := aw_two
    rw [e1] at h
    exact h
  go_enter Tryz.func11, Tryz.ntmps11
  go_wp2_with fail
  have z1 : (w.alloc (.cells #[.int .i64 1, .string nameS, .string ⟨#[120]⟩] 54)).heap.size = w.heap.size + 1 := size_alloc _ _
  have z2 : ((w.alloc (.cells #[.int .i64 1, .string nameS, .string ⟨#[120]⟩] 54)).alloc (.cells #[.int .i64 2, .int .i64 0, .string ⟨#[]⟩, .slice (some ⟨w.heap.size, 0, none⟩) 1 1, .int .i64 0, .int .i64 0, .int .i64 0, .slice none 0 0, .bool false, .int .i64 0] 37)).heap.size = w.heap.size + 1 + 1 := by rw [size_alloc, z1]
  have g1 := World.grownBy_alloc w (.cells #[.int .i64 1, .string nameS, .string ⟨#[120]⟩] 54) none
  have g2 := World.grownBy_alloc (w.alloc (.cells #[.int .i64 1, .string nameS, .string ⟨#[120]⟩] 54)) (.cells #[.int .i64 2, .int .i64 0, .string ⟨#[]⟩, .slice (some ⟨w.heap.size, 0, none⟩) 1 1, .int .i64 0, .int .i64 0, .int .i64 0, .slice none 0 0, .bool false, .int .i64 0] 37) none
  have g3 := World.grownBy_alloc ((w.alloc (.cells #[.int .i64 1, .string nameS, .string ⟨#[120]⟩] 54)).alloc (.cells #[.int .i64 2, .int .i64 0, .string ⟨#[]⟩, .slice (some ⟨w.heap.size, 0, none⟩) 1 1, .int .i64 0, .int .i64 0, .int .i64 0, .slice none 0 0, .bool false, .int .i64 0] 37)) (.cells #[.int .i64 2, .int .i64 0, .string ⟨#[]⟩, .slice (some ⟨w.heap.size, 0, none⟩) 1 1, .int .i64 0, .int .i64 0, .int .i64 0, .slice none 0 0, .bool false, .int .i64 0] 37) none
  have r1 := heap_alloc_new (w.alloc (.cells #[.int .i64 1, .string nameS, .string ⟨#[120]⟩] 54)) (.cells #[.int .i64 2, .int .i64 0, .string ⟨#[]⟩, .slice (some ⟨w.heap.size, 0, none⟩) 1 1, .int .i64 0, .int .i64 0, .int .i64 0, .slice none 0 0, .bool false, .int .i64 0] 37)
  rw [z1] at r1
  refine (HC1.out ((w.alloc (.cells #[.int .i64 1, .string nameS, .string ⟨#[120]⟩] 54)).alloc (.cells #[.int .i64 2, .int .i64 0, .string ⟨#[]⟩, .slice (some ⟨w.heap.size, 0, none⟩) 1 1, .int .i64 0, .int .i64 0, .int .i64 0, .slice none 0 0, .bool false, .int .i64 0] 37)) w.heap.size _ z2.symm (HG1.out.grown g2 (by simp))).mono ?_
  rintro e w1 ⟨rfl, hg⟩
  have G1 := hid (g1.trans (g2.trans (g3.trans hg)))
  have R1 := hid (((g3.trans hg).block _ (by rw [z2]; omega) (by simp)).trans r1)
  have S1 := hid (HG1.out.grown (g2.trans (g3.trans hg)) (by simp))
  clear hg g1 g2 g3 r1 z1 z2
  obtain ⟨c0, c1, c2, c3, c4, c5, c6, c7, c8, c9⟩ := nx_cells R1.out
  go_wp2_with fail
  have g4 := World.grownBy_alloc w1 (.cells #[.int .i64 2, .int .i64 0, .string ⟨#[]⟩, .slice (some ⟨w.heap.size, 0, none⟩) 1 1, .int .i64 0, .int .i64 0, .int .i64 0, .slice none 0 0, .bool false, .int .i64 0, .int .i64 4, .int .i64 1, .string ⟨#[]⟩, .slice none 0 0, .int .i64 0, .int .i64 0, .int .i64 0, .slice none 0 0, .bool false, .int .i64 1] 37) none
  refine (HC2.out w1 w.heap.size _ rfl S1.out).mono ?_
  rintro e w2 ⟨rfl, hg⟩
  have G2 := hid (G1.out.trans (g4.trans hg))
  clear hg g4 c0 c1 c2 c3 c4 c5 c6 c7 c8 c9
  go_wp2
  go_ret
  exact ⟨rfl, G2.out⟩
end Go.Proofs.YthbodkgcbfplgaaGreat
