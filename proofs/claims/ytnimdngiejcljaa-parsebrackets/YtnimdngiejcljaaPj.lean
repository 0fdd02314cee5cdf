/- Package parse: token, span; isKept. -/
import Derived.Test.YtnimdngiejcljaaPf
namespace Go.Proofs.Ytnimdngiejcljaa
open Go.RowKit
set_option linter.unusedVariables false
set_option linter.unusedSimpArgs false
set_option maxRecDepth 20000

/-- A reader lives through what writes new blocks. -/
theorem RdAt.past {S : Nat → Prop} {w W W' : World} {b p : Nat} {K : Tk} {k0 k : Nat} {op0 op : Int} {v : Value} {L : List Row} (h0 : RdAt w b p K k0 op0 v L) (h : RdAt W b p K k op v L) (hf : Fr S W W') (hs : ∀ j, S j → w.heap.size ≤ j) : RdAt W' b p K k op v L :=
  h.fr hf (fun j hj => ⟨Nat.le_trans h0.hb (hs j hj), fun e => by have := (SOwn.block h0.nds.own j e).2; have := hs j hj; omega, fun q hq => ⟨fun e => by have := (SOwn.block (h0.nds.mat q hq) j e).2; have := hs j hj; omega, fun e => by have := (SOwn.block (h0.nds.nam q hq) j e).2; have := hs j hj; omega⟩⟩)
def tokOf (kd : Int) (ts : List Tok) : Rs Tok := if (hd ts).1 = kd then .ok (hd ts) ts.tail else fail ts
set_option maxHeartbeats 400000 in
theorem f_token {w : World} {b p : Nat} {K : Tk} {k : Nat} {op : Int} {v : Value} {L : List Row} {ts : List Tok} (h : RdAt w b p K k op v L) (ha : Ahead K k ts) (kd : Int) (h0 : kd ≠ 0) :
    Calls Try.prog 86 #[.pointer (some ⟨p, 0, none⟩), .int .i64 kd] w fun e w' => ReadOut b p K k op v L (tokOf kd ts) tkV w e w' := by
  have HA := hid ha
  have hk := ha.lt
  have hs := ha.small
  have HC := hid (ha.next)
  have H0 := hid (h.grown (World.grownBy_alloc w (.cells #[.int .i64 0, .int .i64 0, .string ⟨#[]⟩, .int .i64 0] 52) none))
  have HG0 := hid (World.grownBy_alloc w (.cells #[.int .i64 0, .int .i64 0, .string ⟨#[]⟩, .int .i64 0] 52) none)
  have HB0 := hid (heap_alloc_new w (.cells #[.int .i64 0, .int .i64 0, .string ⟨#[]⟩, .int .i64 0] 52))
  have HZ : Hid ((w.alloc (.cells #[.int .i64 0, .int .i64 0, .string ⟨#[]⟩, .int .i64 0] 52)).heap.size = w.heap.size + 1) := size_alloc _ _
  have HB := hid (fun W : World => heap_alloc_new W (.cells #[.int .i64 (hd ts).1, .int .i64 (hd ts).2.1, .string (hd ts).2.2.1, .int .i64 (hd ts).2.2.2] 52))
  have HGA := hid (fun W : World => World.grownBy_alloc W (.cells #[.int .i64 (hd ts).1, .int .i64 (hd ts).2.1, .string (hd ts).2.2.1, .int .i64 (hd ts).2.2.2] 52) none)
  have HPL := hid h.lt
  have HH := hid h
  unfold tokOf
  by_cases hc : (hd ts).1 = kd
  · have q0 : ((hd ts).1 == kd) = true := by simpa using hc
    have HN : Hid ((hd ts).1 ≠ 0) := by show _ ≠ _; rw [hc]; exact h0
    rw [if_pos hc]
    clear h ha hc h0
    go_enter Try.func86, Try.ntmps86
    go_wp2_with fail
    refine (f_here H0.out HA.out).mono ?_
    rintro e w1 ⟨rfl, g1⟩
    have B1 := hid ((g1.block w.heap.size (by rw [HZ.out]; omega) (by simp)).trans HB0.out)
    have hz1 : w.heap.size < w1.heap.size := by have := g1.size; rw [HZ.out] at this; omega
    have G1 : Hid (w.grownBy (w1.alloc (.cells #[.int .i64 (hd ts).1, .int .i64 (hd ts).2.1, .string (hd ts).2.2.1, .int .i64 (hd ts).2.2.2] 52)) none) := (HG0.out.trans g1).trans (HGA.out w1)
    have H1 := hid ((H0.out.grown g1).grown (HGA.out w1))
    obtain ⟨z0, z1, z2, z3⟩ := cell4 (HB.out w1)
    have B2 := hid ((((HGA.out w1).block w.heap.size hz1 (by simp)).trans B1.out))
    clear g1 z1 z2 z3
    unfold tkV
    go_wp2_with fail
    refine (f_must H1.out HA.out true).mono ?_
    rintro e w2 ⟨⟨_, rfl⟩ | ⟨h, _⟩, g2⟩
    · have G2 : Hid (w.grownBy w2 none) := G1.out.trans g2
      have hz2 : w.heap.size < w2.heap.size := by have := g2.size; simp only [size_alloc] at this; omega
      have B3 := hid ((g2.block w.heap.size (by simp only [size_alloc]; omega) (by simp)).trans B2.out)
      have B4 := hid ((g2.block w1.heap.size (by simp only [size_alloc]; omega) (by simp)).trans (HB.out w1))
      have H2 := hid (H1.out.grown g2)
      have HS := hid (H2.out.at (k + 1))
      rw [show ((k + 1 : Nat) : Int) = (k : Int) + 1 by omega] at HS
      have HFS := hid (fr_set p 1 w2 (.int .i64 ((k : Int) + 1)))
      obtain ⟨c0, c1, c2, c3⟩ := H2.out.cells
      have z1 := H2.out.free 1
      have hne1 : p ≠ w1.heap.size := by have := HPL.out; omega
      have hne2 : p ≠ w.heap.size := by have := HPL.out; omega
      have hne3 : w.heap.size ≠ w1.heap.size := by omega
      obtain ⟨y0, y1, y2, y3⟩ := cell4 B4.out
      obtain ⟨x0, x1, x2, x3⟩ := cell4 B3.out
      have u0 := free_row B3.out 0
      have u1 := free_row B3.out 1
      have u2 := free_row B3.out 2
      have u3 := free_row B3.out 3
      have HROW : Hid ((w2.setCell ⟨p, 1, none⟩ (.int .i64 ((k : Int) + 1))).heap[w.heap.size]? = some (.cells #[.int .i64 0, .int .i64 0, .string ⟨#[]⟩, .int .i64 0] 52 (0, 0))) := by show _ = _; rw [set_other (fun e => hne2 e.symm)]; exact B3.out
      clear g2 c0 c2 c3 z0
      go_wp2
      generalize hW : w2.setCell ⟨p, 1, none⟩ (.int .i64 ((k : Int) + 1)) = W at *
      refine bodyPost_ret (v := .agg #[.int .i64 (hd ts).1, .int .i64 (hd ts).2.1, .string (hd ts).2.2.1, .int .i64 (hd ts).2.2.2]) (results_cell_row Try.results86 _ _ w.heap.size 52 _ (0, 0) _ rfl (row4 HROW.out _ _ _ _) Try.underlying52 rfl isz32) rfl ?_
      have gp := gb_put4 W w.heap.size (.int .i64 (hd ts).1) (.int .i64 (hd ts).2.1) (.string (hd ts).2.2.1) (.int .i64 (hd ts).2.2.2)
      have F1 : Fr (Me p) w W := (Fr.of (S := Me p) G2.out).trans HFS.out (fun _ _ e => e)
      refine ⟨rfl, k + 1, RdAt.past (S := fun j => j = w.heap.size) HH.out HS.out (Fr.row gp (fun j e => by cases e; rfl)) (fun j e => Nat.le_of_eq e.symm), HC.out HN.out, by omega, F1.trans (Fr.row (S := fun j => j = w.heap.size) gp (fun j e => by cases e; rfl)) (fun j hj e => by omega)⟩
    · cases h
  · have q0 : ((hd ts).1 == kd) = false := by simpa using hc
    rw [if_neg hc]
    clear h ha hc h0
    go_enter Try.func86, Try.ntmps86
    go_wp2_with fail
    refine (f_here H0.out HA.out).mono ?_
    rintro e w1 ⟨rfl, g1⟩
    have G1 : Hid (w.grownBy (w1.alloc (.cells #[.int .i64 (hd ts).1, .int .i64 (hd ts).2.1, .string (hd ts).2.2.1, .int .i64 (hd ts).2.2.2] 52)) none) := (HG0.out.trans g1).trans (HGA.out w1)
    have H1 := hid ((H0.out.grown g1).grown (HGA.out w1))
    obtain ⟨z0, z1, z2, z3⟩ := cell4 (HB.out w1)
    clear g1 z1 z2 z3
    unfold tkV
    go_wp2_with fail
    refine (f_must H1.out HA.out false).mono ?_
    rintro e w2 ⟨⟨h, _⟩ | ⟨_, rfl⟩, g2⟩
    · cases h
    · have G2 : Hid (w.grownBy w2 none) := G1.out.trans g2
      clear g2
      go_wp2
      exact ⟨rfl, rfl, .of G2.out⟩
theorem f_span {w : World} {b p : Nat} {K : Tk} {k : Nat} {op : Int} {v : Value} {L : List Row} {ts : List Tok} (h : RdAt w b p K k op v L) (ha : Ahead K k ts) :
    Calls Try.prog 81 #[.pointer (some ⟨p, 0, none⟩)] w fun e w' => ReadOut b p K k op v L (spanT ts) (.int .i64) w e w' := by
  have HT := hid (f_token h ha 2 (by decide))
  have f3 := fld3 (.int .i64 (hd ts).1) (.int .i64 (hd ts).2.1) (.string (hd ts).2.2.1) (.int .i64 (hd ts).2.2.2)
  unfold tokOf at HT
  unfold spanT
  by_cases hc : (hd ts).1 = 2
  · rw [if_pos hc] at HT ⊢
    clear h ha hc
    go_enter Try.func81, Try.ntmps81
    go_wp2_with fail
    refine HT.out.mono ?_
    rintro e w1 ⟨rfl, h1⟩
    have H1 : Hid (∃ k', RdAt w1 b p K k' op v L ∧ Ahead K k' ts.tail ∧ k < k' ∧ Fr (Me p) w w1) := h1
    clear HT h1
    unfold tkV
    go_wp2
    go_ret
    exact ⟨rfl, H1.out⟩
  · rw [if_neg hc] at HT ⊢
    clear h ha hc
    go_enter Try.func81, Try.ntmps81
    go_wp2_with fail
    refine HT.out.mono ?_
    rintro e w1 ⟨rfl, h1⟩
    have H1 : Hid (Fr (Me p) w w1) := h1
    clear HT h1
    go_wp2
    exact ⟨rfl, rfl, H1.out⟩
theorem idx92 (x y z u : Value) (w : World) : (Instr.index 92 (.agg #[x, y, z, u]) (.int .i64 0)).run Try.prog w = .ok x w ∧ (Instr.index 92 (.agg #[x, y, z, u]) (.int .i64 1)).run Try.prog w = .ok y w ∧ (Instr.index 92 (.agg #[x, y, z, u]) (.int .i64 2)).run Try.prog w = .ok z w ∧ (Instr.index 92 (.agg #[x, y, z, u]) (.int .i64 3)).run Try.prog w = .ok u w :=
  ⟨by kernel_rfl, by kernel_rfl, by kernel_rfl, by kernel_rfl⟩
/-- The rows whose words are kept. -/
def keptRow : Nat → List ByteArray
  | 0 => funcsR
  | 1 => aggsR
  | 2 => opsR
  | _ => grpsR
theorem kept_none {q : Tok} (h : ∀ j, j < 4 → numIn (keptRow j) q = 0) : keptB q = (decide (q.2.2.1 = boolS) || decide (q.2.2.1 = offS)) := by
  have h0 := h 0 (by omega)
  have h1 := h 1 (by omega)
  have h2 := h 2 (by omega)
  have h3 := h 3 (by omega)
  simp only [keptRow] at h0 h1 h2 h3
  unfold keptB
  rw [h0, h1, h2, h3]
  rfl
theorem kept_some {q : Tok} {j : Nat} (hj : j < 4) (h : numIn (keptRow j) q ≠ 0) : keptB q = true := by
  have hj4 : j = 0 ∨ j = 1 ∨ j = 2 ∨ j = 3 := by omega
  unfold keptB
  rcases hj4 with rfl | rfl | rfl | rfl <;> simp only [keptRow] at h <;> simp [h]
/-- A slice of a row of words, in a world. -/
def KeptAt (q : Tok) (j : Nat) (w : World) (v : Value) : Prop := ∀ W, w.grownBy W none → Calls Try.prog 55 #[v, tkV q] W fun e w' => e = .returned (.int .i64 (numIn (keptRow j) q)) ∧ W.grownBy w' none
theorem kept_of {q : Tok} {j : Nat} {w : World} {a : Option Addr} {c : Nat} {l : List ByteArray} (e : l = keptRow j) (h : SRd strE w a l) (hl : l.length ≤ 1000) : KeptAt q j w (.slice a l.length c) := fun W hg => by
  subst e
  exact f_numIn a c _ q W (h.grown hg (by simp)) hl
theorem KeptAt.grown {q : Tok} {j : Nat} {w w' : World} {v : Value} (h : KeptAt q j w v) (hg : w.grownBy w' none) : KeptAt q j w' v := fun W h2 => h W (hg.trans h2)
end Go.Proofs.Ytnimdngiejcljaa
