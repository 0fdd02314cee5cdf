/- Package parse: question. -/
import Derived.Test.YtnimdngiejcljaaPp
namespace Go.Proofs.Ytnimdngiejcljaa
open Go.RowKit
set_option linter.unusedVariables false
set_option linter.unusedSimpArgs false
set_option maxRecDepth 20000

theorem isz44 : (Try.prog.info? 44).map (·.size) = some 3 := by kernel_rfl
/-- A question under way: the result's box, the matcher's box. -/
structure QAt (w : World) (A B b p : Nat) (K : Tk) (k : Nat) (op : Int) (v : Value) (L : List Row) (N : Int) (s : ByteArray) (W : World) : Prop where
  rd : RdAt W b p K k op v L
  ra : W.heap[A]? = some (.cells #[.int .i64 0, .string ⟨#[]⟩, .string ⟨#[]⟩] 44 (0, 0))
  rb : W.heap[B]? = some (.cells #[.int .i64 N, .string s, .string ⟨#[]⟩] 44 (0, 0))
  fr : Fr (Me p) w W
  lo : w.heap.size ≤ A ∧ A < B
  old : ∃ k0 op0, RdAt w b p K k0 op0 v L
theorem QAt.step {w W W' : World} {A B b p : Nat} {K : Tk} {k k' : Nat} {op : Int} {v : Value} {L : List Row} {N : Int} {s : ByteArray} (h : QAt w A B b p K k op v L N s W) (hr : RdAt W' b p K k' op v L) (hf : Fr (Me p) W W') : QAt w A B b p K k' op v L N s W' := by
  obtain ⟨k0, op0, h0⟩ := h.old
  have hp := h0.lt
  have hlo := h.lo
  exact ⟨hr, (hf.block A (Array.getElem?_eq_some_iff.1 h.ra).1 (fun e => by change A = p at e; omega)).trans h.ra, (hf.block B (Array.getElem?_eq_some_iff.1 h.rb).1 (fun e => by change B = p at e; omega)).trans h.rb, h.fr.trans hf (fun _ _ e => e), hlo, h.old⟩
theorem QAt.grown {w W W' : World} {A B b p : Nat} {K : Tk} {k : Nat} {op : Int} {v : Value} {L : List Row} {N : Int} {s : ByteArray} (h : QAt w A B b p K k op v L N s W) (hg : W.grownBy W' none) : QAt w A B b p K k op v L N s W' := h.step (h.rd.grown hg) (.of hg)
theorem QAt.kind {w W : World} {A B b p : Nat} {K : Tk} {k : Nat} {op : Int} {v : Value} {L : List Row} {N : Int} {s : ByteArray} (h : QAt w A B b p K k op v L N s W) (N2 : Int) : QAt w A B b p K k op v L N2 s (W.setCell ⟨B, 0, none⟩ (.int .i64 N2)) := by
  obtain ⟨k0, op0, h0⟩ := h.old
  have hlo := h.lo
  have hf : Fr (fun j => w.heap.size ≤ j) W (W.setCell ⟨B, 0, none⟩ (.int .i64 N2)) := (fr_set B 0 W _).mono (fun j _ e => by change j = B at e; show w.heap.size ≤ j; omega)
  exact ⟨h0.past h.rd hf (fun j e => e), by rw [set_other (by omega)]; exact h.ra, (row3 h.rb _).2, h.fr.trans hf (fun j hj e => by change w.heap.size ≤ j at e; omega), hlo, h.old⟩
abbrev put3 (w : World) (g : Nat) (x y z : Value) : World := ((w.setCell ⟨g, 0, none⟩ x).setCell ⟨g, 1, none⟩ y).setCell ⟨g, 2, none⟩ z
theorem gb_put3 (w : World) (g : Nat) (x y z : Value) : w.grownBy (put3 w g x y z) (some g) := gb_trans (gb_trans (gb_set (g := g) rfl) (gb_set (g := g) rfl) (fun k hk => .inr hk)) (gb_set (g := g) rfl) (fun k hk => .inr hk)
theorem row3p {w : World} {g : Nat} {x y z : Value} {t : TypeId} (h : w.heap[g]? = some (.cells #[x, y, z] t (0, 0))) (x' y' z' : Value) : (put3 w g x' y' z').heap[g]? = some (.cells #[x', y', z'] t (0, 0)) := by
  simp [put3, World.setCell, Array.getElem?_modify, h]
theorem QAt.done {w W : World} {A B b p : Nat} {K : Tk} {k : Nat} {op : Int} {v : Value} {L : List Row} {N : Int} {s : ByteArray} (h : QAt w A B b p K k op v L N s W) (x y z : Value) : RdAt (put3 W A x y z) b p K k op v L ∧ Fr (Me p) w (put3 W A x y z) ∧ (put3 W A x y z).heap[A]? = some (.cells #[x, y, z] 44 (0, 0)) := by
  obtain ⟨k0, op0, h0⟩ := h.old
  have hlo := h.lo
  have hf : Fr (fun j => w.heap.size ≤ j) W (put3 W A x y z) := Fr.row (gb_put3 W A x y z) (fun j e => by cases e; exact hlo.1)
  exact ⟨h0.past h.rd hf (fun j e => e), h.fr.trans hf (fun j hj e => by change w.heap.size ≤ j at e; omega), row3p h.ra _ _ _⟩
def qV (q : Int × ByteArray) : Value := .agg #[.int .i64 q.1, .string q.2, .string ⟨#[]⟩]
theorem quest_ok {ts r : List Tok} {s : ByteArray} (h : lname ts = .ok s r) : questR ts = (must (!decide (numIn kindsR (hd r) = 0)) r).bind fun _ _ => (must (decide ((hd r.tail).1 = 4)) r.tail).bind fun _ r2 => .ok (numIn kindsR (hd r), s) r2 := by unfold questR; rw [h, bind_ok]
theorem quest_bad {ts : List Tok} {q c : Int} (h : lname ts = .bad q c) : questR ts = .bad q c := by unfold questR; rw [h, bind_bad]
set_option maxHeartbeats 2000000 in
theorem f_question {w : World} {b p : Nat} {K : Tk} {k : Nat} {op : Int} {v : Value} {L : List Row} {ts : List Tok} (h : RdAt w b p K k op v L) (ha : Ahead K k ts) :
    Calls Try.prog 85 #[.pointer (some ⟨p, 0, none⟩)] w fun e w' => ReadOut b p K k op v L (questR ts) qV w e w' := by
  have H := hid h
  have HA := hid ha
  have hs := ha.small
  have ga := World.grownBy_alloc w (.cells #[.int .i64 0, .string ⟨#[]⟩, .string ⟨#[]⟩] 44) none
  have HGA := hid ga
  have HL := hid (f_lname (h.grown ga) ha)
  have HB0 := hid (heap_alloc_new w (.cells #[.int .i64 0, .string ⟨#[]⟩, .string ⟨#[]⟩] 44))
  cases hn : lname ts with
  | out => unfold lname at hn; split at hn <;> cases hn
  | bad q c =>
    rw [hn] at HL
    rw [quest_bad hn]
    clear h ha ga hn
    go_enter Try.func85, Try.ntmps85
    go_wp2_with fail
    refine HL.out.mono ?_
    rintro e w1 ⟨rfl, f1⟩
    have HF1 : Hid (Fr (Me p) w w1) := (Fr.of (S := Me p) HGA.out).trans f1 (fun _ _ e => e)
    clear f1
    go_wp2
    exact ⟨rfl, rfl, HF1.out⟩
  | ok s r =>
    rw [hn] at HL
    rw [quest_ok hn]
    clear h ha ga hn
    go_enter Try.func85, Try.ntmps85
    go_wp2_with fail
    refine HL.out.mono ?_
    rintro e w1 ⟨rfl, k1, h1, ha1, hk1, f1⟩
    have HQ1 : Hid (QAt w w.heap.size w1.heap.size b p K k1 op v L 0 s (w1.alloc (.cells #[.int .i64 0, .string s, .string ⟨#[]⟩] 44))) := by
      have g1 := World.grownBy_alloc w1 (.cells #[.int .i64 0, .string s, .string ⟨#[]⟩] 44) none
      have hsz : w.heap.size < w1.heap.size := by have := f1.size; rw [size_alloc] at this; omega
      refine ⟨h1.grown g1, ?_, heap_alloc_new _ _, ((Fr.of (S := Me p) HGA.out).trans f1 (fun _ _ e => e)).trans (.of (S := Me p) g1) (fun _ _ e => e), ⟨Nat.le_refl _, hsz⟩, ⟨k, op, H.out⟩⟩
      rw [g1.block _ hsz (by simp), f1.block _ (by rw [size_alloc]; omega) (fun e => by change w.heap.size = p at e; have := H.out.lt; omega)]
      exact HB0.out
    have HA1 := hid ha1
    have HK1 := hid hk1
    have hlt1 := ha1.lt
    obtain ⟨Bk, eB⟩ : ∃ Bk, Bk = w1.heap.size := ⟨_, rfl⟩
    obtain ⟨Ak, eA⟩ : ∃ Ak, Ak = w.heap.size := ⟨_, rfl⟩
    clear h1 ha1 hk1 f1 HL HGA HB0
    go_wp2_with fail
    refine (f_kinds _).mono ?_
    rintro e w2 ⟨a2, c2, rfl, hr2, g2⟩
    have HQ2 := hid (HQ1.out.grown g2)
    have HR2 := hid hr2
    clear hr2 g2 HQ1
    go_wp2_with fail
    refine (f_here HQ2.out.rd HA1.out).mono ?_
    rintro e w3 ⟨rfl, g3⟩
    have HQ3 := hid (HQ2.out.grown g3)
    have HR3 := hid (HR2.out.grown g3 (by simp))
    clear g3 HQ2 HR2
    go_wp2_with fail
    refine (f_numIn a2 c2 kindsR (hd r) w3 HR3.out (by decide)).mono ?_
    rintro e w4 ⟨rfl, g4⟩
    have HQ4 := hid (HQ3.out.grown g4)
    obtain ⟨z0, z1, z2⟩ := cell3r HQ4.out.rb
    have zf := free_row HQ4.out.rb 0
    obtain ⟨N, eN⟩ : ∃ N, numIn kindsR (hd r) = N := ⟨_, rfl⟩
    have EN := hid eN
    rw [eN]
    have HQ5 := hid (HQ4.out.kind N)
    obtain ⟨y0, y1, y2⟩ := cell3r HQ5.out.rb
    clear g4 HQ3 HR3 HQ4 eN
    by_cases hN : N = 0
    · have q0 : (N != 0) = false := by simpa using hN
      have HE : Hid (∀ α (f : Unit → List Tok → Rs α), (must (!decide (numIn kindsR (hd r) = 0)) r).bind f = .bad (hd r).2.1 (failC r)) := fun α f => by
        rw [EN.out, hN]; rfl
      clear hN
      go_wp2_with fail
      refine (f_must HQ5.out.rd HA1.out false).mono ?_
      rintro e w6 ⟨⟨h, _⟩ | ⟨_, rfl⟩, g6⟩
      · cases h
      · have HF6 := hid (HQ5.out.grown g6).fr
        clear g6
        go_wp2
        refine ⟨rfl, ?_⟩
        rw [HE.out]
        exact ⟨rfl, HF6.out⟩
    · have q0 : (N != 0) = true := by simpa using hN
      have HE : Hid (∀ α (f : Unit → List Tok → Rs α), (must (!decide (numIn kindsR (hd r) = 0)) r).bind f = f () r) := fun α f => by
        rw [EN.out]
        unfold must
        rw [if_pos (by simpa using hN)]
        rfl
      have HA2 := hid (HA1.out.next (numIn_next (row := kindsR) (by rw [EN.out]; exact hN)))
      clear hN
      go_wp2_with fail
      refine (f_must HQ5.out.rd HA1.out true).mono ?_
      rintro e w6 ⟨⟨_, rfl⟩ | ⟨h, _⟩, g6⟩
      · have HQ6 := hid (HQ5.out.grown g6)
        obtain ⟨c0', c1', c2', c3'⟩ := HQ6.out.rd.cells
        have u1 := HQ6.out.rd.free 1
        have hst := HQ6.out.rd.step (World.grownBy.refl _ _)
        have HQ7 := hid (HQ6.out.step hst.1 hst.2)
        obtain ⟨x0, x1, x2⟩ := cell3r HQ7.out.rb
        clear g6 hst c0' c2' c3' HQ5 y0 y1 y2 z0 z1 z2 zf
        have f0 := fld0 (.int .i64 (hd r.tail).1) (.int .i64 (hd r.tail).2.1) (.string (hd r.tail).2.2.1) (.int .i64 (hd r.tail).2.2.2)
        go_wp2_with fail
        refine (f_here HQ7.out.rd HA2.out).mono ?_
        rintro e w8 ⟨rfl, g8⟩
        have HQ8 := hid (HQ7.out.grown g8)
        clear g8 HQ7 x0 x1 x2 HQ6 c1' u1
        unfold tkV
        by_cases h4 : (hd r.tail).1 = 4
        · have q4 : ((hd r.tail).1 == 4) = true := by simpa using h4
          have HE2 : Hid (∀ α (f : Unit → List Tok → Rs α), (must (decide ((hd r.tail).1 = 4)) r.tail).bind f = f () r.tail) := fun α f => by
            unfold must
            rw [if_pos (by simpa using h4)]
            rfl
          clear h4
          go_wp2_with fail
          refine (f_must HQ8.out.rd HA2.out true).mono ?_
          rintro e w9 ⟨⟨_, rfl⟩ | ⟨h, _⟩, g9⟩
          · have HQ9 := hid (HQ8.out.grown g9)
            obtain ⟨x0, x1, x2⟩ := cell3r HQ9.out.rb
            obtain ⟨v0, v1, v2⟩ := cell3r HQ9.out.ra
            have t0 := free_row HQ9.out.ra 0
            have t1 := free_row HQ9.out.ra 1
            have t2 := free_row HQ9.out.ra 2
            have hAB : w.heap.size ≠ w1.heap.size := by have := HQ9.out.lo; omega
            have HD := hid (HQ9.out.done (.int .i64 N) (.string s) (.string ⟨#[]⟩))
            clear g9
            go_wp2
            refine bodyPost_ret (v := .agg #[.int .i64 N, .string s, .string ⟨#[]⟩]) (results_cell_row Try.results85 _ _ w.heap.size 44 _ (0, 0) _ rfl HD.out.2.2 Try.underlying44 rfl isz44) rfl ?_
            rw [HE.out, HE2.out, EN.out]
            exact ⟨rfl, k1 + 1, HD.out.1, HA2.out, by have := HK1.out; omega, HD.out.2.1⟩
          · cases h
        · have q4 : ((hd r.tail).1 == 4) = false := by simpa using h4
          have HE2 : Hid (∀ α (f : Unit → List Tok → Rs α), (must (decide ((hd r.tail).1 = 4)) r.tail).bind f = .bad (hd r.tail).2.1 (failC r.tail)) := fun α f => by
            unfold must
            rw [if_neg (by simpa using h4)]
            rfl
          clear h4
          go_wp2_with fail
          refine (f_must HQ8.out.rd HA2.out false).mono ?_
          rintro e w9 ⟨⟨h, _⟩ | ⟨_, rfl⟩, g9⟩
          · cases h
          · have HF9 := hid (HQ8.out.grown g9).fr
            clear g9
            go_wp2
            refine ⟨rfl, ?_⟩
            rw [HE.out, HE2.out]
            exact ⟨rfl, HF9.out⟩
      · cases h
end Go.Proofs.Ytnimdngiejcljaa
