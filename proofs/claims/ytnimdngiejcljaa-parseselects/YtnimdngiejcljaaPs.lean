/- Package parse: matchers. -/
import Derived.Test.YtnimdngiejcljaaPr
namespace Go.Proofs.Ytnimdngiejcljaa
open Go.RowKit
set_option linter.unusedVariables false
set_option linter.unusedSimpArgs false
set_option maxRecDepth 20000

/-- What matchers answers. -/
def MOut (b p : Nat) (K : Tk) (k : Nat) (op : Int) (v : Value) (L : List Row) (R : Rs (List Mt)) (w : World) (e : Ending) (w' : World) : Prop :=
  match R with
  | .ok ms r => ∃ sl : Sl, e = .returned (slV sl) ∧ SOwn matE 44 w' w.heap.size (slV sl) ms.length ms ∧ ∃ k', RdAt w' b p K k' op v L ∧ Ahead K k' r ∧ k < k' ∧ Fr (Me p) w w'
  | .bad q c => e = .panicked (flt q c) ∧ Fr (Me p) w w'
  | .out => False
theorem AccAt.grown {α : Type} {E : Elem α} {e t : TypeId} {w0 w w' : World} {box rbox b p : Nat} {K : Tk} {op : Int} {v : Value} {L : List Row} {xs : List α} {k : Nat} (h : AccAt E e t w0 box rbox b p K op v L xs k w) (hg : w.grownBy w' none) : AccAt E e t w0 box rbox b p K op v L xs k w' := h.step (h.rd.grown hg) (.of hg)
theorem acc_cell {α : Type} {E : Elem α} {e t : TypeId} {w0 w : World} {box rbox b p : Nat} {K : Tk} {op : Int} {v : Value} {L : List Row} {xs : List α} {k : Nat} (h : AccAt E e t w0 box rbox b p K op v L xs k w) : ∃ sl : Sl, w.cell? ⟨box, 0, none⟩ = some (slV sl) ∧ w.heap[box]? = some (.cells #[slV sl] t (0, 0)) ∧ SOwn E e w (box + 1) (slV sl) xs.length xs := by
  obtain ⟨sl, hb, ho⟩ := h.ex
  exact ⟨sl, one_cell hb, hb, ho⟩
/-- The rest of matchers, behind a first one or none: the list in brackets. -/
theorem mats_tail {w0 w : World} {box rbox b p : Nat} {K : Tk} {op : Int} {v : Value} {L : List Row} (k0 k : Nat) (ms : List Mt) (ts : List Tok) (h : AccAt matE 44 31 w0 box rbox b p K op v L ms k w) (hm : ms.length ≤ 8) (ha : Ahead K k ts) (hk : k0 ≤ k) (Q : Ending → World → Prop)
    (hbad : ∀ q c w', listR mstep ⟨#[123]⟩ ⟨#[125]⟩ 5000 ms ts = .bad q c → Fr (Me p) w0 w' → Q (.panicked (flt q c)) w')
    (hok : ∀ ms2 r k2 w', listR mstep ⟨#[123]⟩ ⟨#[125]⟩ 5000 ms ts = .ok ms2 r → AccAt matE 44 31 w0 box rbox b p K op v L ms2 k2 w' → Ahead K k2 r → k0 < k2 → Q (.returned (.tuple #[])) w') :
    Calls Try.prog 59 #[.pointer (some ⟨p, 0, none⟩), .string ⟨#[123]⟩, .func (.func 84) #[] #[.pointer (some ⟨rbox, 0, none⟩), .pointer (some ⟨box, 0, none⟩)], .string ⟨#[125]⟩] w Q := by
  refine (f_mats 5000 k ms ts w h hm ha (by have := take_ahead ha; omega)).mono fun e w' h2 => ?_
  cases hs : listR mstep ⟨#[123]⟩ ⟨#[125]⟩ 5000 ms ts with
  | out => rw [hs] at h2; exact h2.elim
  | bad q c => rw [hs] at h2; obtain ⟨rfl, h3⟩ := h2; exact hbad q c w' hs h3
  | ok ms2 r =>
    rw [hs] at h2
    obtain ⟨rfl, k2, h3, ha2, hk2⟩ := h2
    exact hok ms2 r k2 w' hs h3.1 ha2 (by omega)
theorem tokA (q : Tok) : tkV q = .agg #[.int .i64 q.1, .int .i64 q.2.1, .string q.2.2.1, .int .i64 q.2.2.2] := rfl
set_option maxHeartbeats 4000000 in
theorem f_matchers {w : World} {b p : Nat} {K : Tk} {k : Nat} {op : Int} {v : Value} {L : List Row} {ts : List Tok} (h : RdAt w b p K k op v L) (ha : Ahead K k ts) :
    Calls Try.prog 80 #[.pointer (some ⟨p, 0, none⟩)] w fun e w' => MOut b p K k op v L (matchR 5000 ts) w e w' := by
  have H := hid h
  have HA := hid ha
  have g0 := World.grownBy_alloc w (.cells #[.pointer (some ⟨p, 0, none⟩)] 46) none
  have HC0 := hid (acc_start (E := matE) (e := 44) (t := 31) h (h.grown g0) (.of g0) (heap_alloc_new w _) (Nat.le_refl _))
  have r0 := one_cell HC0.out.rb
  have HNX := hid (ha.next)
  have HLT := hid h.lt
  obtain ⟨R, eR⟩ : ∃ R, matchR 5000 ts = R := ⟨_, rfl⟩
  rw [eR]
  have ER := hid eR
  rw [size_alloc] at HC0
  clear h ha g0 eR
  go_enter Try.func80, Try.ntmps80
  go_wp2_with fail
  refine (f_here HC0.out.rd HA.out).mono ?_
  rintro e w1 ⟨rfl, g1⟩
  have HC1 := hid (HC0.out.grown g1)
  have HC2 := hid (HC1.out.grown (World.grownBy_alloc w1 (.cells #[.int .i64 (hd ts).1, .int .i64 (hd ts).2.1, .string (hd ts).2.2.1, .int .i64 (hd ts).2.2.2] 52) none))
  have HTB := hid (heap_alloc_new w1 (.cells #[.int .i64 (hd ts).1, .int .i64 (hd ts).2.1, .string (hd ts).2.2.1, .int .i64 (hd ts).2.2.2] 52))
  obtain ⟨t0, t1, t2, t3⟩ := cell4 HTB.out
  obtain ⟨T0, eT0⟩ : ∃ T0, T0 = w1.heap.size := ⟨_, rfl⟩
  clear g1 HC0 HC1
  rw [tokA]
  by_cases h3 : (hd ts).1 = 3
  · have q3 : ((hd ts).1 == 3) = true := by simpa using h3
    have HN3 : Hid ((hd ts).1 ≠ 0) := by show _ ≠ _; rw [h3]; decide
    have HK := hid (f_kept (hd ts))
    rw [tokA] at HK
    cases hk : keptB (hd ts) with
    | true =>
      rw [hk] at HK
      have ER2 : Hid (listR mstep ⟨#[123]⟩ ⟨#[125]⟩ 5000 [] ts = R) := by
        have := ER.out
        unfold matchR at this
        rw [hk, if_neg (by simp)] at this
        exact this
      clear hk h3 ER
      go_wp2_with fail
      refine (HK.out _).mono ?_
      rintro e w3 ⟨rfl, g3⟩
      have HC3 := hid (HC2.out.grown g3)
      have r3 := one_cell HC3.out.rb
      clear g3 t0 t1 t2 t3 r0
      go_wp2_with fail
      refine mats_tail k k [] ts HC3.out (by simp) HA.out (Nat.le_refl _) _ (fun q c w' he hf => ?_) (fun ms2 r k2 w' he hc ha2 hk2 => ?_)
      · rw [ER2.out] at he
        subst he
        have HF := hid hf
        clear hf
        go_wp2
        exact ⟨rfl, rfl, HF.out⟩
      · rw [ER2.out] at he
        subst he
        obtain ⟨sl, b4, hb4, ho4⟩ := acc_cell hc
        have HC4 := hid hc
        have HO4 := hid ho4
        have HA4 := hid ha2
        obtain ⟨x1, x2, x3⟩ := sl
        unfold slV at b4
        clear hc ho4 hb4 ha2
        go_wp2
        go_ret
        exact ⟨(x1, x2, x3), rfl, SOwn.base HO4.out (by have := HC4.out.lo; omega), k2, HC4.out.rd, HA4.out, hk2, HC4.out.fr⟩
    | false =>
      rw [hk] at HK
      have ER2 : Hid (((withR [] 1 nameS ts).bind fun ms r => if isB ⟨#[123]⟩ r = true then listR mstep ⟨#[123]⟩ ⟨#[125]⟩ 5000 ms r else .ok ms r) = R) := by
        have := ER.out
        unfold matchR at this
        rw [hk, decide_eq_true h3, if_pos (by rfl)] at this
        exact this
      clear hk h3 ER
      go_wp2_with fail
      refine (HK.out _).mono ?_
      rintro e w3 ⟨rfl, g3⟩
      have HC3 := hid (HC2.out.grown g3)
      have r3 := one_cell HC3.out.rb
      obtain ⟨sl, b4, hb4, ho4⟩ := acc_cell HC3.out
      have HB4 := hid hb4
      have HO4 := hid ho4
      have hbl : w.heap.size + 1 < w3.heap.size := (Array.getElem?_eq_some_iff.1 hb4).1
      have HW := hid (f_with H.out HC3.out.rd HA.out (w.heap.size + 1 + 1) (by omega) (by omega) sl [] ho4 (by simp) 1 nameS ⟨#[]⟩ HN3.out)
      obtain ⟨x1, x2, x3⟩ := sl
      unfold slV nameS at HW
      unfold slV at b4
      clear g3 t0 t1 t2 t3 r0 hb4 ho4
      go_wp2_with fail
      refine HW.out.mono ?_
      intro e w5 h5
      cases hw : withR [] 1 ⟨#[95, 95, 110, 97, 109, 101, 95, 95]⟩ ts with
      | out => rw [hw] at h5; exact h5.elim
      | bad q c =>
        rw [hw] at h5
        obtain ⟨rfl, f5⟩ := h5
        have ER3 : Hid (R = .bad q c) := by
          have := ER2.out
          unfold nameS at this
          rw [hw, bind_bad] at this
          exact this.symm
        have HF : Hid (Fr (Me p) w w5) := HC3.out.fr.trans f5 (fun j hj e => by
          rcases e with e | e
          · exact e
          · have := (SOwn.block HO4.out j e).1
            omega)
        clear hw f5 HW ER2
        go_wp2
        refine ⟨rfl, ?_⟩
        rw [ER3.out]
        exact ⟨rfl, HF.out⟩
      | ok ms5 r5 =>
        rw [hw] at h5
        obtain ⟨sl5, rfl, ho5, k5, h5, ha5, hk5, f5⟩ := h5
        have HP := hid (AccAt.put (sl := (x1, x2, x3)) (sl2 := sl5) (ys := ms5) HC3.out HB4.out h5 f5 ho5)
        have s5 := HP.out.1
        have z5 := HP.out.2.1
        have HC6 := hid HP.out.2.2
        have r6 := one_cell HC6.out.rb
        obtain ⟨sl6, b6, hb6, ho6⟩ := acc_cell HC6.out
        have HB6 := hid hb6
        have HO6 := hid ho6
        have HA5 := hid ha5
        have hl8 : ms5.length ≤ 8 := by
          have := hw
          unfold withR at this
          split at this
          · rename_i hm
            cases this
            unfold matsB at hm
            simp only [Bool.and_eq_true, decide_eq_true_eq] at hm
            exact hm.1
          · cases this
        have ER3 : Hid ((if isB ⟨#[123]⟩ r5 = true then listR mstep ⟨#[123]⟩ ⟨#[125]⟩ 5000 ms5 r5 else .ok ms5 r5) = R) := by
          have := ER2.out
          unfold nameS at this
          rw [hw, bind_ok] at this
          exact this
        obtain ⟨y1, y2, y3⟩ := sl5
        unfold slV at s5 HP HC6 r6 b6 HB6 HO6 ⊢
        clear hw f5 HW ER2 h5 ha5 ho5 b4 hb6 ho6
        go_wp2_with fail
        refine (f_is HC6.out.rd HA5.out ⟨#[123]⟩).mono ?_
        rintro e w7 ⟨rfl, g7⟩
        have HC7 := hid (HC6.out.grown g7)
        have r7 := one_cell HC7.out.rb
        cases hb : isB ⟨#[123]⟩ r5 with
        | true =>
          have ER4 : Hid (listR mstep ⟨#[123]⟩ ⟨#[125]⟩ 5000 ms5 r5 = R) := by
            have := ER3.out
            rw [if_pos hb] at this
            exact this
          clear hb g7 ER3 r6 b6 s5 z5 r3
          go_wp2_with fail
          refine mats_tail k k5 ms5 r5 HC7.out hl8 HA5.out (Nat.le_of_lt hk5) _ (fun q c w' he hf => ?_) (fun ms2 r k2 w' he hc ha2 hk2 => ?_)
          · rw [ER4.out] at he
            subst he
            have HF := hid hf
            clear hf
            go_wp2
            exact ⟨rfl, rfl, HF.out⟩
          · rw [ER4.out] at he
            subst he
            obtain ⟨sl, b4, hb4, ho4⟩ := acc_cell hc
            have HC4 := hid hc
            have HO4 := hid ho4
            have HA4 := hid ha2
            obtain ⟨u1, u2, u3⟩ := sl
            unfold slV at b4
            clear hc ho4 hb4 ha2
            go_wp2
            go_ret
            exact ⟨(u1, u2, u3), rfl, SOwn.base HO4.out (by have := HC4.out.lo; omega), k2, HC4.out.rd, HA4.out, hk2, HC4.out.fr⟩
        | false =>
          have ER4 : Hid (.ok ms5 r5 = R) := by
            have := ER3.out
            rw [if_neg (by rw [hb]; simp)] at this
            exact this
          obtain ⟨sl8, b8, hb8, ho8⟩ := acc_cell HC7.out
          have HO8 := hid ho8
          obtain ⟨u1, u2, u3⟩ := sl8
          unfold slV at b8
          clear hb g7 ER3 r6 b6 s5 z5 r3 hb8 ho8
          go_wp2
          go_ret
          rw [← ER4.out]
          exact ⟨(u1, u2, u3), rfl, SOwn.base HO8.out (by omega), k5, HC7.out.rd, HA5.out, hk5, HC7.out.fr⟩
  · have q3 : ((hd ts).1 == 3) = false := by simpa using h3
    have ER2 : Hid (listR mstep ⟨#[123]⟩ ⟨#[125]⟩ 5000 [] ts = R) := by
      have := ER.out
      unfold matchR at this
      rw [decide_eq_false h3, if_neg (by simp)] at this
      exact this
    have r3 := one_cell HC2.out.rb
    clear h3 ER
    go_wp2_with fail
    refine mats_tail k k [] ts HC2.out (by simp) HA.out (Nat.le_refl _) _ (fun q c w' he hf => ?_) (fun ms2 r k2 w' he hc ha2 hk2 => ?_)
    · rw [ER2.out] at he
      subst he
      have HF := hid hf
      clear hf
      go_wp2
      exact ⟨rfl, rfl, HF.out⟩
    · rw [ER2.out] at he
      subst he
      obtain ⟨sl, b4, hb4, ho4⟩ := acc_cell hc
      have HC4 := hid hc
      have HO4 := hid ho4
      have HA4 := hid ha2
      obtain ⟨x1, x2, x3⟩ := sl
      unfold slV at b4
      clear hc ho4 hb4 ha2
      go_wp2
      go_ret
      exact ⟨(x1, x2, x3), rfl, SOwn.base HO4.out (by have := HC4.out.lo; omega), k2, HC4.out.rd, HA4.out, hk2, HC4.out.fr⟩
end Go.Proofs.Ytnimdngiejcljaa
