/- Package parse: nested, brackets. -/
import Derived.Test.YtnimdngiejcljaaPu
import Derived.Test.YtnimdngiejcljaaZb
namespace Go.Proofs.Ytnimdngiejcljaa
open Go.RowKit
set_option linter.unusedVariables false
set_option linter.unusedSimpArgs false
set_option maxRecDepth 20000

/-- A method of the reader that reads as X says. -/
def LvOk (b p : Nat) (K : Tk) (fn : Nat) (X : Nat → List Tok → Rs (List Nd)) : Prop :=
  ∀ (nest k : Nat) (v : Value) (L : List Row) (ts : List Tok) (w : World), RdAt w b p K k (nest : Int) v L → Ahead K k ts → L.length ≤ k → nest ≤ 64 → X nest ts ≠ .out → Calls Try.prog fn #[.pointer (some ⟨p, 0, none⟩)] w fun e w' => PQ b p K k (nest : Int) v L (X nest ts) w e w'
theorem fr_open (p : Nat) (w : World) (v : Value) : Fr (Me p) w (w.setCell ⟨p, 2, none⟩ v) := fr_set p 2 w v
theorem nest_no {sign : ByteArray} {nest : Nat} {X : Nat → List Tok → Rs (List Nd)} {ts : List Tok} (h : isB sign ts = false) : nestR sign nest X ts = .bad (hd ts).2.1 (failC ts) := by unfold nestR must; rw [if_neg (by rw [h]; simp)]; rfl
theorem nest_deep {sign : ByteArray} {nest : Nat} {X : Nat → List Tok → Rs (List Nd)} {ts : List Tok} (h : isB sign ts = true) (hn : nest = 64) : nestR sign nest X ts = .bad (hd ts).2.1 182 := by unfold nestR must; rw [if_pos h, bind_ok, if_pos hn]
theorem nest_yes {sign : ByteArray} {nest : Nat} {X : Nat → List Tok → Rs (List Nd)} {ts : List Tok} (h : isB sign ts = true) (hn : nest ≠ 64) : nestR sign nest X ts = X (nest + 1) ts.tail := by unfold nestR must; rw [if_pos h, bind_ok, if_neg hn]
set_option maxHeartbeats 2000000 in
theorem f_nested {b p : Nat} {K : Tk} (fn : Nat) (X : Nat → List Tok → Rs (List Nd)) (hE : ∀ w, (callFunc fn #[.pointer (some ⟨p, 0, none⟩)]).run Try.prog w = .ok (.enter fn #[.pointer (some ⟨p, 0, none⟩)]) w) (hX : LvOk b p K fn X) (sign : ByteArray) {nest k : Nat} {v : Value} {L : List Row} {ts : List Tok} {w : World} (h : RdAt w b p K k (nest : Int) v L) (ha : Ahead K k ts) (hL : L.length ≤ k) (hn : nest ≤ 64) (hne : nestR sign nest X ts ≠ .out) :
    Calls Try.prog 73 #[.pointer (some ⟨p, 0, none⟩), .string sign, .func (.func fn) #[.pointer (some ⟨p, 0, none⟩)] #[]] w fun e w' => PQ b p K k (nest : Int) v L (nestR sign nest X ts) w e w' := by
  have H := hid h
  have HA := hid ha
  have HX := hid hX
  have HNE := hid hne
  have HL := hid hL
  have hk := ha.lt
  have hs := ha.small
  clear h ha hX hne hL
  cases hb : isB sign ts with
  | false =>
    rw [nest_no hb]
    have HB := hid hb
    clear hb HNE
    go_enter Try.func73, Try.ntmps73
    go_wp2_with fail
    refine (f_is H.out HA.out sign).mono ?_
    rintro e w1 ⟨rfl, g1⟩
    have H1 := hid (H.out.grown g1)
    have G1 := hid g1
    rw [HB.out]
    clear g1
    go_wp2_with fail
    refine (f_must H1.out HA.out false).mono ?_
    rintro e w2 ⟨⟨h, _⟩ | ⟨_, rfl⟩, g2⟩
    · cases h
    · have G2 : Hid (w.grownBy w2 none) := G1.out.trans g2
      clear g2
      go_wp2
      exact ⟨rfl, rfl, .of G2.out⟩
  | true =>
    have HB := hid hb
    by_cases h64 : nest = 64
    · rw [nest_deep hb h64]
      have q0 : ((nest : Int) == 64) = true := by subst h64; rfl
      clear hb HNE h64
      go_enter Try.func73, Try.ntmps73
      go_wp2_with fail
      refine (f_is H.out HA.out sign).mono ?_
      rintro e w1 ⟨rfl, g1⟩
      have H1 := hid (H.out.grown g1)
      have G1 := hid g1
      rw [HB.out]
      clear g1
      go_wp2_with fail
      refine (f_must H1.out HA.out true).mono ?_
      rintro e w2 ⟨⟨_, rfl⟩ | ⟨h, _⟩, g2⟩
      · have G2 : Hid (w.grownBy w2 none) := G1.out.trans g2
        have H2 := hid (H1.out.grown g2)
        have c2 := H2.out.cells.2.2.1
        clear g2
        go_wp2_with fail
        refine (f_throw H2.out HA.out 182).mono ?_
        rintro e w3 ⟨rfl, g3⟩
        have G3 : Hid (w.grownBy w3 none) := G2.out.trans g3
        clear g3
        go_wp2
        exact ⟨rfl, rfl, .of G3.out⟩
      · cases h
    · rw [nest_yes hb h64] at HNE ⊢
      have q0 : ((nest : Int) == 64) = false := by simp; omega
      have HA2 := hid (HA.out.next (mean_next hb))
      have hn6 : nest < 64 := by omega
      clear hb h64
      go_enter Try.func73, Try.ntmps73
      go_wp2_with fail
      refine (f_is H.out HA.out sign).mono ?_
      rintro e w1 ⟨rfl, g1⟩
      have H1 := hid (H.out.grown g1)
      have G1 := hid g1
      rw [HB.out]
      clear g1
      go_wp2_with fail
      refine (f_must H1.out HA.out true).mono ?_
      rintro e w2 ⟨⟨_, rfl⟩ | ⟨h, _⟩, g2⟩
      · have G2 : Hid (w.grownBy w2 none) := G1.out.trans g2
        have H2 := hid (H1.out.grown g2)
        obtain ⟨_, c1, c2, _⟩ := H2.out.cells
        have u1 := H2.out.free 1
        have u2 := H2.out.free 2
        have hst := H2.out.step (World.grownBy.refl _ _)
        have H3 := hid hst.1
        have F3 := hid hst.2
        obtain ⟨_, d1, d2, _⟩ := H3.out.cells
        have t2 := H3.out.free 2
        have H4 := hid (H3.out.open ((nest + 1 : Nat) : Int))
        rw [show ((nest + 1 : Nat) : Int) = (nest : Int) + 1 by omega] at H4
        have F4 : Hid (Fr (Me p) w ((w2.setCell ⟨p, 1, none⟩ (.int .i64 ((k : Int) + 1))).setCell ⟨p, 2, none⟩ (.int .i64 ((nest : Int) + 1)))) := ((Fr.of (S := Me p) G2.out).trans F3.out (fun _ _ e => e)).trans (fr_open p _ _) (fun _ _ e => e)
        have HP : Hid (Calls Try.prog fn #[.pointer (some ⟨p, 0, none⟩)] ((w2.setCell ⟨p, 1, none⟩ (.int .i64 ((k : Int) + 1))).setCell ⟨p, 2, none⟩ (.int .i64 ((nest : Int) + 1))) fun e w' => PQ b p K (k + 1) (((nest + 1 : Nat) : Int)) v L (X (nest + 1) ts.tail) ((w2.setCell ⟨p, 1, none⟩ (.int .i64 ((k : Int) + 1))).setCell ⟨p, 2, none⟩ (.int .i64 ((nest : Int) + 1))) e w') :=
          HX.out (nest + 1) (k + 1) v L ts.tail _ (by rw [show ((nest + 1 : Nat) : Int) = (nest : Int) + 1 by omega]; exact H4.out) HA2.out (by have := HL.out; omega) (by omega) HNE.out
        generalize hW : (w2.setCell ⟨p, 1, none⟩ (.int .i64 ((k : Int) + 1))).setCell ⟨p, 2, none⟩ (.int .i64 ((nest : Int) + 1)) = W4 at H4 F4 HP
        have HW4 := hid hW
        clear g2 hst hW HX
        go_wp2_with fail
        rw [HW4.out]
        refine HP.out.mono ?_
        intro e w5 h5
        cases hx : X (nest + 1) ts.tail with
        | out => exact absurd hx HNE.out
        | bad q c =>
          rw [hx] at h5
          obtain ⟨rfl, f5⟩ := h5
          have HXE := hid hx
          have F5 := hid ((F4.out.mono (S' := Wr p v) (fun j _ e => .inl e)).trans f5 (fun _ _ e => e))
          clear hx f5 HP
          go_wp2
          refine ⟨rfl, ?_⟩
          rw [HXE.out]
          exact ⟨rfl, F5.out⟩
        | ok a r =>
          rw [hx] at h5
          obtain ⟨rfl, v5, k5, Q5, h5, hq5, ha5, hk5, a5⟩ := h5
          have HXE := hid hx
          have H5 := hid h5
          have HQ5 := hid hq5
          have HA5 := hid ha5
          have A5 := hid a5
          have x2 : w5.cell? ⟨p, 2, none⟩ = some (.int .i64 ((nest : Int) + 1)) := by
            have := H5.out.cells.2.2.1
            rw [show ((nest + 1 : Nat) : Int) = (nest : Int) + 1 by omega] at this
            exact this
          have z2 := H5.out.free 2
          have H6 := hid (H5.out.open (nest : Int))
          have F6 := hid (fr_open p w5 (.int .i64 (nest : Int)))
          clear hx h5 hq5 ha5 a5 HP c1 c2 u1 u2 d1 d2 t2
          go_wp2
          go_end0
          rw [HXE.out]
          exact ⟨rfl, v5, k5, Q5, H6.out, HQ5.out, HA5.out, by omega, (Adv.me F4.out).trans (A5.out.trans (.me F6.out))⟩
      · cases h
theorem brack_bad {nest : Nat} {X : Nat → List Tok → Rs (List Nd)} {ts : List Tok} {q c : Int} (h : nestR ⟨#[40]⟩ nest X ts = .bad q c) : brackR nest X ts = .bad q c := by unfold brackR; rw [h, bind_bad]
theorem brack_ok {nest : Nat} {X : Nat → List Tok → Rs (List Nd)} {ts r : List Tok} {a : List Nd} (h : nestR ⟨#[40]⟩ nest X ts = .ok a r) : brackR nest X ts = (need ⟨#[41]⟩ r).bind fun _ r => .ok a r := by unfold brackR; rw [h, bind_ok]
theorem ent36 (caps : Array Value) (w : World) : (callFunc 36 caps).run Try.prog w = .ok (.enter 36 caps) w := by kernel_rfl
set_option maxHeartbeats 1000000 in
theorem f_brackets {b p : Nat} {K : Tk} (X : Nat → List Tok → Rs (List Nd)) (hX : LvOk b p K 36 X) {nest k : Nat} {v : Value} {L : List Row} {ts : List Tok} {w : World} (h : RdAt w b p K k (nest : Int) v L) (ha : Ahead K k ts) (hL : L.length ≤ k) (hn : nest ≤ 64) (hne : brackR nest X ts ≠ .out) :
    Calls Try.prog 74 #[.pointer (some ⟨p, 0, none⟩)] w fun e w' => PQ b p K k (nest : Int) v L (brackR nest X ts) w e w' := by
  have hne2 : nestR ⟨#[40]⟩ nest X ts ≠ .out := fun e => hne (by unfold brackR; rw [e]; rfl)
  have HN := hid (f_nested 36 X (ent36 _) hX ⟨#[40]⟩ h ha hL hn hne2)
  have HNE := hid hne2
  clear h ha hL hne hne2
  go_enter Try.func74, Try.ntmps74
  go_wp2_with fail
  refine HN.out.mono ?_
  intro e w1 h1
  cases hx : nestR ⟨#[40]⟩ nest X ts with
  | out => exact absurd hx HNE.out
  | bad q c =>
    rw [hx] at h1
    obtain ⟨rfl, f1⟩ := h1
    have HB := hid (brack_bad hx)
    have F1 := hid f1
    clear hx f1 HN
    go_wp2
    refine ⟨rfl, ?_⟩
    rw [HB.out]
    exact ⟨rfl, F1.out⟩
  | ok a r =>
    rw [hx] at h1
    obtain ⟨rfl, v1, k1, Q1, h1, hq1, ha1, hk1, a1⟩ := h1
    have HB := hid (brack_ok hx)
    have H1 := hid h1
    have HQ1 := hid hq1
    have HA1 := hid ha1
    have A1 := hid a1
    clear hx h1 hq1 ha1 a1 HN
    go_wp2_with fail
    refine (f_needs H1.out HA1.out ⟨#[41]⟩).mono ?_
    rintro e w2 (⟨hb, rfl, h2, f2⟩ | ⟨hb, rfl, g2⟩)
    · have HB2 : Hid (brackR nest X ts = .ok a r.tail) := by
        show _ = _
        rw [HB.out, need_yes hb, bind_ok]
      have H2 := hid h2
      have F2 := hid f2
      have HA2 := hid (HA1.out.next (mean_next hb))
      clear hb h2 f2
      go_wp2
      go_end0
      rw [HB2.out]
      exact ⟨rfl, v1, k1 + 1, Q1, H2.out, HQ1.out, HA2.out, by omega, A1.out.trans (.me F2.out)⟩
    · have HB2 : Hid (brackR nest X ts = .bad (hd r).2.1 (failC r)) := by
        show _ = _
        rw [HB.out, need_no hb, bind_bad]
      have F2 : Hid (Fr (Wr p v) w w2) := (A1.out.trans (.gb (v := v1) g2)).fr
      clear hb g2
      go_wp2
      refine ⟨rfl, ?_⟩
      rw [HB2.out]
      exact ⟨rfl, F2.out⟩
end Go.Proofs.Ytnimdngiejcljaa
