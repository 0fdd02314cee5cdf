/- Package parse: list. -/
import Derived.Test.YtnimdngiejcljaaPh
namespace Go.Proofs.Ytnimdngiejcljaa
open Go.RowKit
set_option linter.unusedVariables false
set_option linter.unusedSimpArgs false
set_option maxRecDepth 20000

/-- What a call answers that goes on from one state to another, or throws. -/
def LOut {α : Type} (I : α → Nat → World → Prop) (K : Tk) (S : Nat → Prop) (w0 : World) (k : Nat) (R : Rs α) (e : Ending) (w' : World) : Prop :=
  match R with
  | .ok a r => e = .returned (.tuple #[]) ∧ ∃ k', I a k' w' ∧ Ahead K k' r ∧ k < k'
  | .bad q c => e = .panicked (flt q c) ∧ Fr S w0 w'
  | .out => False
/-- Where a reader stands. -/
def atW (p : Nat) (w : World) : Nat := match w.cell? ⟨p, 1, none⟩ with
  | some (.int _ n) => n.toNat
  | _ => 0
theorem atW_eq {w : World} {b p : Nat} {K : Tk} {k : Nat} {op : Int} {v : Value} {L : List Row} (h : RdAt w b p K k op v L) : atW p w = k := by
  unfold atW
  rw [h.cells.2.1]
  simp
theorem need_yes {s : ByteArray} {ts : List Tok} (h : isB s ts = true) : need s ts = .ok () ts.tail := by unfold need; rw [if_pos h]
theorem need_no {s : ByteArray} {ts : List Tok} (h : isB s ts = false) : need s ts = .bad (hd ts).2.1 (failC ts) := by unfold need; rw [if_neg (by rw [h]; simp)]; rfl
theorem ent60 (caps : Array Value) (w : World) : (callFunc 60 caps).run Try.prog w = .ok (.enter 60 caps) w := by kernel_rfl
theorem ent84 (caps : Array Value) (w : World) : (callFunc 84 caps).run Try.prog w = .ok (.enter 84 caps) w := by kernel_rfl
set_option maxHeartbeats 1000000 in
theorem f_list {α : Type} (I : α → Nat → World → Prop) (S : Nat → Prop) (w0 : World) (step : α → List Tok → Rs α) (fn : Nat) (caps : Array Value) (opens closes : ByteArray) (hE : ∀ w, (callFunc fn caps).run Try.prog w = .ok (.enter fn caps) w) {b p : Nat} {K : Tk} {op : Int} {v : Value} {L : List Row}
    (hR : ∀ a k w, I a k w → RdAt w b p K k op v L) (hT : ∀ a k k' w w', k ≤ k' → I a k w → RdAt w' b p K k' op v L → Fr (Me p) w w' → I a k' w') (hF : ∀ a k w, I a k w → Fr S w0 w)
    (hC : ∀ a k ts w, I a k w → Ahead K k ts → Calls Try.prog fn caps w fun e w' => LOut I K S w0 k (step a ts) e w')
    (f : Nat) (a : α) (k : Nat) (ts : List Tok) (w : World) (h : I a k w) (ha : Ahead K k ts) (hne : listR step opens closes f a ts ≠ .out) :
    Calls Try.prog 59 #[.pointer (some ⟨p, 0, none⟩), .string opens, .func (.func fn) #[] caps, .string closes] w fun e w' => LOut I K S w0 k (listR step opens closes f a ts) e w' := by
  obtain ⟨R, eR⟩ : ∃ R, R = listR step opens closes f a ts := ⟨_, rfl⟩
  rw [← eR] at hne ⊢
  have ER := hid eR
  have HNE := hid hne
  have H := hid h
  have HA := hid ha
  have HR := hid hR
  have HT := hid hT
  have HF := hid hF
  have HC := hid hC
  clear h ha eR hne hR hT hF hC
  go_enter Try.func59, Try.ntmps59
  go_wp2_with fail
  refine (f_needs (HR.out _ _ _ H.out) HA.out opens).mono ?_
  rintro e w1 (⟨hb, rfl, h1, f1⟩ | ⟨hb, rfl, g1⟩)
  · have H1 : Hid (I a (k + 1) w1) := HT.out _ _ _ _ _ (by omega) H.out h1 f1
    have HA1 := hid (HA.out.next (mean_next hb))
    have ER1 : Hid (R = if isB closes ts.tail = true then .ok a ts.tail.tail else (step a ts.tail).bind (moreR step closes f)) := by
      have := ER.out
      unfold listR at this
      rw [need_yes hb, bind_ok] at this
      exact this
    clear hb h1 f1 ER
    go_wp2_with fail
    refine (f_takes (HR.out _ _ _ H1.out) HA1.out closes).mono ?_
    rintro e w2 (⟨hb, rfl, h2, f2⟩ | ⟨hb, rfl, g2⟩)
    · have H2 : Hid (I a (k + 1 + 1) w2) := HT.out _ _ _ _ _ (by omega) H1.out h2 f2
      have HA2 := hid (HA1.out.next (mean_next hb))
      have ER2 : Hid (R = .ok a ts.tail.tail) := by
        have := ER1.out
        rw [if_pos hb] at this
        exact this
      clear hb h2 f2 ER1
      go_wp2
      go_end0
      rw [ER2.out]
      exact ⟨rfl, _, H2.out, HA2.out, by omega⟩
    · have H2 : Hid (I a (k + 1) w2) := HT.out _ _ _ _ _ (by omega) H1.out ((HR.out _ _ _ H1.out).grown g2) (.of g2)
      have ER2 : Hid (R = (step a ts.tail).bind (moreR step closes f)) := by
        have := ER1.out
        rw [if_neg (by rw [hb]; simp)] at this
        exact this
      clear hb g2 ER1
      go_wp2_with fail
      refine (HC.out a (k + 1) ts.tail w2 H2.out HA1.out).mono ?_
      intro e w3 h3
      cases hs : step a ts.tail with
      | out => rw [hs] at h3; exact h3.elim
      | bad q c =>
        rw [hs] at h3
        obtain ⟨rfl, h3⟩ := h3
        have ER3 : Hid (R = .bad q c) := by
          have := ER2.out
          rw [hs, bind_bad] at this
          exact this
        have H3 := hid h3
        clear h3 hs ER2
        go_wp2
        rw [ER3.out]
        exact ⟨rfl, rfl, H3.out⟩
      | ok a1 r1 =>
        rw [hs] at h3
        obtain ⟨rfl, k1, h3, ha3, hk3⟩ := h3
        have ER3 : Hid (moreR step closes f a1 r1 = R) := by
          have := ER2.out
          rw [hs, bind_ok] at this
          exact this.symm
        have H3 := hid h3
        have HA3 := hid ha3
        clear h3 hs ER2 ha3
        go_wp2_with fail
        go_loopw [] (fun wr => ∃ a2 k2 f2 r2, I a2 k2 wr ∧ Ahead K k2 r2 ∧ k < k2 ∧ Hid (moreR step closes f2 a2 r2 = R)) (fun wr => K.T.length - atW p wr)
        case atStart => exact ⟨a1, k1, f, r1, H3.out, HA3.out, by omega, ER3⟩
        case round =>
          clear H H1 H2 H3 HA HA1 HA3 ER3
          obtain ⟨a2, k2, f2, r2, h4, ha4, hk4, ER4⟩ := hrel
          have H4 := hid h4
          have HA4 := hid ha4
          have hlt := ha4.lt
          clear h4 ha4
          cases f2 with
          | zero => exact absurd ER4.out.symm HNE.out
          | succ f2 =>
            have ER5 : Hid ((if isB ⟨#[44]⟩ r2 = true then (step a2 r2.tail).bind (moreR step closes f2) else (need closes r2).bind fun _ r => .ok a2 r) = R) := ER4.out
            clear ER4
            go_wp2_with fail
            refine (f_takes (HR.out _ _ _ H4.out) HA4.out ⟨#[44]⟩).mono ?_
            rintro e w5 (⟨hb, rfl, h5, f5⟩ | ⟨hb, rfl, g5⟩)
            · have H5 : Hid (I a2 (k2 + 1) w5) := HT.out _ _ _ _ _ (by omega) H4.out h5 f5
              have HA5 := hid (HA4.out.next (mean_next hb))
              have ER6 : Hid ((step a2 r2.tail).bind (moreR step closes f2) = R) := by
                have := ER5.out
                rw [if_pos hb] at this
                exact this
              have HAT : Hid (atW p wr = k2) := atW_eq (HR.out _ _ _ H4.out)
              clear hb h5 f5 ER5
              go_wp2_with fail
              refine (HC.out a2 (k2 + 1) r2.tail w5 H5.out HA5.out).mono ?_
              intro e w6 h6
              cases hs : step a2 r2.tail with
              | out => rw [hs] at h6; exact h6.elim
              | bad q c =>
                rw [hs] at h6
                obtain ⟨rfl, h6⟩ := h6
                have ER7 : Hid (R = .bad q c) := by
                  have := ER6.out
                  rw [hs, bind_bad] at this
                  exact this.symm
                have H6 := hid h6
                clear h6 hs ER6
                go_wp2
                rw [ER7.out]
                exact ⟨rfl, rfl, H6.out⟩
              | ok a7 r7 =>
                rw [hs] at h6
                obtain ⟨rfl, k7, h7, ha7, hk7⟩ := h6
                have ER7 : Hid (moreR step closes f2 a7 r7 = R) := by
                  have := ER6.out
                  rw [hs, bind_ok] at this
                  exact this
                have H7 := hid h7
                have HA7 := hid ha7
                have HAT7 : Hid (atW p w6 = k7) := atW_eq (HR.out _ _ _ h7)
                clear h7 hs ER6 ha7
                go_wp2
                go_roundw
                case rel => exact ⟨a7, k7, f2, r7, H7.out, HA7.out, by omega, ER7⟩
                case measure => rw [HAT.out, HAT7.out]; omega
            · have H5 : Hid (I a2 k2 w5) := HT.out _ _ _ _ _ (by omega) H4.out ((HR.out _ _ _ H4.out).grown g5) (.of g5)
              have ER6 : Hid (((need closes r2).bind fun _ r => .ok a2 r) = R) := by
                have := ER5.out
                rw [if_neg (by rw [hb]; simp)] at this
                exact this
              clear hb g5 ER5
              go_wp2_with fail
              refine (f_needs (HR.out _ _ _ H5.out) HA4.out closes).mono ?_
              rintro e w6 (⟨hb, rfl, h6, f6⟩ | ⟨hb, rfl, g6⟩)
              · have H6 : Hid (I a2 (k2 + 1) w6) := HT.out _ _ _ _ _ (by omega) H5.out h6 f6
                have HA6 := hid (HA4.out.next (mean_next hb))
                have ER7 : Hid (R = .ok a2 r2.tail) := by
                  have := ER6.out
                  rw [need_yes hb, bind_ok] at this
                  exact this.symm
                clear hb h6 f6 ER6
                go_wp2
                go_end0
                rw [ER7.out]
                exact ⟨rfl, _, H6.out, HA6.out, by omega⟩
              · have H6 : Hid (Fr S w0 w6) := (HF.out _ _ _ H5.out).trans (.of (S := S) g6) (fun _ _ e => e)
                have ER7 : Hid (R = .bad (hd r2).2.1 (failC r2)) := by
                  have := ER6.out
                  rw [need_no hb, bind_bad] at this
                  exact this.symm
                clear hb g6 ER6
                go_wp2
                rw [ER7.out]
                exact ⟨rfl, rfl, H6.out⟩
  · have H1 : Hid (Fr S w0 w1) := (HF.out _ _ _ H.out).trans (.of (S := S) g1) (fun _ _ e => e)
    have ER1 : Hid (R = .bad (hd ts).2.1 (failC ts)) := by
      have := ER.out
      unfold listR at this
      rw [need_no hb, bind_bad] at this
      exact this
    clear hb g1 ER
    go_wp2
    rw [ER1.out]
    exact ⟨rfl, rfl, H1.out⟩
end Go.Proofs.Ytnimdngiejcljaa
