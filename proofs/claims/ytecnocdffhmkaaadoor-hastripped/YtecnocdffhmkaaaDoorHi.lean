/- Split: the program's. (Printed by mk_hi.py.) -/
import Derived.Test.YtecnocdffhmkaaaDoorHh
namespace Go.Proofs.YtecnocdffhmkaaaDoor
open Go.RowKit
set_option linter.unusedVariables false
set_option maxRecDepth 20000

theorem g_reading (a : Option Addr) (L c : Nat) (w : World) :
    Calls Tryd.prog 32 #[.slice a L c] w fun e w' => e = .returned (.func (.func 50) #[] #[.pointer (some ⟨w.heap.size, 0, none⟩)]) ∧ w'.cell? ⟨w.heap.size, 0, none⟩ = some (.slice a L c) ∧ w.grownBy w' none := by
  go_enter Tryd.func32, Tryd.ntmps32
  go_wp2
  go_ret
  refine ⟨rfl, ?_, World.grownBy_alloc w _ none⟩
  rw [cell_of_row _ w.heap.size 0 _ _ _ (heap_alloc_new w _)]
  rfl
/-- What Split's call leaves. -/
def SpOut (w : World) (C R : ByteArray) (Z : List Smp) (E : Int) (e : Ending) (w' : World) : Prop :=
  ∃ a' c' raw', e = .returned (.tuple #[.string C, .string R, .slice a' Z.length c', .int .i64 E]) ∧ SmsOwn w' w.heap.size (.slice a' Z.length c') Z raw' ∧ w.grownBy w' none
theorem sms_base {w : World} {base b' : Nat} {v : Value} {Q : List Smp} {raw : List (Sv × Int × Int)} (h : SmsOwn w base v Q raw) (hb : b' ≤ base) : SmsOwn w b' v Q raw :=
  ⟨SOwn.base h.row hb, fun i r s hr hs => ⟨(h.smp i r s hr hs).tn, (h.smp i r s hr hs).tv, (h.smp i r s hr hs).sm, SOwn.base (h.smp i r s hr hs).own hb⟩⟩
set_option maxHeartbeats 4000000 in
theorem f_split (a : Option Addr) (raw : List (Sv × Int × Int)) (Q : List Smp) (L c : Nat) (C R : ByteArray) (Z : List Smp) (E : Int) (w : World) (hx : SmpRd w a raw Q) (hL : Q.length = L) (hz : L ≤ 3518437208882) (hR : splitR Q = (C, R, Z, E)) :
    Calls Tryd.prog 10 #[.slice a L c] w fun e w' => SpOut w C R Z E e w' := by
  have HRD := g_reading a L c w
  have HN : Hid (∀ n w1 rb, w.grownBy w1 none → w1.cell? ⟨rb, 0, none⟩ = some (.slice a L c) → Calls Tryd.prog 50 #[.string n, .pointer (some ⟨rb, 0, none⟩)] w1 fun e w' => e = .returned (.tuple #[.string (comR n Q), .bool (someB n Q)]) ∧ w1.grownBy w' none) := fun n w1 rb hg hc => g_read n a raw Q L c rb w1 (hx.grown hg) hL hz hc
  have HW0 : Hid (∀ w1, w.grownBy w1 none → Calls Tryd.prog 33 #[.slice a L c, .slice none 0 0] w1 fun e w' => ∃ a' c' raw', e = .returned (.slice a' L c') ∧ Hid (SmsOwn w' w1.heap.size (.slice a' L c') Q raw') ∧ Hid (w1.grownBy w' none)) := fun w1 hg => by
    have h := g_without a none raw Q [] L 0 c 0 w1 (hx.grown hg) (SRd.nil _ _) hL rfl hz (by omega)
    rw [strip_none] at h
    exact h.mono fun e w' ⟨a', c', raw', h1, h2, h3⟩ => ⟨a', c', raw', h1, h2, h3⟩
  have HW1 : Hid (∀ w1, w.grownBy w1 none → Calls Tryd.prog 33 #[.slice a L c, .slice (some ⟨w1.heap.size, 0, none⟩) 1 1] (w1.alloc (.cells #[.string rpB] 9)) fun e w' => ∃ a' c' raw', e = .returned (.slice a' L c') ∧ Hid (SmsOwn w' w1.heap.size (.slice a' L c') (Q.map (stripN [rpB])) raw') ∧ Hid (w1.grownBy w' none)) := fun w1 hg => by
    have ga := World.grownBy_alloc w1 (.cells #[.string rpB] 9) none
    have h := g_without a (some ⟨w1.heap.size, 0, none⟩) raw Q [rpB] L 1 c 1 (w1.alloc (.cells #[.string rpB] 9)) (hx.grown (hg.trans ga)) (tlit w1 [rpB]) hL rfl hz (by omega)
    exact h.mono fun e w' ⟨a', c', raw', h1, h2, h3⟩ => ⟨a', c', raw', h1, sms_base h2 ga.size, ga.trans h3⟩
  have HLn : Hid (Q.length = L ∧ (Q.map (stripN [rpB])).length = L) := ⟨hL, by rw [List.length_map]; exact hL⟩
  unfold splitR at hR
  have HNr := HN.out rpB
  have HNc := HN.out clB
  clear HN
  have hr0 := str_ne0 (comR rpB Q)
  have hc0 := str_ne0 (comR clB Q)
  generalize comR rpB Q = Rp at HNr hR hr0
  generalize comR clB Q = Cl at HNc hR hc0
  generalize someB rpB Q = bR at HNr hR
  generalize someB clB Q = bC at HNc
  generalize Q.map (stripN [rpB]) = Zs at HW1 hR HLn
  have HNR : Hid (∀ (w1 : World) (rb : Nat), w.grownBy w1 none → w1.cell? ⟨rb, 0, none⟩ = some (.slice a L c) → Calls Tryd.prog 50 #[.string rpB, .pointer (some ⟨rb, 0, none⟩)] w1 fun e w' => e = .returned (.tuple #[.string Rp, .bool bR]) ∧ w1.grownBy w' none) := HNr
  have HNC : Hid (∀ (w1 : World) (rb : Nat), w.grownBy w1 none → w1.cell? ⟨rb, 0, none⟩ = some (.slice a L c) → Calls Tryd.prog 50 #[.string clB, .pointer (some ⟨rb, 0, none⟩)] w1 fun e w' => e = .returned (.tuple #[.string Cl, .bool bC]) ∧ w1.grownBy w' none) := HNc
  clear HNr HNc hx hL
  cases bR with
  | false =>
    rw [if_pos rfl] at hR
    have HR : Hid ((noB, noB, Q, (0 : Int)) = (C, R, Z, E)) := hR
    clear hR hr0 hc0
    go_enter Tryd.func10, Tryd.ntmps10
    go_wp2_with fail
    refine HRD.mono ?_
    rintro e w1 ⟨rfl, hc1, hg1⟩
    have H1 : Hid (w1.cell? ⟨w.heap.size, 0, none⟩ = some (.slice a L c) ∧ w.grownBy w1 none) := ⟨hc1, hg1⟩
    clear hc1 hg1
    go_wp2_with fail
    refine (HNR.out w1 _ H1.out.2 H1.out.1).mono ?_
    rintro e w2 ⟨rfl, hg2⟩
    have H2 : Hid (w.grownBy w2 none) := H1.out.2.trans hg2
    clear hg2
    go_wp2_with fail
    refine (HW0.out w2 H2.out).mono ?_
    rintro e w3 ⟨a3, c3, raw3, rfl, ho3, hg3⟩
    go_wp2
    refine bodyPost_ret (v := .tuple #[.string noB, .string noB, .slice a3 L c3, .int .i64 0]) (by simp [results, Tryd.results10, go_sem]) rfl ?_
    have hr := HR.out
    cases hr
    have hl := HLn.out.1
    subst hl
    exact ⟨a3, c3, raw3, rfl, sms_base ho3.out H2.out.size, H2.out.trans hg3.out⟩
  | true =>
    rw [if_neg (by simp)] at hR
    by_cases hcl : Cl = noB
    · rw [if_pos (.inl hcl)] at hR
      have HR : Hid ((noB, noB, ([] : List Smp), (160 : Int)) = (C, R, Z, E)) := hR
      rw [decide_eq_true hcl] at hc0
      clear hR hr0 hcl
      go_enter Tryd.func10, Tryd.ntmps10
      go_wp2_with fail
      refine HRD.mono ?_
      rintro e w1 ⟨rfl, hc1, hg1⟩
      have H1 : Hid (w1.cell? ⟨w.heap.size, 0, none⟩ = some (.slice a L c) ∧ w.grownBy w1 none) := ⟨hc1, hg1⟩
      clear hc1 hg1
      go_wp2_with fail
      refine (HNR.out w1 _ H1.out.2 H1.out.1).mono ?_
      rintro e w2 ⟨rfl, hg2⟩
      have H2 : Hid (w2.cell? ⟨w.heap.size, 0, none⟩ = some (.slice a L c) ∧ w.grownBy w2 none) := ⟨hg2.cell H1.out.1 (by simp), H1.out.2.trans hg2⟩
      clear hg2
      go_wp2_with fail
      refine (HNC.out w2 _ H2.out.2 H2.out.1).mono ?_
      rintro e w3 ⟨rfl, hg3⟩
      have H3 : Hid (w.grownBy w3 none) := H2.out.2.trans hg3
      clear hg3
      go_wp2
      refine bodyPost_ret (v := .tuple #[.string noB, .string noB, .slice none 0 0, .int .i64 160]) (by simp [results, Tryd.results10, go_sem]) rfl ?_
      have hr := HR.out
      cases hr
      exact ⟨none, 0, [], rfl, SmsOwn.nil _ _, H3.out⟩
    · by_cases hrp : Rp = noB
      · rw [if_pos (.inr hrp)] at hR
        have HR : Hid ((noB, noB, ([] : List Smp), (160 : Int)) = (C, R, Z, E)) := hR
        rw [decide_eq_false hcl] at hc0
        rw [decide_eq_true hrp] at hr0
        clear hR hcl hrp
        go_enter Tryd.func10, Tryd.ntmps10
        go_wp2_with fail
        refine HRD.mono ?_
        rintro e w1 ⟨rfl, hc1, hg1⟩
        have H1 : Hid (w1.cell? ⟨w.heap.size, 0, none⟩ = some (.slice a L c) ∧ w.grownBy w1 none) := ⟨hc1, hg1⟩
        clear hc1 hg1
        go_wp2_with fail
        refine (HNR.out w1 _ H1.out.2 H1.out.1).mono ?_
        rintro e w2 ⟨rfl, hg2⟩
        have H2 : Hid (w2.cell? ⟨w.heap.size, 0, none⟩ = some (.slice a L c) ∧ w.grownBy w2 none) := ⟨hg2.cell H1.out.1 (by simp), H1.out.2.trans hg2⟩
        clear hg2
        go_wp2_with fail
        refine (HNC.out w2 _ H2.out.2 H2.out.1).mono ?_
        rintro e w3 ⟨rfl, hg3⟩
        have H3 : Hid (w.grownBy w3 none) := H2.out.2.trans hg3
        clear hg3
        go_wp2
        refine bodyPost_ret (v := .tuple #[.string noB, .string noB, .slice none 0 0, .int .i64 160]) (by simp [results, Tryd.results10, go_sem]) rfl ?_
        have hr := HR.out
        cases hr
        exact ⟨none, 0, [], rfl, SmsOwn.nil _ _, H3.out⟩
      · rw [if_neg (by rintro (h | h); exact hcl h; exact hrp h)] at hR
        have HR : Hid ((Cl, Rp, Zs, (0 : Int)) = (C, R, Z, E)) := hR
        rw [decide_eq_false hcl] at hc0
        rw [decide_eq_false hrp] at hr0
        clear hR hcl hrp
        go_enter Tryd.func10, Tryd.ntmps10
        go_wp2_with fail
        refine HRD.mono ?_
        rintro e w1 ⟨rfl, hc1, hg1⟩
        have H1 : Hid (w1.cell? ⟨w.heap.size, 0, none⟩ = some (.slice a L c) ∧ w.grownBy w1 none) := ⟨hc1, hg1⟩
        clear hc1 hg1
        go_wp2_with fail
        refine (HNR.out w1 _ H1.out.2 H1.out.1).mono ?_
        rintro e w2 ⟨rfl, hg2⟩
        have H2 : Hid (w2.cell? ⟨w.heap.size, 0, none⟩ = some (.slice a L c) ∧ w.grownBy w2 none) := ⟨hg2.cell H1.out.1 (by simp), H1.out.2.trans hg2⟩
        clear hg2
        go_wp2_with fail
        refine (HNC.out w2 _ H2.out.2 H2.out.1).mono ?_
        rintro e w3 ⟨rfl, hg3⟩
        have H3 : Hid (w.grownBy w3 none) := H2.out.2.trans hg3
        clear hg3
        go_wp2_with fail
        refine (HW1.out w3 H3.out).mono ?_
        rintro e w4 ⟨a4, c4, raw4, rfl, ho4, hg4⟩
        go_wp2
        refine bodyPost_ret (v := .tuple #[.string Cl, .string Rp, .slice a4 L c4, .int .i64 0]) (by simp [results, Tryd.results10, go_sem]) rfl ?_
        have hr := HR.out
        cases hr
        have hl := HLn.out.2
        subst hl
        exact ⟨a4, c4, raw4, rfl, sms_base ho4.out H3.out.size, H3.out.trans hg4.out⟩
end Go.Proofs.YtecnocdffhmkaaaDoor
