/- The document's own way with an alternative: the places that can be reached. -/
import Derived.Test.YtpabbmiibehfjaaGreatDoorGa
import Derived.Test.YtpabbmiibehfjaaGreatDoorGc
import Derived.Test.YtpabbmiibehfjaaGreatDoorMtGstep
import Derived.Deep.OwnRows
namespace Go.Proofs.YtpabbmiibehfjaaGreatDoor.Mt
open Go.RowKit
set_option linter.unusedVariables false

theorem info4 : (Tryz.prog.info? 4).map (fun i => (i.zero, i.size, i.bytes)) = some (some (.bool false), 1, 1) := by kernel_rfl
theorem gb_drewR {w w' : World} {row : Option Nat} (h : w.grownBy w' row) (n : Nat) : w.grownBy (w'.drewN n) row := ⟨h.os, h.tape, h.output, h.size, h.block⟩
theorem sInts_at (p : ByteArray) (i : Nat) (h : i < p.size) : (sInts p)[i]? = some (byteAt p i) := by
  unfold byteAt
  rw [List.getD_eq_getElem?_getD, List.getElem?_eq_getElem (by rw [sInts_len]; exact h)]
  rfl
/-- make([]bool, n) -/
theorem wpList_make_b {w : World} {ops : Array Oper} {rest : List Oper} {o : Oper} {a : Act} {Q : Exit → Act → World → Prop} (hg : o.guard = none) (l c : Operand) (hop : o.op = Op.makeSlice 146 l c) (N : Nat) (hl : a.eval l = .int .i64 (N : Int)) (hc : a.eval c = .int .i64 (N : Int)) (hN : N ≤ 281474976710656)
    (h : ∀ w', Hid (w'.rowIs w.heap.size 4 N (fun _ => .bool false)) → Hid (w.grownBy w' none) → wpList Tryz.prog ops Q rest (a.put o.dst (.slice (some ⟨w.heap.size, 0, none⟩) N N)) w') : wpList Tryz.prog ops Q (o :: rest) a w := by
  obtain ⟨i0, hi, hz0, hz1, hz2⟩ := info_parts info4
  refine wpList_make_row w hg l c 146 hop 4 i0 (.bool false) Tryz.underlying146 hi hz0 hz1 rfl .i64 .i64 N hl hc (by rw [hz2]; omega) (by omega) ?_
  exact h _ (World.rowIs_made w _ N 4) (World.grownBy_alloc w _ none)
theorem rowIs_grown {w w' : World} {row : Option Nat} {g t n : Nat} {f : Nat → Value} (h : w.rowIs g t n f) (hg : w.grownBy w' row) (hne : some g ≠ row) : w'.rowIs g t n f := h.of_block (hg.block g h.lt hne)

set_option maxHeartbeats 4000000 in
set_option maxRecDepth 20000 in
theorem r_one (p s : ByteArray) (R : Bool) (w : World) (hz : p.size ≤ 140737488356000) (hs : s.size ≤ 4611686018427387000) (hR : glob (sInts p) (sInts s) = R) :
    Calls Tryz.prog 94 #[.string p, .string s] w fun e w' => e = .returned (.bool R) ∧ w.grownBy w' none := by
  obtain ⟨P, eP⟩ : ∃ P, P = sInts p := ⟨_, rfl⟩
  obtain ⟨S, eS⟩ : ∃ S, S = sInts s := ⟨_, rfl⟩
  have HPl : Hid (P.length = p.size) := by show _ = _; rw [eP, sInts_len]
  have HSl : Hid (S.length = s.size) := by show _ = _; rw [eS, sInts_len]
  have HPa : Hid (∀ i, i < p.size → P[i]? = some (byteAt p i)) := fun i h => by rw [eP]; exact sInts_at p i h
  have HSa : Hid (∀ i, i < s.size → S[i]? = some (byteAt s i)) := fun i h => by rw [eS]; exact sInts_at s i h
  have HRR : Hid (Rch P S s.size p.size = R) := by
    show _ = _
    rw [← HPl.out, rch_end, List.take_of_length_le (by have := HSl.out; omega), eP, eS]
    exact hR
  clear hR eP eS
  have b1 : (p.size : Int) + 1 ≤ 140737488356001 := by omega
  go_enter Tryz.func94, Tryz.ntmps94
  go_wp2_with (at_make; refine wpList_make_b rfl (.tmp 13) (.tmp 13) rfl (p.size + 1) rfl rfl (by omega) ?_; intro w1 hr1 hg1; have c0 := hr1.out.cell (i := 0) (by omega); have f0 := hr1.out.frozen 0)
  have HR1 : Hid ((w1.setCell ⟨w.heap.size, 0, none⟩ (.bool true)).rowIs w.heap.size 4 (p.size + 1) (fun j => .bool (if j ≤ 0 then Rch P S 0 j else false))) := by
    refine (hr1.out.set 0 (.bool true)).congr fun j hj => ?_
    by_cases h : j = 0
    · subst h; rw [if_pos rfl, if_pos (Nat.le_refl _), rch_zero]
    · rw [if_neg h, if_neg (by omega)]
  have HG1 : Hid (w.grownBy (w1.setCell ⟨w.heap.size, 0, none⟩ (.bool true)) none) := gb_trans hg1.out (gb_set (g := w.heap.size) rfl) (fun k hk => .inl (by cases hk; omega))
  clear hr1 hg1 c0 f0
  generalize hg0 : w.heap.size = g0 at HR1 HG1 ⊢
  have HG0 : Hid (w.heap.size = g0) := hg0
  clear hg0
  go_loopw [6] (fun i wr => ∃ k : Nat, k ≤ p.size ∧ i = .int .i64 k ∧ w.grownBy wr none ∧ wr.rowIs g0 4 (p.size + 1) (fun j => .bool (if j ≤ k then Rch P S 0 j else false))) (fun i _ => p.size - (intOf i).toNat)
  case atStart => exact ⟨0, Nat.zero_le _, rfl, HG1.out, HR1.out⟩
  case round =>
    obtain ⟨k, hk, rfl, hg, hr⟩ := hrel
    have HG : Hid (w.grownBy wr none) := hg
    have HR : Hid (wr.rowIs g0 4 (p.size + 1) (fun j => .bool (if j ≤ k then Rch P S 0 j else false))) := hr
    clear hg hr HR1 HG1
    by_cases hlt : k < p.size
    · have hidx := idx9 p k hlt
      have HCl := rch_close P S k (by have := HPl.out; omega)
      have hst : starAt P k = decide (byteAt p k = 42) := by unfold starAt; rw [HPa.out k hlt]; simp
      rw [hst] at HCl
      have c0 := HR.out.cell (i := k) (by omega)
      have c1 := HR.out.cell (i := k + 1) (by omega)
      have f1 := HR.out.frozen (k + 1)
      rw [if_pos (Nat.le_refl _)] at c0
      rw [if_neg (by omega)] at c1
      have hki : (k : Int) < (p.size : Int) := by omega
      have HFin : Hid (∀ b, b = Rch P S 0 (k + 1) → (wr.setCell ⟨g0, k + 1, none⟩ (.bool b)).rowIs g0 4 (p.size + 1) (fun j => .bool (if j ≤ k + 1 then Rch P S 0 j else false))) := by
        intro b hb
        refine (HR.out.set (k + 1) (.bool b)).congr fun j hj => ?_
        by_cases h : j = k + 1
        · subst h; rw [if_pos rfl, if_pos (Nat.le_refl _), hb]
        · rw [if_neg h]
          by_cases h2 : j ≤ k
          · rw [if_pos h2, if_pos (by omega)]
          · rw [if_neg h2, if_neg (by omega)]
      have HGF : Hid (∀ b, w.grownBy (wr.setCell ⟨g0, k + 1, none⟩ (.bool b)) none) := fun b => gb_trans HG.out (gb_set (g := g0) rfl) (fun t ht => .inl (by cases ht; have := HG0.out; omega))
      have HCL : Hid (Rch P S 0 (k + 1) = (Rch P S 0 k && decide (byteAt p k = 42))) := HCl
      generalize byteAt p k = c at hidx HCL
      generalize Rch P S 0 k = b at c0 HCL
      clear hst HCl
      cases b with
      | false =>
        go_wp2
        go_roundw
        case rel => exact ⟨k + 1, by omega, by go_num, HGF.out _, HFin.out _ (by rw [HCL.out]; rfl)⟩
        case measure => simp [intOf]; omega
      | true =>
        by_cases hc : c = 42
        · have q1 : (c == 42) = true := by simpa using hc
          have HD : Hid (decide (c = 42) = true) := by show _ = _; simpa using hc
          clear hc
          go_wp2
          go_roundw
          case rel => exact ⟨k + 1, by omega, by go_num, HGF.out _, HFin.out _ (by rw [HCL.out, HD.out]; rfl)⟩
          case measure => simp [intOf]; omega
        · have q1 : (c == 42) = false := by simpa using hc
          have HD : Hid (decide (c = 42) = false) := by show _ = _; simpa using hc
          clear hc
          go_wp2
          go_roundw
          case rel => exact ⟨k + 1, by omega, by go_num, HGF.out _, HFin.out _ (by rw [HCL.out, HD.out]; rfl)⟩
          case measure => simp [intOf]; omega
    · obtain rfl : k = p.size := by omega
      have hki : ¬ (p.size : Int) < (p.size : Int) := by omega
      have HRA : Hid (wr.rowIs g0 4 (p.size + 1) (fun j => .bool (Rch P S 0 j))) := HR.out.congr fun j hj => by rw [if_pos (by omega)]
      have HGA : Hid (w.grownBy wr none) := HG.out
      have HLA : Hid (w.heap.size ≤ g0) := by have := HG0.out; show _ ≤ _; omega
      clear HR HG
      go_wp2
      go_loopw [5, 7] (fun t5 t7 wr => ∃ k g : Nat, k ≤ s.size ∧ t5 = .slice (some ⟨g, 0, none⟩) (p.size + 1) (p.size + 1) ∧ t7 = .int .i64 k ∧ w.heap.size ≤ g ∧ w.grownBy wr none ∧ wr.rowIs g 4 (p.size + 1) (fun j => .bool (Rch P S k j))) (fun _ t7 _ => s.size - (intOf t7).toNat)
      case atStart => exact ⟨0, g0, Nat.zero_le _, rfl, rfl, HLA.out, HGA.out, HRA.out⟩
      case round =>
        obtain ⟨k, g, hk, rfl, rfl, hgl, hg, hr⟩ := hrel
        have HG : Hid (w.grownBy wr none) := hg
        have HR : Hid (wr.rowIs g 4 (p.size + 1) (fun j => .bool (Rch P S k j))) := hr
        have HGL : Hid (w.heap.size ≤ g) := hgl
        clear hg hr hgl HRA HGA HLA HG0
        by_cases hlt : k < s.size
        · have hki : (k : Int) < (s.size : Int) := by omega
          go_wp2_with (at_make; refine wpList_make_b rfl (.tmp 52) (.tmp 52) rfl (p.size + 1) rfl rfl (by omega) ?_; intro w1 hr1 hg1)
          have HR0 : Hid (w1.rowIs g 4 (p.size + 1) (fun j => .bool (Rch P S k j))) := rowIs_grown HR.out hg1.out (by simp)
          have HG1 : Hid (w.grownBy w1 none) := HG.out.trans hg1.out
          have HN1 : Hid (w1.rowIs wr.heap.size 4 (p.size + 1) (fun j => .bool (Mark P S k (byteAt s k) 0 j))) := hr1.out.congr fun j hj => by rw [mark_zero]
          have HNE : Hid (g ≠ wr.heap.size) := by have := HR.out.lt; show _ ≠ _; omega
          have HNB : Hid (w.heap.size ≤ wr.heap.size) := HG.out.size
          have hidk := idx9 s k hlt
          have HSk : Hid (S[k]? = some (byteAt s k)) := HSa.out k hlt
          generalize wr.heap.size = g1 at HN1 HNE HNB ⊢
          generalize byteAt s k = d at HN1 hidk HSk
          clear hr1 hg1 HR HG
          go_loopw [9] (fun i wq => ∃ t : Nat, t ≤ p.size ∧ i = .int .i64 t ∧ w1.grownBy wq (some g1) ∧ wq.rowIs g1 4 (p.size + 1) (fun j => .bool (Mark P S k d t j))) (fun i _ => p.size - (intOf i).toNat)
          case atStart => exact ⟨0, Nat.zero_le _, rfl, World.grownBy.refl _ _, HN1.out⟩
          case round =>
            obtain ⟨t, ht, rfl, hgq, hrq⟩ := hrel
            have HGQ : Hid (w1.grownBy wr (some g1)) := hgq
            have HRQ : Hid (wr.rowIs g1 4 (p.size + 1) (fun j => .bool (Mark P S k d t j))) := hrq
            have HAT : Hid (wr.rowIs g 4 (p.size + 1) (fun j => .bool (Rch P S k j))) := rowIs_grown HR0.out hgq (fun e => HNE.out (Option.some.inj e))
            clear hgq hrq HN1
            by_cases hlt2 : t < p.size
            · have hidx := idx9 p t hlt2
              have HMK : Hid (∀ j, _ = _) := fun j => mark_next P S k d (byteAt p t) t j (HPa.out t hlt2)
              have c0 := HAT.out.cell (i := t) (by omega)
              have n0 := HRQ.out.cell (i := t) (by omega)
              have n1 := HRQ.out.cell (i := t + 1) (by omega)
              have f0 := HRQ.out.frozen t
              have f1 := HRQ.out.frozen (t + 1)
              have hti : (t : Int) < (p.size : Int) := by omega
              generalize byteAt p t = c at hidx HMK
              generalize Rch P S k t = b at c0 HMK
              cases b with
              | false =>
                have HRN : Hid (wr.rowIs g1 4 (p.size + 1) (fun j => .bool (Mark P S k d (t + 1) j))) := HRQ.out.congr fun j hj => by
                  rw [HMK.out j]
                  simp only [Bool.false_and, Bool.or_false, ite_self]
                clear HMK
                go_wp2
                go_quiet (fail)
                go_wp2
                go_roundw
                case rel => exact ⟨t + 1, by omega, by go_num, gb_drewR HGQ.out _, HRN.out⟩
                case measure => simp [intOf]; omega
              | true =>
                by_cases hc : c = 42
                · have HRN : Hid ((wr.setCell ⟨g1, t, none⟩ (.bool true)).rowIs g1 4 (p.size + 1) (fun j => .bool (Mark P S k d (t + 1) j))) := (HRQ.out.set t (.bool true)).congr fun j hj => by
                    rw [HMK.out j]
                    by_cases h : j = t
                    · subst h; simp [hc]
                    · simp [h, hc]
                  have q1 : (c == 42) = true := by simpa using hc
                  have q2 : (c != 42) = false := by simpa using hc
                  have d0 : (wr.setCell ⟨g1, t, none⟩ (.bool true)).cell? ⟨g, t, none⟩ = some (.bool true) := by
                    have h := (HAT.out.setOther (a := ⟨g1, t, none⟩) HNE.out (.bool true)).cell (i := t) (by omega)
                    rw [h]
                    rw [← c0]
                    exact (HAT.out.cell (i := t) (by omega)).symm
                  have HGN : Hid (w1.grownBy (wr.setCell ⟨g1, t, none⟩ (.bool true)) (some g1)) := gb_trans HGQ.out (gb_set (g := g1) rfl) (fun j hj => .inr hj)
                  clear HMK hc
                  go_wp2
                  go_quiet (fail)
                  go_wp2
                  go_roundw
                  case rel => exact ⟨t + 1, by omega, by go_num, gb_drewR HGN.out _, HRN.out⟩
                  case measure => simp [intOf]; omega
                · have q1 : (c == 42) = false := by simpa using hc
                  have q2 : (c != 42) = true := by simpa using hc
                  by_cases he : c = d
                  · have HRN : Hid (∀ w2 : World, w2.rowIs g1 4 (p.size + 1) (fun j => .bool (Mark P S k d t j)) → (w2.setCell ⟨g1, t + 1, none⟩ (.bool true)).rowIs g1 4 (p.size + 1) (fun j => .bool (Mark P S k d (t + 1) j))) := fun w2 h2 => (h2.set (t + 1) (.bool true)).congr fun j hj => by
                      rw [HMK.out j]
                      by_cases h : j = t
                      · subst h; simp [hc]
                      · by_cases h3 : j = t + 1
                        · subst h3; subst he; simp [hc]
                        · simp [h, h3]
                    have q3 : (c == d) = true := by simpa using he
                    clear HMK hc he
                    go_wp2
                    go_quiet (fail)
                    go_wp2
                    go_roundw
                    case rel => exact ⟨t + 1, by omega, by go_num, gb_trans (gb_drewR HGQ.out _) (gb_set (g := g1) rfl) (fun j hj => .inr hj), HRN.out _ HRQ.out⟩
                    case measure => simp [intOf]; omega
                  · have HRN : Hid (wr.rowIs g1 4 (p.size + 1) (fun j => .bool (Mark P S k d (t + 1) j))) := HRQ.out.congr fun j hj => by
                      rw [HMK.out j]
                      simp [hc, he]
                    have q3 : (c == d) = false := by simpa using he
                    clear HMK hc he
                    go_wp2
                    go_quiet (fail)
                    go_wp2
                    go_roundw
                    case rel => exact ⟨t + 1, by omega, by go_num, gb_drewR HGQ.out _, HRN.out⟩
                    case measure => simp [intOf]; omega
            · obtain rfl : t = p.size := by omega
              have hti : ¬ (p.size : Int) < (p.size : Int) := by omega
              have HRM : Hid (wr.rowIs g1 4 (p.size + 1) (fun j => .bool (if j ≤ 0 then Rch P S (k + 1) j else Mark P S k d p.size j))) := HRQ.out.congr fun j hj => by
                by_cases h : j ≤ 0
                · have h0 : j = 0 := by omega
                  subst h0
                  rw [if_pos (Nat.le_refl _), ← HPl.out, mark_zero_at P S k d HSk.out]
                · rw [if_neg h]
              have HGM : Hid (w1.grownBy wr (some g1)) := HGQ.out
              clear HGQ HRQ HAT
              go_wp2
              go_loopw [10] (fun i wq => ∃ t : Nat, t ≤ p.size ∧ i = .int .i64 t ∧ w1.grownBy wq (some g1) ∧ wq.rowIs g1 4 (p.size + 1) (fun j => .bool (if j ≤ t then Rch P S (k + 1) j else Mark P S k d p.size j))) (fun i _ => p.size - (intOf i).toNat)
              case atStart => exact ⟨0, Nat.zero_le _, rfl, HGM.out, HRM.out⟩
              case round =>
                obtain ⟨t, ht, rfl, hgq, hrq⟩ := hrel
                have HGQ : Hid (w1.grownBy wr (some g1)) := hgq
                have HRQ : Hid (wr.rowIs g1 4 (p.size + 1) (fun j => .bool (if j ≤ t then Rch P S (k + 1) j else Mark P S k d p.size j))) := hrq
                clear hgq hrq HRM HGM
                by_cases hlt3 : t < p.size
                · have hidx := idx9 p t hlt3
                  have HMC : Hid ((Mark P S k d p.size (t + 1) || (Rch P S (k + 1) t && decide (byteAt p t = 42))) = Rch P S (k + 1) (t + 1)) := by have h := mark_close P S k t (byteAt p t) d (HPa.out t hlt3) HSk.out; rw [HPl.out] at h; exact h
                  have n0 := HRQ.out.cell (i := t) (by omega)
                  have n1 := HRQ.out.cell (i := t + 1) (by omega)
                  have f1 := HRQ.out.frozen (t + 1)
                  rw [if_pos (Nat.le_refl _)] at n0
                  rw [if_neg (by omega)] at n1
                  have hti2 : (t : Int) < (p.size : Int) := by omega
                  have HFin : Hid (∀ b, b = Rch P S (k + 1) (t + 1) → (wr.setCell ⟨g1, t + 1, none⟩ (.bool b)).rowIs g1 4 (p.size + 1) (fun j => .bool (if j ≤ t + 1 then Rch P S (k + 1) j else Mark P S k d p.size j))) := by
                    intro b hb
                    refine (HRQ.out.set (t + 1) (.bool b)).congr fun j hj => ?_
                    by_cases h : j = t + 1
                    · subst h; rw [if_pos rfl, if_pos (Nat.le_refl _), hb]
                    · rw [if_neg h]
                      by_cases h2 : j ≤ t
                      · rw [if_pos h2, if_pos (by omega)]
                      · rw [if_neg h2, if_neg (by omega)]
                  have HGF : Hid (∀ b, w1.grownBy (wr.setCell ⟨g1, t + 1, none⟩ (.bool b)) (some g1)) := fun b => gb_trans HGQ.out (gb_set (g := g1) rfl) (fun j hj => .inr hj)
                  generalize byteAt p t = c at hidx HMC
                  generalize Rch P S (k + 1) t = b at n0 HMC
                  generalize Mark P S k d p.size (t + 1) = m at n1 HMC
                  cases m with
                  | true =>
                    go_wp2
                    go_roundw
                    case rel => exact ⟨t + 1, by omega, by go_num, HGF.out _, HFin.out _ (by rw [← HMC.out]; rfl)⟩
                    case measure => simp [intOf]; omega
                  | false =>
                    cases b with
                    | false =>
                      go_wp2
                      go_roundw
                      case rel => exact ⟨t + 1, by omega, by go_num, HGF.out _, HFin.out _ (by rw [← HMC.out]; rfl)⟩
                      case measure => simp [intOf]; omega
                    | true =>
                      by_cases hc : c = 42
                      · have q1 : (c == 42) = true := by simpa using hc
                        have HD : Hid (decide (c = 42) = true) := by show _ = _; simpa using hc
                        clear hc
                        go_wp2
                        go_roundw
                        case rel => exact ⟨t + 1, by omega, by go_num, HGF.out _, HFin.out _ (by rw [← HMC.out, HD.out]; rfl)⟩
                        case measure => simp [intOf]; omega
                      · have q1 : (c == 42) = false := by simpa using hc
                        have HD : Hid (decide (c = 42) = false) := by show _ = _; simpa using hc
                        clear hc
                        go_wp2
                        go_roundw
                        case rel => exact ⟨t + 1, by omega, by go_num, HGF.out _, HFin.out _ (by rw [← HMC.out, HD.out]; rfl)⟩
                        case measure => simp [intOf]; omega
                · obtain rfl : t = p.size := by omega
                  have HRE : Hid (wr.rowIs g1 4 (p.size + 1) (fun j => .bool (Rch P S (k + 1) j))) := HRQ.out.congr fun j hj => by rw [if_pos (by omega)]
                  have HGE : Hid (w.grownBy wr none) := gb_trans HG1.out HGQ.out (fun j hj => .inl (by cases hj; exact HNB.out))
                  clear HRQ HGQ
                  go_wp2
                  go_roundw
                  case rel => exact ⟨k + 1, g1, by omega, rfl, by go_num, HNB.out, HGE.out, HRE.out⟩
                  case measure => simp [intOf]; omega
        · obtain rfl : k = s.size := by omega
          have hki : ¬ (s.size : Int) < (s.size : Int) := by omega
          have c0 := HR.out.cell (i := p.size) (by omega)
          rw [HRR.out] at c0
          go_wp2
          go_ret
          exact ⟨rfl, HG.out⟩
end Go.Proofs.YtpabbmiibehfjaaGreatDoor.Mt
