/- Several texts in one: Zv, Zu. -/
import Derived.Test.YtgpgkpciajajcaaGreatDoorGay
/- Package wal: cut, where the power goes at a deletion. (Printed by mk_cutA.py.) -/
namespace Go.Proofs.YtgpgkpciajajcaaGreatDoor
open Go.RowKit Go.Maps Go.Sort
set_option linter.unusedVariables false
set_option maxRecDepth 20000

set_option maxHeartbeats 8000000 in
theorem w_cutPD (base d mb n : Nat) (x : DSt) (p : Nat) (dir cp : ByteArray) (segs : List Nat) (op : Nat) (A B : Nat → Prop) (fv : Value) (w : World) (hdir : dirB dir = true) (ht : Tab w) (hf : Far A B) (h : LogAt w base d mb n x p dir cp segs op A B) (hop : op < 99999998) (X3 : DSt) (hpt : ∀ w1, w.grownBy w1 none → Calls Tryz.prog 140 #[.pointer (some ⟨p, 0, none⟩), .string (cpN dir op), fv] w1 fun e w' => e = .returned (.tuple #[]) ∧ ∃ n' B', n' ≤ n + 2 ∧ LogAt w' base d mb n' X3 p dir cp segs op A B' ∧ Step2 w1 w' A B A B') (hsg : segs.length ≤ 4194304) (hs8 : ∀ k ∈ segs, k < 100000000) (hcp : cp.size ≤ 64) (j kj : Nat) (hj : segs[j]? = some kj) (hdel : DelOk X3 ((if cp = ⟨#[]⟩ then [] else [cp]) ++ (segs.take j).map (segN dir))) (y : DSt) (hy : (delAll X3 ((if cp = ⟨#[]⟩ then [] else [cp]) ++ (segs.take j).map (segN dir))).delete (segN dir kj) = (60, y)) (hyo : (delAll X3 ((if cp = ⟨#[]⟩ then [] else [cp]) ++ (segs.take j).map (segN dir))).ok) (hkn : nameB (segN dir kj) = true) (hb : base ≤ w.heap.size) :
    Calls Tryz.prog 107 #[.pointer (some ⟨p, 0, none⟩), fv] w fun e w' => e = .panicked (thrown 60) ∧ CutEnd w base d mb (n + 2) y A B w' := by
  have hds : dir.size ≤ 32 := by simp only [dirB, Bool.and_eq_true, decide_eq_true_eq] at hdir; exact hdir.2
  have HD0 := fun w => w_done0 w
  have HL : Hid (LogAt w base d mb n x p dir cp segs op A B) := h
  have HDEL : Hid (DelOk X3 ((if cp = ⟨#[]⟩ then [] else [cp]) ++ (segs.take j).map (segN dir))) := hdel
  have HDP := fun w => w_doneP 60 (by decide) w
  have HY : Hid ((delAll X3 ((if cp = ⟨#[]⟩ then [] else [cp]) ++ (segs.take j).map (segN dir))).delete (segN dir kj) = (60, y)) := hy
  have HYO : Hid (delAll X3 ((if cp = ⟨#[]⟩ then [] else [cp]) ++ (segs.take j).map (segN dir))).ok := hyo
  have HJ : Hid (segs[j]? = some kj) := hj
  have hjl : j < segs.length := (List.getElem?_eq_some_iff.1 hj).1
  clear hy hyo hj
  have HS8 : Hid (∀ k ∈ segs, k < 100000000) := hs8
  have HT : Hid (Tab w) := ht
  have HF : Hid (Far A B) := hf
  have HDIR : Hid (dirB dir = true) := hdir
  obtain ⟨a, c, hW, _⟩ := h.wal
  have c4 := hW.cells.2.2.2.2
  have HCN : Hid (Calls Tryz.prog 139 #[.pointer (some ⟨p, 0, none⟩), .int .i64 (op : Int)] w fun e w' => e = .returned (.string (cpN dir op)) ∧ w.grownBy w' none) := w_cpoint p d dir cp _ _ op (by omega) w (by omega) ht hW
  have HPT : Hid (∀ w1, w.grownBy w1 none → Calls Tryz.prog 140 #[.pointer (some ⟨p, 0, none⟩), .string (cpN dir op), fv] w1 fun e w' => e = .returned (.tuple #[]) ∧ ∃ n' B', n' ≤ n + 2 ∧ LogAt w' base d mb n' X3 p dir cp segs op A B' ∧ Step2 w w' A B A B') := fun w1 hg => by
    refine (hpt w1 hg).mono ?_
    rintro e w' ⟨rfl, n', B', h1, h2, h3⟩
    exact ⟨rfl, n', B', h1, h2, (Step2.grown A B hg).trans h3⟩
  clear h hW hdel hs8 ht hf hdir hpt
  go_enter Tryz.func107, Tryz.ntmps107
  go_wp2_with fail
  refine HCN.out.mono ?_
  rintro e w1 ⟨rfl, hg1⟩
  go_wp2_with fail
  refine (HPT.out _ hg1).mono ?_
  rintro e w2 ⟨rfl, n2, B2, hn2, hL2, hS2⟩
  obtain ⟨a2, k2, hW2, _⟩ := hL2.wal
  have y4 := hW2.cells.2.2.2.2
  have z4 := hW2.frozen 4
  have hSO := hL2.setOpen (op + 1) ((op : Int) + 1) (by omega)
  obtain ⟨aa, ac, hC3⟩ := hSO.1.cutAt (hS2.trans hSO.2)
  have HC3 : Hid (CutAt w (w2.setCell ⟨p, 4, none⟩ (.int .i64 ((op : Int) + 1))) base d mb n2 X3 p dir cp segs (op + 1) A B B2 aa ac) := hC3
  obtain ⟨a3, k3, hW3, _⟩ := hSO.1.wal
  have y2 := hW3.cells.2.2.1
  clear hg1 hL2 hS2 hW2 hSO hW3 HCN HPT hC3
  go_upto_if 26 with fail
  go_cut [] from 5 (fun wc => ∃ n4 B4, n4 ≤ n + 2 ∧ CutAt w wc base d mb n4 (delAll X3 (if cp = ⟨#[]⟩ then [] else [cp])) p dir cp segs (op + 1) A B B4 aa ac)
  case first =>
    by_cases hcp0 : cp = ⟨#[]⟩
    · have q0 : cp.toList.isEmpty = true := by rw [str_none, hcp0]; rfl
      rw [q0, Bool.not_true]
      go_wp2_with fail
      go_meet
      exact ⟨n2, B2, hn2, by rw [if_pos hcp0]; exact HC3.out⟩
    · have q0 : cp.toList.isEmpty = false := by rw [str_none]; simp [hcp0]
      have hd := HDEL.out
      rw [if_neg hcp0] at hd
      obtain ⟨d1, d2, d3, _⟩ := hd
      have HDL : Hid (Calls Tryz.prog 141 #[.pointer (some ⟨d, 0, none⟩), .string cp] (w2.setCell ⟨p, 4, none⟩ (.int .i64 ((op : Int) + 1))).drew fun e w' => e = .returned (.int .i64 0) ∧ ∃ n' B', n' ≤ n2 ∧ CutAt w w' base d mb n' (X3.delete cp).2 p dir cp segs (op + 1) A B B' aa ac) := (HC3.out.grown (gb_drew (World.grownBy.refl _ _))).del d2 d3 d1
      obtain ⟨hW5, _⟩ := HC3.out.row
      have x0 := hW5.cells.1
      have x2 := hW5.cells.2.2.1
      have HX : Hid (delAll X3 [cp] = (X3.delete cp).2) := rfl
      rw [q0, Bool.not_false]
      clear d1 d2 d3 hW5
      go_wp2_with fail
      go_region_held3 (fun W => W.cell? ⟨p, 0, none⟩ = some (.pointer (some ⟨d, 0, none⟩)) ∧ W.cell? ⟨p, 2, none⟩ = some (.string cp)) (go_keep) (first
        | (go_at_call 141; refine HDL.out.mono ?_; rintro e w5 ⟨rfl, n5, B5, hn5, hC5⟩; have HC5 : Hid (CutAt w w5 base d mb n5 (X3.delete cp).2 p dir cp segs (op + 1) A B B5 aa ac) := hC5; obtain ⟨hW6, _⟩ := hC5.row; have x0' := hW6.cells.1; have x2' := hW6.cells.2.2.1; clear hC5 hW6)
        | (go_at_call 103; refine (HD0 _).mono ?_; rintro e w6 ⟨rfl, rfl⟩))
      all_goals (go_wp2_with fail; go_meet)
      all_goals exact ⟨n5, B5, by omega, by rw [if_neg hcp0, HX.out]; exact HC5.out⟩
  case rest =>
    obtain ⟨n4, B4, hn4, hC4⟩ := hcut
    obtain ⟨hW5, hr5, hc5, ha5⟩ := hC4.row
    have x2 := hW5.cells.2.2.1
    have z2 := hW5.frozen 2
    have HC5 : Hid (CutAt w (wc.setCell ⟨p, 2, none⟩ (.string (cpN dir op))) base d mb n4 (delAll X3 (if cp = ⟨#[]⟩ then [] else [cp])) p dir (cpN dir op) segs (op + 1) A B B4 aa ac) := hC4.set ((hW5.set 2 _).congr (five rfl rfl rfl rfl rfl)) hr5 hc5 ha5
    have HDEL2 : Hid (DelOk (delAll X3 (if cp = ⟨#[]⟩ then [] else [cp])) ((segs.take j).map (segN dir))) := DelOk.app _ _ _ HDEL.out
    rw [delAll_app] at HY HYO
    obtain ⟨X, eX⟩ : ∃ X, X = delAll X3 (if cp = ⟨#[]⟩ then [] else [cp]) := ⟨_, rfl⟩
    rw [← eX] at HC5 HDEL2 HY HYO
    clear hC4 hW5 hr5 hc5 ha5 eX HDEL HC3
    go_wp2_with fail
    go_loopw [41] (fun t41 wr => ∃ i n6 B6 a6 k6, i ≤ j ∧ n6 ≤ n + 2 ∧ CutAt w wr base d mb n6 (delAll X ((segs.take i).map (segN dir))) p dir (cpN dir op) (segs.drop i) (op + 1) A B B6 a6 k6) (fun _ wr => leftN wr p)
    case atStart => exact ⟨0, n4, B4, aa, ac, Nat.zero_le _, hn4, by simpa [delAll] using HC5.out⟩
    case round =>
      obtain ⟨i, n6, B6, a6, k6, hi, hn6, hC6⟩ := hrel
      have HC6 : Hid (CutAt w wr base d mb n6 (delAll X ((segs.take i).map (segN dir))) p dir (cpN dir op) (segs.drop i) (op + 1) A B B6 a6 k6) := hC6
      obtain ⟨hW6, hr6, hc6, ha6⟩ := hC6.row
      have x3 := hW6.cells.2.2.2.1
      clear HC5
      have hlt : i < segs.length := by omega
      by_cases hij : i < j
      · obtain ⟨k, hk⟩ : ∃ k, segs[i]? = some k := ⟨_, List.getElem?_eq_getElem hlt⟩
        have hdrop : segs.drop i = k :: segs.drop (i + 1) := by
          rw [List.drop_eq_getElem_cons hlt]
          congr 1
          rw [List.getElem?_eq_getElem hlt] at hk
          exact Option.some.inj hk
        have htk : (segs.take (i + 1)).map (segN dir) = (segs.take i).map (segN dir) ++ [segN dir k] := by rw [List.take_add_one, hk]; simp
        have HTK : Hid (delAll X ((segs.take (i + 1)).map (segN dir)) = ((delAll X ((segs.take i).map (segN dir))).delete (segN dir k)).2) := by show _ = _; rw [htk, delAll_snoc]
        have hdo : DelOk (delAll X ((segs.take i).map (segN dir))) (segN dir k :: ((segs.take j).drop (i + 1)).map (segN dir)) := by
          refine DelOk.app _ _ _ ?_
          have e1 : segs.take i ++ (k :: (segs.take j).drop (i + 1)) = segs.take j := by
            have h1 : i < (segs.take j).length := by rw [List.length_take]; omega
            have h2 : (segs.take j)[i]? = some k := by rw [List.getElem?_take_of_lt hij]; exact hk
            have h3 : (segs.take j).take i = segs.take i := by rw [List.take_take, Nat.min_eq_left (by omega)]
            have h4 : (segs.take j).drop i = k :: (segs.take j).drop (i + 1) := by
              rw [List.drop_eq_getElem_cons h1]
              congr 1
              rw [List.getElem?_eq_getElem h1] at h2
              exact Option.some.inj h2
            rw [← h4, ← h3, List.take_append_drop]
          rw [← List.map_cons, ← List.map_append, e1]
          exact HDEL2.out
        obtain ⟨d1, d2, d3, _⟩ := hdo
        have hk8 := HS8.out k (List.mem_of_getElem? hk)
        obtain ⟨R, eR⟩ : ∃ R, R = (segs.drop (i + 1)).length := ⟨_, rfl⟩
        have hlen6 : (segs.drop i).length = R + 1 := by rw [hdrop, eR]; rfl
        obtain ⟨b, off, rfl, hcell⟩ := nI_cell hr6.rd (l := segs.drop i) (i := 0) (k := k) (by rw [hdrop]; rfl)
        rw [hlen6] at x3 hc6
        have hR : R ≤ 4194304 := by rw [eR, List.length_drop]; omega
        have hsl : ∀ W : World, (Instr.slice 44 (.slice (some ⟨b, off, none⟩) (R + 1) k6) (some (.int .i64 1)) none none).run Tryz.prog W = .ok (.slice (some (if k6 = 1 then ⟨b, off, none⟩ else ⟨b, off + 1, none⟩)) R (k6 - 1)) W := fun W => tail75n W b off R k6 hc6
        have HTr := (HT.out.step HC6.out.step HF.out).1
        have HGD : Hid (wr.grownBy wr.drew none) := gb_drew (World.grownBy.refl _ _)
        have HSG : Hid (Calls Tryz.prog 105 #[.pointer (some ⟨p, 0, none⟩), .int .i64 (k : Int)] wr.drew fun e w' => e = .returned (.string (segN dir k)) ∧ wr.drew.grownBy w' none) := w_segment p d dir (cpN dir op) _ _ k hk8 _ (by omega) (HTr.grown HGD.out) (hW6.kept HGD.out (by simp))
        have HDL : Hid (∀ w1, wr.grownBy w1 none → Calls Tryz.prog 141 #[.pointer (some ⟨d, 0, none⟩), .string (segN dir k)] w1 fun e w' => e = .returned (.int .i64 0) ∧ ∃ n' B', n' ≤ n6 ∧ CutAt w w' base d mb n' (delAll X ((segs.take (i + 1)).map (segN dir))) p dir (cpN dir op) (segs.drop i) (op + 1) A B B' (some ⟨b, off, none⟩) k6) := fun w1 hg => by
          rw [HTK.out]
          exact (HC6.out.grown hg).del d2 d3 d1
        have x0 := hW6.cells.1
        have HW6 : Hid (WRow wr p d dir (cpN dir op) (.slice (some ⟨b, off, none⟩) (segs.drop i).length k6) ((op + 1 : Nat) : Int)) := hW6
        have hdl : segs.drop i = k :: segs.drop (i + 1) := hdrop
        have HX3 : Hid (∀ w5 n5 B5, CutAt w w5 base d mb n5 (delAll X ((segs.take (i + 1)).map (segN dir))) p dir (cpN dir op) (segs.drop i) (op + 1) A B B5 (some ⟨b, off, none⟩) k6 → w5.cell? ⟨p, 0, none⟩ = some (.pointer (some ⟨d, 0, none⟩)) ∧ w5.cell? ⟨p, 3, none⟩ = some (.slice (some ⟨b, off, none⟩) (R + 1) k6) ∧ w5.cell? ⟨b, off, none⟩ = some (.int .i64 (k : Int)) ∧ w5.frozen? ⟨p, 3, none⟩ = false) := fun w5 n5 B5 h5 => by
          obtain ⟨hW7, hr7, hc7, ha7⟩ := h5.row
          obtain ⟨b', off', e', hcell'⟩ := nI_cell hr7.rd (l := segs.drop i) (i := 0) (k := k) (by rw [hdl]; rfl)
          cases e'
          simp only [Nat.add_zero] at hcell'
          rw [← hlen6]
          exact ⟨hW7.cells.1, hW7.cells.2.2.2.1, hcell', hW7.frozen 3⟩
        have HFIN : Hid (∀ w5 n5 B5, CutAt w w5 base d mb n5 (delAll X ((segs.take (i + 1)).map (segN dir))) p dir (cpN dir op) (segs.drop i) (op + 1) A B B5 (some ⟨b, off, none⟩) k6 → CutAt w (w5.setCell ⟨p, 3, none⟩ (.slice (some (if k6 = 1 then ⟨b, off, none⟩ else ⟨b, off + 1, none⟩)) R (k6 - 1))) base d mb n5 (delAll X ((segs.take (i + 1)).map (segN dir))) p dir (cpN dir op) (segs.drop (i + 1)) (op + 1) A B B5 (some (if k6 = 1 then ⟨b, off, none⟩ else ⟨b, off + 1, none⟩)) (k6 - 1)) := fun w5 n5 B5 h5 => by
          obtain ⟨hW7, hr7, hc7, ha7⟩ := h5.row
          have hr8 : IOwn w5 0 (.slice (some ⟨b, off, none⟩) (R + 1) k6) (R + 1) ((k : Int) :: nI (segs.drop (i + 1))) := by
            have e : nI (segs.drop i) = (k : Int) :: nI (segs.drop (i + 1)) := by rw [hdl]; rfl
            rw [← e, ← hlen6]
            exact hr7
          refine h5.set ?_ (by rw [← eR]; exact hr8.tail) (by rw [← eR]; omega) (fun y hy => ?_)
          · have := hW7.set 3 (.slice (some (if k6 = 1 then ⟨b, off, none⟩ else ⟨b, off + 1, none⟩)) R (k6 - 1))
            rw [← eR]
            exact this.congr (five rfl rfl rfl rfl rfl)
          · have h9 := ha7 ⟨b, off, none⟩ rfl
            have e := Option.some.inj hy
            subst e
            split
            · exact h9
            · exact ⟨h9.1, h9.2.1, h9.2.2.1, rfl⟩
        have HLF : Hid (leftN wr p = R + 1) := by show _ = _; rw [HC6.out.left, hlen6]
        have HERR : Hid (R = (segs.drop (i + 1)).length) := eR
        simp only [Nat.add_zero] at hcell
        clear hC6 hW6 hr6 ha6 hk hdrop hdl htk d1 d2 d3 hk8 HTr eR hlen6 HTK
        go_wp2_with fail
        go_region_held3 (fun W => W.cell? ⟨p, 0, none⟩ = some (.pointer (some ⟨d, 0, none⟩)) ∧ W.cell? ⟨p, 3, none⟩ = some (.slice (some ⟨b, off, none⟩) (R + 1) k6) ∧ W.cell? ⟨b, off, none⟩ = some (.int .i64 (k : Int))) (go_keep) (first
          | (go_at_call 105; refine HSG.out.mono ?_; rintro e w1 ⟨rfl, hg1⟩; have HG1 : Hid (wr.grownBy w1 none) := HGD.out.trans hg1; have x0' : w1.cell? ⟨p, 0, none⟩ = some (.pointer (some ⟨d, 0, none⟩)) := HG1.out.cell x0 (by simp); have x3' : w1.cell? ⟨p, 3, none⟩ = some (.slice (some ⟨b, off, none⟩) (R + 1) k6) := HG1.out.cell x3 (by simp); have xc' : w1.cell? ⟨b, off, none⟩ = some (.int .i64 (k : Int)) := HG1.out.cell hcell (by simp); clear hg1)
          | (go_at_call 141; refine (HDL.out _ HG1.out).mono ?_; rintro e w5 ⟨rfl, n5, B5, hn5, hC5⟩; have HC5 : Hid (CutAt w w5 base d mb n5 (delAll X ((segs.take (i + 1)).map (segN dir))) p dir (cpN dir op) (segs.drop i) (op + 1) A B B5 (some ⟨b, off, none⟩) k6) := hC5; obtain ⟨x0'', x3'', xc'', z3''⟩ := HX3.out _ _ _ hC5; clear hC5)
          | (go_at_call 103; refine (HD0 _).mono ?_; rintro e w6 ⟨rfl, rfl⟩))
        go_wp2
        go_roundw
        case rel => exact ⟨i + 1, n5, B5, _, _, by omega, by omega, HFIN.out _ _ _ HC5.out⟩
        case measure =>
          rw [(HFIN.out _ _ _ HC5.out).left, HLF.out, ← HERR.out]
          omega
      · have hij2 : i = j := by omega
        subst hij2
        obtain ⟨k, ekj⟩ : ∃ k, k = kj := ⟨_, rfl⟩
        have hk : segs[i]? = some k := by rw [ekj]; exact HJ.out
        have EKJ : Hid (k = kj) := ekj
        clear ekj
        have hdrop : segs.drop i = k :: segs.drop (i + 1) := by
          rw [List.drop_eq_getElem_cons hlt]
          congr 1
          rw [List.getElem?_eq_getElem hlt] at hk
          exact Option.some.inj hk
        have hk8 := HS8.out k (List.mem_of_getElem? hk)
        obtain ⟨R, eR⟩ : ∃ R, R = (segs.drop (i + 1)).length := ⟨_, rfl⟩
        have hlen6 : (segs.drop i).length = R + 1 := by rw [hdrop, eR]; rfl
        obtain ⟨b, off, rfl, hcell⟩ := nI_cell hr6.rd (l := segs.drop i) (i := 0) (k := k) (by rw [hdrop]; rfl)
        rw [hlen6] at x3 hc6
        have hR : R ≤ 4194304 := by rw [eR, List.length_drop]; omega
        have HTr := (HT.out.step HC6.out.step HF.out).1
        have HGD : Hid (wr.grownBy wr.drew none) := gb_drew (World.grownBy.refl _ _)
        have HSG : Hid (Calls Tryz.prog 105 #[.pointer (some ⟨p, 0, none⟩), .int .i64 (k : Int)] wr.drew fun e w' => e = .returned (.string (segN dir k)) ∧ wr.drew.grownBy w' none) := w_segment p d dir (cpN dir op) _ _ k hk8 _ (by omega) (HTr.grown HGD.out) (hW6.kept HGD.out (by simp))
        have HDL : Hid (∀ w1, wr.grownBy w1 none → Calls Tryz.prog 141 #[.pointer (some ⟨d, 0, none⟩), .string (segN dir k)] w1 fun e w' => e = .returned (.int .i64 60) ∧ ∃ n' B', n' ≤ n6 ∧ CutAt w w' base d mb n' y p dir (cpN dir op) (segs.drop i) (op + 1) A B B' (some ⟨b, off, none⟩) k6) := fun w1 hg => by
          have h1 := HC6.out.grown hg
          refine (x_deleteN base d mb n6 _ B6 (segN dir k) w1 h1.disk HYO.out (by rw [EKJ.out]; exact hkn)).mono ?_
          rintro e w' ⟨rfl, n', B', hn', hd', hst⟩
          rw [EKJ.out, HY.out] at hd' ⊢
          obtain ⟨B'', h2⟩ := h1.write hd' hst
          exact ⟨rfl, n', B'', hn', h2⟩
        have x0 := hW6.cells.1
        have HW6 : Hid (WRow wr p d dir (cpN dir op) (.slice (some ⟨b, off, none⟩) (segs.drop i).length k6) ((op + 1 : Nat) : Int)) := hW6
        have hdl : segs.drop i = k :: segs.drop (i + 1) := hdrop
        have HX3 : Hid (∀ w5 n5 B5, CutAt w w5 base d mb n5 y p dir (cpN dir op) (segs.drop i) (op + 1) A B B5 (some ⟨b, off, none⟩) k6 → w5.cell? ⟨p, 0, none⟩ = some (.pointer (some ⟨d, 0, none⟩)) ∧ w5.cell? ⟨p, 3, none⟩ = some (.slice (some ⟨b, off, none⟩) (R + 1) k6) ∧ w5.cell? ⟨b, off, none⟩ = some (.int .i64 (k : Int)) ∧ w5.frozen? ⟨p, 3, none⟩ = false) := fun w5 n5 B5 h5 => by
          obtain ⟨hW7, hr7, hc7, ha7⟩ := h5.row
          obtain ⟨b', off', e', hcell'⟩ := nI_cell hr7.rd (l := segs.drop i) (i := 0) (k := k) (by rw [hdl]; rfl)
          cases e'
          simp only [Nat.add_zero] at hcell'
          rw [← hlen6]
          exact ⟨hW7.cells.1, hW7.cells.2.2.2.1, hcell', hW7.frozen 3⟩
        have HLF : Hid (leftN wr p = R + 1) := by show _ = _; rw [HC6.out.left, hlen6]
        have HERR : Hid (R = (segs.drop (i + 1)).length) := eR
        simp only [Nat.add_zero] at hcell
        clear hC6 hW6 hr6 ha6 hk hdrop hdl hk8 HTr eR hlen6
        go_wp2_with fail
        refine wp_region_held_drew (S := fun W => W.cell? ⟨p, 0, none⟩ = some (.pointer (some ⟨d, 0, none⟩)) ∧ W.cell? ⟨p, 3, none⟩ = some (.slice (some ⟨b, off, none⟩) (R + 1) k6) ∧ W.cell? ⟨b, off, none⟩ = some (.int .i64 (k : Int))) (by kernel_rfl) (by go_keep) (fun hHeld => ?_)
        refine wpAnyH_take (i := 0) (v := .pointer (some ⟨p, 0, none⟩)) rfl (by kernel_rfl) (by kernel_rfl) (by kernel_rfl) (fun _ _ _ h => h) (Or.inl ⟨by rfl, fun w hSw => ?_⟩) (by assumption) ?_
        · go_simp
        refine wpAnyH_take (i := 1) (v := .pointer (some ⟨p, 0, none⟩)) rfl (by kernel_rfl) (by kernel_rfl) (by kernel_rfl) (fun _ _ _ h => h) (Or.inl ⟨by rfl, fun w hSw => ?_⟩) (by assumption) ?_
        · go_simp
        refine wpAnyH_take (i := 2) (v := .pointer (some ⟨p, 0, none⟩)) rfl (by kernel_rfl) (by kernel_rfl) (by kernel_rfl) (fun _ _ _ h => h) (Or.inl ⟨by rfl, fun w hSw => ?_⟩) (by assumption) ?_
        · go_simp
        refine wpAnyH_take (i := 3) (v := .pointer (some ⟨d, 0, none⟩)) rfl (by kernel_rfl) (by kernel_rfl) (by kernel_rfl) (fun _ _ _ h => h) (Or.inl ⟨by rfl, fun w hSw => ?_⟩) (by assumption) ?_
        · go_simp
        refine wpAnyH_take (i := 4) (v := .pointer (some ⟨p, 0, none⟩)) rfl (by kernel_rfl) (by kernel_rfl) (by kernel_rfl) (fun _ _ _ h => h) (Or.inl ⟨by rfl, fun w hSw => ?_⟩) (by assumption) ?_
        · go_simp
        refine wpAnyH_take (i := 5) (v := .pointer (some ⟨p, 0, none⟩)) rfl (by kernel_rfl) (by kernel_rfl) (by kernel_rfl) (fun _ _ _ h => h) (Or.inl ⟨by rfl, fun w hSw => ?_⟩) (by assumption) ?_
        · go_simp
        refine wpAnyH_take (i := 6) (v := .pointer (some ⟨p, 0, none⟩)) rfl (by kernel_rfl) (by kernel_rfl) (by kernel_rfl) (fun _ _ _ h => h) (Or.inl ⟨by rfl, fun w hSw => ?_⟩) (by assumption) ?_
        · go_simp
        refine wpAnyH_take (i := 7) (v := .pointer (some ⟨p, 3, none⟩)) rfl (by kernel_rfl) (by kernel_rfl) (by kernel_rfl) (fun _ _ _ h => h) (Or.inl ⟨by rfl, fun w hSw => ?_⟩) (by assumption) ?_
        · go_simp
        refine wpAnyH_take (i := 8) (v := .slice (some ⟨b, off, none⟩) (R + 1) k6) rfl (by kernel_rfl) (by kernel_rfl) (by kernel_rfl) (fun _ _ _ h => h) (Or.inl ⟨by rfl, fun w hSw => ?_⟩) (by assumption) ?_
        · go_simp
        refine wpAnyH_take (i := 9) (v := .pointer (some ⟨b, off, none⟩)) rfl (by kernel_rfl) (by kernel_rfl) (by kernel_rfl) (fun _ _ _ h => h) (Or.inl ⟨by rfl, fun w hSw => ?_⟩) (by assumption) ?_
        · go_simp
        refine wpAnyH_take (i := 10) (v := .int .i64 (k : Int)) rfl (by kernel_rfl) (by kernel_rfl) (by kernel_rfl) (fun _ _ _ h => h) (Or.inl ⟨by rfl, fun w hSw => ?_⟩) (by assumption) ?_
        · go_simp
        refine wpAnyH_ready (rs := [11]) (by kernel_rfl) (by simp) (AllReadyH.cons (i := 11) rfl (fun K hK => ?_) AllReadyH.nil)
        go_simp
        refine HSG.out.mono ?_
        rintro e w1 ⟨rfl, hg1⟩
        have HG1 : Hid (wr.grownBy w1 none) := HGD.out.trans hg1
        have x0' : w1.cell? ⟨p, 0, none⟩ = some (.pointer (some ⟨d, 0, none⟩)) := HG1.out.cell x0 (by simp)
        have x3' : w1.cell? ⟨p, 3, none⟩ = some (.slice (some ⟨b, off, none⟩) (R + 1) k6) := HG1.out.cell x3 (by simp)
        have xc' : w1.cell? ⟨b, off, none⟩ = some (.int .i64 (k : Int)) := HG1.out.cell hcell (by simp)
        clear hg1
        refine hK.out _ _ (by go_keep) (fun hHeld => ?_)
        clear hK K
        refine wpAnyH_ready (rs := [12]) (by kernel_rfl) (by simp) (AllReadyH.cons (i := 12) rfl (fun K hK => ?_) AllReadyH.nil)
        go_simp
        refine (HDL.out _ HG1.out).mono ?_
        rintro e w5 ⟨rfl, n5, B5, hn5, hC5⟩
        have HC5 : Hid (CutAt w w5 base d mb n5 y p dir (cpN dir op) (segs.drop i) (op + 1) A B B5 (some ⟨b, off, none⟩) k6) := hC5
        obtain ⟨x0'', x3'', xc'', z3''⟩ := HX3.out _ _ _ hC5
        clear hC5
        refine hK.out _ _ (by go_keep) (fun hHeld => ?_)
        clear hK K
        refine wpAnyH_ready (rs := [13]) (by kernel_rfl) (by simp) (AllReadyH.cons (i := 13) rfl (fun K hK => ?_) AllReadyH.nil)
        go_simp
        refine (HDP _).mono ?_
        rintro e w6 ⟨rfl, rfl⟩
        exact ⟨rfl, rfl, n5, B5, by omega, HC5.out.disk, HC5.out.step, HC5.out.apart, HC5.out.ltB⟩
end Go.Proofs.YtgpgkpciajajcaaGreatDoor

/- Package wal: cut, on a disk that may be armed. (Printed by mk_cutA.py.) -/
namespace Go.Proofs.YtgpgkpciajajcaaGreatDoor
open Go.RowKit Go.Maps Go.Sort
set_option linter.unusedVariables false
set_option maxRecDepth 20000

set_option maxHeartbeats 8000000 in
theorem w_cutG (base d mb n : Nat) (x : DSt) (p : Nat) (dir cp : ByteArray) (segs : List Nat) (op : Nat) (A B : Nat → Prop) (fv : Value) (w : World) (hdir : dirB dir = true) (ht : Tab w) (hf : Far A B) (h : LogAt w base d mb n x p dir cp segs op A B) (hop : op < 99999998) (X3 Z : DSt) (hZ : Z = delAll X3 ((if cp = ⟨#[]⟩ then [] else [cp]) ++ segs.map (segN dir))) (hpt : ∀ w1, w.grownBy w1 none → Calls Tryz.prog 140 #[.pointer (some ⟨p, 0, none⟩), .string (cpN dir op), fv] w1 fun e w' => e = .returned (.tuple #[]) ∧ ∃ n' B', n' ≤ n + 2 ∧ LogAt w' base d mb n' X3 p dir cp segs op A B' ∧ Step2 w1 w' A B A B') (hsg : segs.length ≤ 4194304) (hs8 : ∀ k ∈ segs, k < 100000000) (hcp : cp.size ≤ 64) (hdel : DelOk X3 ((if cp = ⟨#[]⟩ then [] else [cp]) ++ segs.map (segN dir))) (hb : base ≤ w.heap.size) :
    Calls Tryz.prog 107 #[.pointer (some ⟨p, 0, none⟩), fv] w fun e w' => e = .returned (.tuple #[]) ∧ CutFin p dir op w base d mb (n + 2) Z A B w' := by
  have hds : dir.size ≤ 32 := by simp only [dirB, Bool.and_eq_true, decide_eq_true_eq] at hdir; exact hdir.2
  have HD0 := fun w => w_done0 w
  have HL : Hid (LogAt w base d mb n x p dir cp segs op A B) := h
  have HDEL : Hid (DelOk X3 ((if cp = ⟨#[]⟩ then [] else [cp]) ++ segs.map (segN dir))) := hdel
  have HS8 : Hid (∀ k ∈ segs, k < 100000000) := hs8
  have HT : Hid (Tab w) := ht
  have HF : Hid (Far A B) := hf
  have HDIR : Hid (dirB dir = true) := hdir
  obtain ⟨a, c, hW, _⟩ := h.wal
  have c4 := hW.cells.2.2.2.2
  have HCN : Hid (Calls Tryz.prog 139 #[.pointer (some ⟨p, 0, none⟩), .int .i64 (op : Int)] w fun e w' => e = .returned (.string (cpN dir op)) ∧ w.grownBy w' none) := w_cpoint p d dir cp _ _ op (by omega) w (by omega) ht hW
  have HPT : Hid (∀ w1, w.grownBy w1 none → Calls Tryz.prog 140 #[.pointer (some ⟨p, 0, none⟩), .string (cpN dir op), fv] w1 fun e w' => e = .returned (.tuple #[]) ∧ ∃ n' B', n' ≤ n + 2 ∧ LogAt w' base d mb n' X3 p dir cp segs op A B' ∧ Step2 w w' A B A B') := fun w1 hg => by
    refine (hpt w1 hg).mono ?_
    rintro e w' ⟨rfl, n', B', h1, h2, h3⟩
    exact ⟨rfl, n', B', h1, h2, (Step2.grown A B hg).trans h3⟩
  clear h hW hdel hs8 ht hf hdir hpt
  go_enter Tryz.func107, Tryz.ntmps107
  go_wp2_with fail
  refine HCN.out.mono ?_
  rintro e w1 ⟨rfl, hg1⟩
  go_wp2_with fail
  refine (HPT.out _ hg1).mono ?_
  rintro e w2 ⟨rfl, n2, B2, hn2, hL2, hS2⟩
  obtain ⟨a2, k2, hW2, _⟩ := hL2.wal
  have y4 := hW2.cells.2.2.2.2
  have z4 := hW2.frozen 4
  have hSO := hL2.setOpen (op + 1) ((op : Int) + 1) (by omega)
  obtain ⟨aa, ac, hC3⟩ := hSO.1.cutAt (hS2.trans hSO.2)
  have HC3 : Hid (CutAt w (w2.setCell ⟨p, 4, none⟩ (.int .i64 ((op : Int) + 1))) base d mb n2 X3 p dir cp segs (op + 1) A B B2 aa ac) := hC3
  obtain ⟨a3, k3, hW3, _⟩ := hSO.1.wal
  have y2 := hW3.cells.2.2.1
  clear hg1 hL2 hS2 hW2 hSO hW3 HCN HPT hC3
  go_upto_if 26 with fail
  go_cut [] from 5 (fun wc => ∃ n4 B4, n4 ≤ n + 2 ∧ CutAt w wc base d mb n4 (delAll X3 (if cp = ⟨#[]⟩ then [] else [cp])) p dir cp segs (op + 1) A B B4 aa ac)
  case first =>
    by_cases hcp0 : cp = ⟨#[]⟩
    · have q0 : cp.toList.isEmpty = true := by rw [str_none, hcp0]; rfl
      rw [q0, Bool.not_true]
      go_wp2_with fail
      go_meet
      exact ⟨n2, B2, hn2, by rw [if_pos hcp0]; exact HC3.out⟩
    · have q0 : cp.toList.isEmpty = false := by rw [str_none]; simp [hcp0]
      have hd := HDEL.out
      rw [if_neg hcp0] at hd
      obtain ⟨d1, d2, d3, _⟩ := hd
      have HDL : Hid (Calls Tryz.prog 141 #[.pointer (some ⟨d, 0, none⟩), .string cp] (w2.setCell ⟨p, 4, none⟩ (.int .i64 ((op : Int) + 1))).drew fun e w' => e = .returned (.int .i64 0) ∧ ∃ n' B', n' ≤ n2 ∧ CutAt w w' base d mb n' (X3.delete cp).2 p dir cp segs (op + 1) A B B' aa ac) := (HC3.out.grown (gb_drew (World.grownBy.refl _ _))).del d2 d3 d1
      obtain ⟨hW5, _⟩ := HC3.out.row
      have x0 := hW5.cells.1
      have x2 := hW5.cells.2.2.1
      have HX : Hid (delAll X3 [cp] = (X3.delete cp).2) := rfl
      rw [q0, Bool.not_false]
      clear d1 d2 d3 hW5
      go_wp2_with fail
      go_region_held3 (fun W => W.cell? ⟨p, 0, none⟩ = some (.pointer (some ⟨d, 0, none⟩)) ∧ W.cell? ⟨p, 2, none⟩ = some (.string cp)) (go_keep) (first
        | (go_at_call 141; refine HDL.out.mono ?_; rintro e w5 ⟨rfl, n5, B5, hn5, hC5⟩; have HC5 : Hid (CutAt w w5 base d mb n5 (X3.delete cp).2 p dir cp segs (op + 1) A B B5 aa ac) := hC5; obtain ⟨hW6, _⟩ := hC5.row; have x0' := hW6.cells.1; have x2' := hW6.cells.2.2.1; clear hC5 hW6)
        | (go_at_call 103; refine (HD0 _).mono ?_; rintro e w6 ⟨rfl, rfl⟩))
      all_goals (go_wp2_with fail; go_meet)
      all_goals exact ⟨n5, B5, by omega, by rw [if_neg hcp0, HX.out]; exact HC5.out⟩
  case rest =>
    obtain ⟨n4, B4, hn4, hC4⟩ := hcut
    obtain ⟨hW5, hr5, hc5, ha5⟩ := hC4.row
    have x2 := hW5.cells.2.2.1
    have z2 := hW5.frozen 2
    have HC5 : Hid (CutAt w (wc.setCell ⟨p, 2, none⟩ (.string (cpN dir op))) base d mb n4 (delAll X3 (if cp = ⟨#[]⟩ then [] else [cp])) p dir (cpN dir op) segs (op + 1) A B B4 aa ac) := hC4.set ((hW5.set 2 _).congr (five rfl rfl rfl rfl rfl)) hr5 hc5 ha5
    have HDEL2 : Hid (DelOk (delAll X3 (if cp = ⟨#[]⟩ then [] else [cp])) (segs.map (segN dir))) := DelOk.app _ _ _ HDEL.out
    have HCX : Hid (Z = delAll (delAll X3 (if cp = ⟨#[]⟩ then [] else [cp])) (segs.map (segN dir))) := by
      show _ = _
      rw [hZ]
      exact delAll_app _ _ _
    obtain ⟨X, eX⟩ : ∃ X, X = delAll X3 (if cp = ⟨#[]⟩ then [] else [cp]) := ⟨_, rfl⟩
    rw [← eX] at HC5 HDEL2 HCX
    clear hC4 hW5 hr5 hc5 ha5 eX HDEL HC3
    go_wp2_with fail
    go_loopw [41] (fun t41 wr => ∃ i n6 B6 a6 k6, i ≤ segs.length ∧ n6 ≤ n + 2 ∧ CutAt w wr base d mb n6 (delAll X ((segs.take i).map (segN dir))) p dir (cpN dir op) (segs.drop i) (op + 1) A B B6 a6 k6) (fun _ wr => leftN wr p)
    case atStart => exact ⟨0, n4, B4, aa, ac, Nat.zero_le _, hn4, by simpa [delAll] using HC5.out⟩
    case round =>
      obtain ⟨i, n6, B6, a6, k6, hi, hn6, hC6⟩ := hrel
      have HC6 : Hid (CutAt w wr base d mb n6 (delAll X ((segs.take i).map (segN dir))) p dir (cpN dir op) (segs.drop i) (op + 1) A B B6 a6 k6) := hC6
      obtain ⟨hW6, hr6, hc6, ha6⟩ := hC6.row
      have x3 := hW6.cells.2.2.2.1
      clear HC5
      by_cases hlt : i < segs.length
      · obtain ⟨k, hk⟩ : ∃ k, segs[i]? = some k := ⟨_, List.getElem?_eq_getElem hlt⟩
        have hdrop : segs.drop i = k :: segs.drop (i + 1) := by
          rw [List.drop_eq_getElem_cons hlt]
          congr 1
          rw [List.getElem?_eq_getElem hlt] at hk
          exact Option.some.inj hk
        have htk : (segs.take (i + 1)).map (segN dir) = (segs.take i).map (segN dir) ++ [segN dir k] := by rw [List.take_add_one, hk]; simp
        have HTK : Hid (delAll X ((segs.take (i + 1)).map (segN dir)) = ((delAll X ((segs.take i).map (segN dir))).delete (segN dir k)).2) := by show _ = _; rw [htk, delAll_snoc]
        have hdo : DelOk (delAll X ((segs.take i).map (segN dir))) ((segs.drop i).map (segN dir)) := by
          refine DelOk.app _ _ _ ?_
          rw [← List.map_append, List.take_append_drop]
          exact HDEL2.out
        rw [hdrop] at hdo
        obtain ⟨d1, d2, d3, _⟩ := hdo
        have hk8 := HS8.out k (List.mem_of_getElem? hk)
        obtain ⟨R, eR⟩ : ∃ R, R = (segs.drop (i + 1)).length := ⟨_, rfl⟩
        have hlen6 : (segs.drop i).length = R + 1 := by rw [hdrop, eR]; rfl
        obtain ⟨b, off, rfl, hcell⟩ := nI_cell hr6.rd (l := segs.drop i) (i := 0) (k := k) (by rw [hdrop]; rfl)
        rw [hlen6] at x3 hc6
        have hR : R ≤ 4194304 := by rw [eR, List.length_drop]; omega
        have hsl : ∀ W : World, (Instr.slice 44 (.slice (some ⟨b, off, none⟩) (R + 1) k6) (some (.int .i64 1)) none none).run Tryz.prog W = .ok (.slice (some (if k6 = 1 then ⟨b, off, none⟩ else ⟨b, off + 1, none⟩)) R (k6 - 1)) W := fun W => tail75n W b off R k6 hc6
        have HTr := (HT.out.step HC6.out.step HF.out).1
        have HGD : Hid (wr.grownBy wr.drew none) := gb_drew (World.grownBy.refl _ _)
        have HSG : Hid (Calls Tryz.prog 105 #[.pointer (some ⟨p, 0, none⟩), .int .i64 (k : Int)] wr.drew fun e w' => e = .returned (.string (segN dir k)) ∧ wr.drew.grownBy w' none) := w_segment p d dir (cpN dir op) _ _ k hk8 _ (by omega) (HTr.grown HGD.out) (hW6.kept HGD.out (by simp))
        have HDL : Hid (∀ w1, wr.grownBy w1 none → Calls Tryz.prog 141 #[.pointer (some ⟨d, 0, none⟩), .string (segN dir k)] w1 fun e w' => e = .returned (.int .i64 0) ∧ ∃ n' B', n' ≤ n6 ∧ CutAt w w' base d mb n' (delAll X ((segs.take (i + 1)).map (segN dir))) p dir (cpN dir op) (segs.drop i) (op + 1) A B B' (some ⟨b, off, none⟩) k6) := fun w1 hg => by
          rw [HTK.out]
          exact (HC6.out.grown hg).del d2 d3 d1
        have x0 := hW6.cells.1
        have HW6 : Hid (WRow wr p d dir (cpN dir op) (.slice (some ⟨b, off, none⟩) (segs.drop i).length k6) ((op + 1 : Nat) : Int)) := hW6
        have hdl : segs.drop i = k :: segs.drop (i + 1) := hdrop
        have HX3 : Hid (∀ w5 n5 B5, CutAt w w5 base d mb n5 (delAll X ((segs.take (i + 1)).map (segN dir))) p dir (cpN dir op) (segs.drop i) (op + 1) A B B5 (some ⟨b, off, none⟩) k6 → w5.cell? ⟨p, 0, none⟩ = some (.pointer (some ⟨d, 0, none⟩)) ∧ w5.cell? ⟨p, 3, none⟩ = some (.slice (some ⟨b, off, none⟩) (R + 1) k6) ∧ w5.cell? ⟨b, off, none⟩ = some (.int .i64 (k : Int)) ∧ w5.frozen? ⟨p, 3, none⟩ = false) := fun w5 n5 B5 h5 => by
          obtain ⟨hW7, hr7, hc7, ha7⟩ := h5.row
          obtain ⟨b', off', e', hcell'⟩ := nI_cell hr7.rd (l := segs.drop i) (i := 0) (k := k) (by rw [hdl]; rfl)
          cases e'
          simp only [Nat.add_zero] at hcell'
          rw [← hlen6]
          exact ⟨hW7.cells.1, hW7.cells.2.2.2.1, hcell', hW7.frozen 3⟩
        have HFIN : Hid (∀ w5 n5 B5, CutAt w w5 base d mb n5 (delAll X ((segs.take (i + 1)).map (segN dir))) p dir (cpN dir op) (segs.drop i) (op + 1) A B B5 (some ⟨b, off, none⟩) k6 → CutAt w (w5.setCell ⟨p, 3, none⟩ (.slice (some (if k6 = 1 then ⟨b, off, none⟩ else ⟨b, off + 1, none⟩)) R (k6 - 1))) base d mb n5 (delAll X ((segs.take (i + 1)).map (segN dir))) p dir (cpN dir op) (segs.drop (i + 1)) (op + 1) A B B5 (some (if k6 = 1 then ⟨b, off, none⟩ else ⟨b, off + 1, none⟩)) (k6 - 1)) := fun w5 n5 B5 h5 => by
          obtain ⟨hW7, hr7, hc7, ha7⟩ := h5.row
          have hr8 : IOwn w5 0 (.slice (some ⟨b, off, none⟩) (R + 1) k6) (R + 1) ((k : Int) :: nI (segs.drop (i + 1))) := by
            have e : nI (segs.drop i) = (k : Int) :: nI (segs.drop (i + 1)) := by rw [hdl]; rfl
            rw [← e, ← hlen6]
            exact hr7
          refine h5.set ?_ (by rw [← eR]; exact hr8.tail) (by rw [← eR]; omega) (fun y hy => ?_)
          · have := hW7.set 3 (.slice (some (if k6 = 1 then ⟨b, off, none⟩ else ⟨b, off + 1, none⟩)) R (k6 - 1))
            rw [← eR]
            exact this.congr (five rfl rfl rfl rfl rfl)
          · have h9 := ha7 ⟨b, off, none⟩ rfl
            have e := Option.some.inj hy
            subst e
            split
            · exact h9
            · exact ⟨h9.1, h9.2.1, h9.2.2.1, rfl⟩
        have HLF : Hid (leftN wr p = R + 1) := by show _ = _; rw [HC6.out.left, hlen6]
        have HERR : Hid (R = (segs.drop (i + 1)).length) := eR
        simp only [Nat.add_zero] at hcell
        clear hC6 hW6 hr6 ha6 hk hdrop hdl htk d1 d2 d3 hk8 HTr eR hlen6 HTK
        go_wp2_with fail
        go_region_held3 (fun W => W.cell? ⟨p, 0, none⟩ = some (.pointer (some ⟨d, 0, none⟩)) ∧ W.cell? ⟨p, 3, none⟩ = some (.slice (some ⟨b, off, none⟩) (R + 1) k6) ∧ W.cell? ⟨b, off, none⟩ = some (.int .i64 (k : Int))) (go_keep) (first
          | (go_at_call 105; refine HSG.out.mono ?_; rintro e w1 ⟨rfl, hg1⟩; have HG1 : Hid (wr.grownBy w1 none) := HGD.out.trans hg1; have x0' : w1.cell? ⟨p, 0, none⟩ = some (.pointer (some ⟨d, 0, none⟩)) := HG1.out.cell x0 (by simp); have x3' : w1.cell? ⟨p, 3, none⟩ = some (.slice (some ⟨b, off, none⟩) (R + 1) k6) := HG1.out.cell x3 (by simp); have xc' : w1.cell? ⟨b, off, none⟩ = some (.int .i64 (k : Int)) := HG1.out.cell hcell (by simp); clear hg1)
          | (go_at_call 141; refine (HDL.out _ HG1.out).mono ?_; rintro e w5 ⟨rfl, n5, B5, hn5, hC5⟩; have HC5 : Hid (CutAt w w5 base d mb n5 (delAll X ((segs.take (i + 1)).map (segN dir))) p dir (cpN dir op) (segs.drop i) (op + 1) A B B5 (some ⟨b, off, none⟩) k6) := hC5; obtain ⟨x0'', x3'', xc'', z3''⟩ := HX3.out _ _ _ hC5; clear hC5)
          | (go_at_call 103; refine (HD0 _).mono ?_; rintro e w6 ⟨rfl, rfl⟩))
        go_wp2
        go_roundw
        case rel => exact ⟨i + 1, n5, B5, _, _, by omega, by omega, HFIN.out _ _ _ HC5.out⟩
        case measure =>
          rw [(HFIN.out _ _ _ HC5.out).left, HLF.out, ← HERR.out]
          omega
      · have hii : i = segs.length := by omega
        have hl0 : (segs.drop i).length = 0 := by rw [List.length_drop]; omega
        rw [hl0] at x3
        have HFIN : Hid (CutFin p dir op w base d mb (n + 2) Z A B wr) := by
          have hnil : segs.drop i = [] := List.eq_nil_of_length_eq_zero hl0
          rw [hnil] at hW6 hr6
          refine ⟨⟨n6, B6, hn6, ?_, HC6.out.step, HC6.out.apart, HC6.out.ltB⟩, ⟨a6, k6, hW6, hr6, HC6.out.own, fun y hy => ⟨(ha6 y hy).1, (ha6 y hy).2.1⟩⟩⟩
          rw [HCX.out]
          have := HC6.out.disk
          rw [hii, List.take_length] at this
          exact this
        clear hC6 hW6 hr6 hc6 ha6 hii hl0
        go_wp2
        go_end0
        exact ⟨rfl, HFIN.out⟩
end Go.Proofs.YtgpgkpciajajcaaGreatDoor

