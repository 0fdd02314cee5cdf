/- Several texts in one: Wu, Wv, Wx. -/
import Derived.Test.YtgpgkpciajajcaaGreatDoorGao
import Derived.Deep.CutRange
/- Package wal: cut, done wholly. -/
namespace Go.Proofs.YtgpgkpciajajcaaGreatDoor
open Go.RowKit Go.Maps Go.Sort
set_option linter.unusedVariables false
set_option maxRecDepth 20000

/-- Each of these files is there when it is to be deleted. -/
def DelOk : DSt → List ByteArray → Prop
  | _, [] => True
  | x, s :: l => (x.delete s).1 = 0 ∧ x.ok ∧ nameB s = true ∧ DelOk (x.delete s).2 l
theorem DelOk.app : ∀ (l r : List ByteArray) (x : DSt), DelOk x (l ++ r) → DelOk (delAll x l) r
  | [], _, _, h => h
  | _ :: l, r, _, h => DelOk.app l r _ h.2.2.2
theorem delAll_app (x : DSt) : ∀ l r, delAll x (l ++ r) = delAll (delAll x l) r := by
  intro l r
  induction l generalizing x with
  | nil => rfl
  | cons t l ih => exact ih _
def leftN (w : World) (p : Nat) : Nat := match w.cell? ⟨p, 3, none⟩ with
  | some (.slice _ n _) => n
  | _ => 0
theorem CutAt.left {w0 w : World} {base d mb n : Nat} {x : DSt} {p : Nat} {dir cp : ByteArray} {left : List Nat} {op : Nat} {A B0 B : Nat → Prop} {a : Option Addr} {c : Nat} (h : CutAt w0 w base d mb n x p dir cp left op A B0 B a c) : leftN w p = left.length := by
  obtain ⟨h1, _⟩ := h.row
  unfold leftN
  rw [h1.cells.2.2.2.1]
/-- One deletion. -/
theorem CutAt.del {w0 w : World} {base d mb n : Nat} {x : DSt} {p : Nat} {dir cp : ByteArray} {left : List Nat} {op : Nat} {A B0 B : Nat → Prop} {s : ByteArray} {a : Option Addr} {c : Nat} (h : CutAt w0 w base d mb n x p dir cp left op A B0 B a c) (hok : x.ok) (hnm : nameB s = true) (h0 : (x.delete s).1 = 0) :
    Calls Tryz.prog 141 #[.pointer (some ⟨d, 0, none⟩), .string s] w fun e w' => e = .returned (.int .i64 0) ∧ ∃ n' B', n' ≤ n ∧ CutAt w0 w' base d mb n' (x.delete s).2 p dir cp left op A B0 B' a c := by
  refine (x_deleteN base d mb n x B s w h.disk hok hnm).mono ?_
  rintro e w' ⟨rfl, n', B', hn', hd', hst⟩
  obtain ⟨B'', h2⟩ := h.write hd' hst
  exact ⟨by rw [h0], n', B'', hn', h2⟩
/-- The loop of cut: all segments go. -/
def CutEnd (w : World) (base d mb n : Nat) (x : DSt) (A B : Nat → Prop) (w' : World) : Prop := ∃ n' B', n' ≤ n ∧ DS w' base d mb n' x B' ∧ Step2 w w' A B A B' ∧ (∀ k, A k → ¬ B' k) ∧ (∀ k, B' k → k < w'.heap.size)
/-- .. and the log goes on. -/
def CutFin (p : Nat) (dir : ByteArray) (op : Nat) (w : World) (base d mb n : Nat) (x : DSt) (A B : Nat → Prop) (w' : World) : Prop := CutEnd w base d mb n x A B w' ∧ WalA w' p d dir (cpN dir op) [] (op + 1) A
set_option maxHeartbeats 8000000 in
theorem w_cut (base d mb n : Nat) (x : DSt) (p : Nat) (dir cp : ByteArray) (segs : List Nat) (op : Nat) (A B : Nat → Prop) (ad : Addr) (zs : List Int) (M cd : Nat) (w : World) (hdir : dirB dir = true) (ht : Tab w) (hf : Far A B) (h : LogAt w base d mb n x p dir cp segs op A B) (hc : x.Calm) (hw : x.wn ≤ 999999980) (hop : op < 99999998) (hn : n < 1048574) (hnew : x.V (newN dir) = none) (hsg : segs.length ≤ 4194304) (hs8 : ∀ k ∈ segs, k < 100000000) (hcp : cp.size ≤ 64) (hdel : DelOk (putX x dir (cpN dir op) zs) ((if cp = ⟨#[]⟩ then [] else [cp]) ++ segs.map (segN dir))) (hr : SRd byteE w (some ad) zs) (hM : zs.length = M) (hby : ∀ z ∈ zs, 0 ≤ z ∧ z ≤ 255) (hlen : M ≤ 4194304) (hb : base ≤ w.heap.size) (had : ¬ B ad.block) :
    Calls Tryz.prog 107 #[.pointer (some ⟨p, 0, none⟩), .slice (some ad) M cd] w fun e w' => e = .returned (.tuple #[]) ∧ CutFin p dir op w base d mb (n + 2) (cutX x dir cp segs op zs) A B w' := by
  have hds : dir.size ≤ 32 := by simp only [dirB, Bool.and_eq_true, decide_eq_true_eq] at hdir; exact hdir.2
  have HD0 := fun w => w_done0 w
  have HL : Hid (LogAt w base d mb n x p dir cp segs op A B) := h
  have HDEL : Hid (DelOk (putX x dir (cpN dir op) zs) ((if cp = ⟨#[]⟩ then [] else [cp]) ++ segs.map (segN dir))) := hdel
  have HS8 : Hid (∀ k ∈ segs, k < 100000000) := hs8
  have HT : Hid (Tab w) := ht
  have HF : Hid (Far A B) := hf
  have HDIR : Hid (dirB dir = true) := hdir
  obtain ⟨a, c, hW, _⟩ := h.wal
  have c4 := hW.cells.2.2.2.2
  have HCN : Hid (Calls Tryz.prog 139 #[.pointer (some ⟨p, 0, none⟩), .int .i64 (op : Int)] w fun e w' => e = .returned (.string (cpN dir op)) ∧ w.grownBy w' none) := w_cpoint p d dir cp _ _ op (by omega) w (by omega) ht hW
  have HPT : Hid (∀ w1, w.grownBy w1 none → Calls Tryz.prog 140 #[.pointer (some ⟨p, 0, none⟩), .string (cpN dir op), .slice (some ad) M cd] w1 fun e w' => e = .returned (.tuple #[]) ∧ ∃ n' B', n' ≤ n + 2 ∧ LogAt w' base d mb n' (putX x dir (cpN dir op) zs) p dir cp segs op A B' ∧ Step2 w w' A B A B') := fun w1 hg => by
    refine (w_put base d mb n x p dir cp (cpN dir op) segs op A B ad zs M cd w1 hdir (HL.out.grown hg) hc hw hn hnew (cp_name hdir op) (hr.grown hg (by simp)) hM hby hlen (Nat.le_trans hb hg.size) had).mono ?_
    rintro e w' ⟨rfl, n', B', h1, h2, h3⟩
    exact ⟨rfl, n', B', h1, h2, (Step2.grown A B hg).trans h3⟩
  clear h hW hdel hs8 hr hby had ht hf hdir hM hnew
  go_enter Tryz.func107, Tryz.ntmps107
  go_wp2_with fail
  refine HCN.out.mono ?_
  rintro e w1 ⟨rfl, hg1⟩
  go_wp2_with fail
  refine (HPT.out _ hg1).mono ?_
  rintro e w2 ⟨rfl, n2, B2, hn2, hL2, hS2⟩
  obtain ⟨a2, k2, hW2, _⟩ := hL2.wal
  have y4 := hW2.cells.2.2.2.2
  have z4 := hW2.frozen 4
  have hSO := hL2.setOpen (op + 1) ((op : Int) + 1) (by omega)
  obtain ⟨aa, ac, hC3⟩ := hSO.1.cutAt (hS2.trans hSO.2)
  have HC3 : Hid (CutAt w (w2.setCell ⟨p, 4, none⟩ (.int .i64 ((op : Int) + 1))) base d mb n2 (putX x dir (cpN dir op) zs) p dir cp segs (op + 1) A B B2 aa ac) := hC3
  obtain ⟨a3, k3, hW3, _⟩ := hSO.1.wal
  have y2 := hW3.cells.2.2.1
  clear hg1 hL2 hS2 hW2 hSO hW3 HCN HPT hC3
  go_upto_if 26 with fail
  go_cut [] from 5 (fun wc => ∃ n4 B4, n4 ≤ n + 2 ∧ CutAt w wc base d mb n4 (delAll (putX x dir (cpN dir op) zs) (if cp = ⟨#[]⟩ then [] else [cp])) p dir cp segs (op + 1) A B B4 aa ac)
  case first =>
    by_cases hcp0 : cp = ⟨#[]⟩
    · have q0 : cp.toList.isEmpty = true := by rw [str_none, hcp0]; rfl
      rw [q0, Bool.not_true]
      go_wp2_with fail
      go_meet
      exact ⟨n2, B2, hn2, by rw [if_pos hcp0]; exact HC3.out⟩
    · have q0 : cp.toList.isEmpty = false := by rw [str_none]; simp [hcp0]
      have hd := HDEL.out
      rw [if_neg hcp0] at hd
      obtain ⟨d1, d2, d3, _⟩ := hd
      have HDL : Hid (Calls Tryz.prog 141 #[.pointer (some ⟨d, 0, none⟩), .string cp] (w2.setCell ⟨p, 4, none⟩ (.int .i64 ((op : Int) + 1))).drew fun e w' => e = .returned (.int .i64 0) ∧ ∃ n' B', n' ≤ n2 ∧ CutAt w w' base d mb n' ((putX x dir (cpN dir op) zs).delete cp).2 p dir cp segs (op + 1) A B B' aa ac) := (HC3.out.grown (gb_drew (World.grownBy.refl _ _))).del d2 d3 d1
      obtain ⟨hW5, _⟩ := HC3.out.row
      have x0 := hW5.cells.1
      have x2 := hW5.cells.2.2.1
      have HX : Hid (delAll (putX x dir (cpN dir op) zs) [cp] = ((putX x dir (cpN dir op) zs).delete cp).2) := rfl
      rw [q0, Bool.not_false]
      clear d1 d2 d3 hW5
      go_wp2_with fail
      go_region_held3 (fun W => W.cell? ⟨p, 0, none⟩ = some (.pointer (some ⟨d, 0, none⟩)) ∧ W.cell? ⟨p, 2, none⟩ = some (.string cp)) (go_keep) (first
        | (go_at_call 141; refine HDL.out.mono ?_; rintro e w5 ⟨rfl, n5, B5, hn5, hC5⟩; have HC5 : Hid (CutAt w w5 base d mb n5 ((putX x dir (cpN dir op) zs).delete cp).2 p dir cp segs (op + 1) A B B5 aa ac) := hC5; obtain ⟨hW6, _⟩ := hC5.row; have x0' := hW6.cells.1; have x2' := hW6.cells.2.2.1; clear hC5 hW6)
        | (go_at_call 103; refine (HD0 _).mono ?_; rintro e w6 ⟨rfl, rfl⟩))
      all_goals (go_wp2_with fail; go_meet)
      all_goals exact ⟨n5, B5, by omega, by rw [if_neg hcp0, HX.out]; exact HC5.out⟩
  case rest =>
    obtain ⟨n4, B4, hn4, hC4⟩ := hcut
    obtain ⟨hW5, hr5, hc5, ha5⟩ := hC4.row
    have x2 := hW5.cells.2.2.1
    have z2 := hW5.frozen 2
    have HC5 : Hid (CutAt w (wc.setCell ⟨p, 2, none⟩ (.string (cpN dir op))) base d mb n4 (delAll (putX x dir (cpN dir op) zs) (if cp = ⟨#[]⟩ then [] else [cp])) p dir (cpN dir op) segs (op + 1) A B B4 aa ac) := hC4.set ((hW5.set 2 _).congr (five rfl rfl rfl rfl rfl)) hr5 hc5 ha5
    have HDEL2 : Hid (DelOk (delAll (putX x dir (cpN dir op) zs) (if cp = ⟨#[]⟩ then [] else [cp])) (segs.map (segN dir))) := DelOk.app _ _ _ HDEL.out
    have HCX : Hid (cutX x dir cp segs op zs = delAll (delAll (putX x dir (cpN dir op) zs) (if cp = ⟨#[]⟩ then [] else [cp])) (segs.map (segN dir))) := by
      show _ = _
      unfold cutX
      exact delAll_app _ _ _
    obtain ⟨X, eX⟩ : ∃ X, X = delAll (putX x dir (cpN dir op) zs) (if cp = ⟨#[]⟩ then [] else [cp]) := ⟨_, rfl⟩
    rw [← eX] at HC5 HDEL2 HCX
    clear hC4 hW5 hr5 hc5 ha5 eX HDEL HC3
    go_wp2_with fail
    go_loopw [41] (fun t41 wr => ∃ i n6 B6 a6 k6, i ≤ segs.length ∧ n6 ≤ n + 2 ∧ CutAt w wr base d mb n6 (delAll X ((segs.take i).map (segN dir))) p dir (cpN dir op) (segs.drop i) (op + 1) A B B6 a6 k6) (fun _ wr => leftN wr p)
    case atStart => exact ⟨0, n4, B4, aa, ac, Nat.zero_le _, hn4, by simpa [delAll] using HC5.out⟩
    case round =>
      obtain ⟨i, n6, B6, a6, k6, hi, hn6, hC6⟩ := hrel
      have HC6 : Hid (CutAt w wr base d mb n6 (delAll X ((segs.take i).map (segN dir))) p dir (cpN dir op) (segs.drop i) (op + 1) A B B6 a6 k6) := hC6
      obtain ⟨hW6, hr6, hc6, ha6⟩ := hC6.row
      have x3 := hW6.cells.2.2.2.1
      clear HC5
      by_cases hlt : i < segs.length
      · obtain ⟨k, hk⟩ : ∃ k, segs[i]? = some k := ⟨_, List.getElem?_eq_getElem hlt⟩
        have hdrop : segs.drop i = k :: segs.drop (i + 1) := by
          rw [List.drop_eq_getElem_cons hlt]
          congr 1
          rw [List.getElem?_eq_getElem hlt] at hk
          exact Option.some.inj hk
        have htk : (segs.take (i + 1)).map (segN dir) = (segs.take i).map (segN dir) ++ [segN dir k] := by rw [List.take_add_one, hk]; simp
        have HTK : Hid (delAll X ((segs.take (i + 1)).map (segN dir)) = ((delAll X ((segs.take i).map (segN dir))).delete (segN dir k)).2) := by show _ = _; rw [htk, delAll_snoc]
        have hdo : DelOk (delAll X ((segs.take i).map (segN dir))) ((segs.drop i).map (segN dir)) := by
          refine DelOk.app _ _ _ ?_
          rw [← List.map_append, List.take_append_drop]
          exact HDEL2.out
        rw [hdrop] at hdo
        obtain ⟨d1, d2, d3, _⟩ := hdo
        have hk8 := HS8.out k (List.mem_of_getElem? hk)
        obtain ⟨R, eR⟩ : ∃ R, R = (segs.drop (i + 1)).length := ⟨_, rfl⟩
        have hlen6 : (segs.drop i).length = R + 1 := by rw [hdrop, eR]; rfl
        obtain ⟨b, off, rfl, hcell⟩ := nI_cell hr6.rd (l := segs.drop i) (i := 0) (k := k) (by rw [hdrop]; rfl)
        rw [hlen6] at x3 hc6
        have hR : R ≤ 4194304 := by rw [eR, List.length_drop]; omega
        have hsl : ∀ W : World, (Instr.slice 44 (.slice (some ⟨b, off, none⟩) (R + 1) k6) (some (.int .i64 1)) none none).run Tryz.prog W = .ok (.slice (some (if k6 = 1 then ⟨b, off, none⟩ else ⟨b, off + 1, none⟩)) R (k6 - 1)) W := fun W => tail75n W b off R k6 hc6
        have HTr := (HT.out.step HC6.out.step HF.out).1
        have HGD : Hid (wr.grownBy wr.drew none) := gb_drew (World.grownBy.refl _ _)
        have HSG : Hid (Calls Tryz.prog 105 #[.pointer (some ⟨p, 0, none⟩), .int .i64 (k : Int)] wr.drew fun e w' => e = .returned (.string (segN dir k)) ∧ wr.drew.grownBy w' none) := w_segment p d dir (cpN dir op) _ _ k hk8 _ (by omega) (HTr.grown HGD.out) (hW6.kept HGD.out (by simp))
        have HDL : Hid (∀ w1, wr.grownBy w1 none → Calls Tryz.prog 141 #[.pointer (some ⟨d, 0, none⟩), .string (segN dir k)] w1 fun e w' => e = .returned (.int .i64 0) ∧ ∃ n' B', n' ≤ n6 ∧ CutAt w w' base d mb n' (delAll X ((segs.take (i + 1)).map (segN dir))) p dir (cpN dir op) (segs.drop i) (op + 1) A B B' (some ⟨b, off, none⟩) k6) := fun w1 hg => by
          rw [HTK.out]
          exact (HC6.out.grown hg).del d2 d3 d1
        have x0 := hW6.cells.1
        have HW6 : Hid (WRow wr p d dir (cpN dir op) (.slice (some ⟨b, off, none⟩) (segs.drop i).length k6) ((op + 1 : Nat) : Int)) := hW6
        have hdl : segs.drop i = k :: segs.drop (i + 1) := hdrop
        have HX3 : Hid (∀ w5 n5 B5, CutAt w w5 base d mb n5 (delAll X ((segs.take (i + 1)).map (segN dir))) p dir (cpN dir op) (segs.drop i) (op + 1) A B B5 (some ⟨b, off, none⟩) k6 → w5.cell? ⟨p, 0, none⟩ = some (.pointer (some ⟨d, 0, none⟩)) ∧ w5.cell? ⟨p, 3, none⟩ = some (.slice (some ⟨b, off, none⟩) (R + 1) k6) ∧ w5.cell? ⟨b, off, none⟩ = some (.int .i64 (k : Int)) ∧ w5.frozen? ⟨p, 3, none⟩ = false) := fun w5 n5 B5 h5 => by
          obtain ⟨hW7, hr7, hc7, ha7⟩ := h5.row
          obtain ⟨b', off', e', hcell'⟩ := nI_cell hr7.rd (l := segs.drop i) (i := 0) (k := k) (by rw [hdl]; rfl)
          cases e'
          simp only [Nat.add_zero] at hcell'
          rw [← hlen6]
          exact ⟨hW7.cells.1, hW7.cells.2.2.2.1, hcell', hW7.frozen 3⟩
        have HFIN : Hid (∀ w5 n5 B5, CutAt w w5 base d mb n5 (delAll X ((segs.take (i + 1)).map (segN dir))) p dir (cpN dir op) (segs.drop i) (op + 1) A B B5 (some ⟨b, off, none⟩) k6 → CutAt w (w5.setCell ⟨p, 3, none⟩ (.slice (some (if k6 = 1 then ⟨b, off, none⟩ else ⟨b, off + 1, none⟩)) R (k6 - 1))) base d mb n5 (delAll X ((segs.take (i + 1)).map (segN dir))) p dir (cpN dir op) (segs.drop (i + 1)) (op + 1) A B B5 (some (if k6 = 1 then ⟨b, off, none⟩ else ⟨b, off + 1, none⟩)) (k6 - 1)) := fun w5 n5 B5 h5 => by
          obtain ⟨hW7, hr7, hc7, ha7⟩ := h5.row
          have hr8 : IOwn w5 0 (.slice (some ⟨b, off, none⟩) (R + 1) k6) (R + 1) ((k : Int) :: nI (segs.drop (i + 1))) := by
            have e : nI (segs.drop i) = (k : Int) :: nI (segs.drop (i + 1)) := by rw [hdl]; rfl
            rw [← e, ← hlen6]
            exact hr7
          refine h5.set ?_ (by rw [← eR]; exact hr8.tail) (by rw [← eR]; omega) (fun y hy => ?_)
          · have := hW7.set 3 (.slice (some (if k6 = 1 then ⟨b, off, none⟩ else ⟨b, off + 1, none⟩)) R (k6 - 1))
            rw [← eR]
            exact this.congr (five rfl rfl rfl rfl rfl)
          · have h9 := ha7 ⟨b, off, none⟩ rfl
            have e := Option.some.inj hy
            subst e
            split
            · exact h9
            · exact ⟨h9.1, h9.2.1, h9.2.2.1, rfl⟩
        have HLF : Hid (leftN wr p = R + 1) := by show _ = _; rw [HC6.out.left, hlen6]
        have HERR : Hid (R = (segs.drop (i + 1)).length) := eR
        simp only [Nat.add_zero] at hcell
        clear hC6 hW6 hr6 ha6 hk hdrop hdl htk d1 d2 d3 hk8 HTr eR hlen6 HTK
        go_wp2_with fail
        go_region_held3 (fun W => W.cell? ⟨p, 0, none⟩ = some (.pointer (some ⟨d, 0, none⟩)) ∧ W.cell? ⟨p, 3, none⟩ = some (.slice (some ⟨b, off, none⟩) (R + 1) k6) ∧ W.cell? ⟨b, off, none⟩ = some (.int .i64 (k : Int))) (go_keep) (first
          | (go_at_call 105; refine HSG.out.mono ?_; rintro e w1 ⟨rfl, hg1⟩; have HG1 : Hid (wr.grownBy w1 none) := HGD.out.trans hg1; have x0' : w1.cell? ⟨p, 0, none⟩ = some (.pointer (some ⟨d, 0, none⟩)) := HG1.out.cell x0 (by simp); have x3' : w1.cell? ⟨p, 3, none⟩ = some (.slice (some ⟨b, off, none⟩) (R + 1) k6) := HG1.out.cell x3 (by simp); have xc' : w1.cell? ⟨b, off, none⟩ = some (.int .i64 (k : Int)) := HG1.out.cell hcell (by simp); clear hg1)
          | (go_at_call 141; refine (HDL.out _ HG1.out).mono ?_; rintro e w5 ⟨rfl, n5, B5, hn5, hC5⟩; have HC5 : Hid (CutAt w w5 base d mb n5 (delAll X ((segs.take (i + 1)).map (segN dir))) p dir (cpN dir op) (segs.drop i) (op + 1) A B B5 (some ⟨b, off, none⟩) k6) := hC5; obtain ⟨x0'', x3'', xc'', z3''⟩ := HX3.out _ _ _ hC5; clear hC5)
          | (go_at_call 103; refine (HD0 _).mono ?_; rintro e w6 ⟨rfl, rfl⟩))
        go_wp2
        go_roundw
        case rel => exact ⟨i + 1, n5, B5, _, _, by omega, by omega, HFIN.out _ _ _ HC5.out⟩
        case measure =>
          rw [(HFIN.out _ _ _ HC5.out).left, HLF.out, ← HERR.out]
          omega
      · have hii : i = segs.length := by omega
        have hl0 : (segs.drop i).length = 0 := by rw [List.length_drop]; omega
        rw [hl0] at x3
        have HFIN : Hid (CutFin p dir op w base d mb (n + 2) (cutX x dir cp segs op zs) A B wr) := by
          have hnil : segs.drop i = [] := List.eq_nil_of_length_eq_zero hl0
          rw [hnil] at hW6 hr6
          refine ⟨⟨n6, B6, hn6, ?_, HC6.out.step, HC6.out.apart, HC6.out.ltB⟩, ⟨a6, k6, hW6, hr6, HC6.out.own, fun y hy => ⟨(ha6 y hy).1, (ha6 y hy).2.1⟩⟩⟩
          rw [HCX.out]
          have := HC6.out.disk
          rw [hii, List.take_length] at this
          exact this
        clear hC6 hW6 hr6 hc6 ha6 hii hl0
        go_wp2
        go_end0
        exact ⟨rfl, HFIN.out⟩
end Go.Proofs.YtgpgkpciajajcaaGreatDoor

/- Package wal: Cut. -/
namespace Go.Proofs.YtgpgkpciajajcaaGreatDoor
open Go.RowKit Go.Maps Go.Sort
set_option linter.unusedVariables false
set_option maxRecDepth 20000

theorem w_cut1 (p q s : Nat) (fv : Value) (w : World) (P : World → Prop) (hq : w.cell? ⟨q, 0, none⟩ = some (.pointer (some ⟨p, 0, none⟩))) (hs : w.cell? ⟨s, 0, none⟩ = some fv) (hm : Calls Tryz.prog 107 #[.pointer (some ⟨p, 0, none⟩), fv] w fun e w' => e = .returned (.tuple #[]) ∧ P w') :
    Calls Tryz.prog 106 #[.pointer (some ⟨q, 0, none⟩), .pointer (some ⟨s, 0, none⟩)] w fun e w' => e = .returned (.tuple #[]) ∧ P w' := by
  have HM : Hid (Calls Tryz.prog 107 #[.pointer (some ⟨p, 0, none⟩), fv] w fun e w' => e = .returned (.tuple #[]) ∧ P w') := hm
  clear hm
  go_enter Tryz.func106, Tryz.ntmps106
  go_wp2_with fail
  refine HM.out.mono ?_
  rintro e w1 ⟨rfl, hp⟩
  have HP : Hid (P w1) := hp
  clear hp HM
  go_wp2
  go_end0
  exact ⟨rfl, HP.out⟩
/-- A slice of slices, as it is read: the records. -/
def KeepIs (w : World) (ka : Option Addr) (ts : List Sl) (recs : List (List Int)) : Prop := SRd slE w ka ts ∧ ts.length = recs.length ∧ ∀ (i : Nat) (t : Sl) (r : List Int), ts[i]? = some t → recs[i]? = some r → t.2.1 = r.length ∧ Rd w t.1 r ∧ (t.1 = none → t.2.2 = 0) ∧ r.length ≤ 65536
theorem KeepIs.grown {w w' : World} {ka : Option Addr} {ts : List Sl} {recs : List (List Int)} (h : KeepIs w ka ts recs) (hg : w.grownBy w' none) : KeepIs w' ka ts recs :=
  ⟨h.1.grown hg (by simp), h.2.1, fun i t r h1 h2 => ⟨(h.2.2 i t r h1 h2).1, (h.2.2 i t r h1 h2).2.1.grown hg (by simp), (h.2.2 i t r h1 h2).2.2⟩⟩
/-- The frames so far: in the cell s. -/
structure FrAt (w0 w : World) (p s : Nat) (zs : List Int) : Prop where
  ex : ∃ fa fc, w.rowIs s 37 1 (fun _ => .slice fa zs.length fc) ∧ SOwn byteE 5 w (s + 1) (.slice fa zs.length fc) zs.length zs
  byte : ∀ z ∈ zs, 0 ≤ z ∧ z ≤ 255
  grown : w0.grownBy w none
  old : w0.heap.size + 1 = s
  head : w.rowIs w0.heap.size 65 1 (fun _ => .pointer (some ⟨p, 0, none⟩))
set_option maxHeartbeats 8000000 in
theorem w_frames (p q s : Nat) (ka : Option Addr) (kn kc : Nat) (ts : List Sl) (recs : List (List Int)) (w : World) (hk : KeepIs w ka ts recs) (hn : recs.length = kn) (hb : (logB frameR recs).length ≤ 4194304) (hkn : kn ≤ 4194304) (P : Ending → World → Prop) (hend : ∀ w1, FrAt w w1 p (w.heap.size + 1) (logB frameR recs) → Calls Tryz.prog 97 #[.func (.func 106) #[] #[.pointer (some ⟨w.heap.size, 0, none⟩), .pointer (some ⟨w.heap.size + 1, 0, none⟩)]] w1 P) (hP : ∀ e w1, P e w1 → ∃ c, e = .returned (.int .i64 c)) :
    Calls Tryz.prog 76 #[.pointer (some ⟨p, 0, none⟩), .slice ka kn kc] w P := by
  have HK : Hid (KeepIs w ka ts recs) := hk
  have HN : Hid (recs.length = kn) := hn
  have HE : Hid (∀ w1, FrAt w w1 p (w.heap.size + 1) (logB frameR recs) → Calls Tryz.prog 97 #[.func (.func 106) #[] #[.pointer (some ⟨w.heap.size, 0, none⟩), .pointer (some ⟨w.heap.size + 1, 0, none⟩)]] w1 P) := hend
  have HP : Hid (∀ e w1, P e w1 → ∃ c, e = .returned (.int .i64 c)) := hP
  have HBD : Hid ((logB frameR recs).length ≤ 4194304) := hb
  have hmf : ∀ (fn : Fn) (first cap : Array Value) (w : World), (Instr.makeFunc fn first cap).run Tryz.prog w = .ok (.func fn first cap) w := fun _ _ _ _ => rfl
  obtain ⟨W2, eW2⟩ : ∃ W2, W2 = (w.alloc (.cells #[.pointer (some ⟨p, 0, none⟩)] 65)).alloc (.cells #[.slice none 0 0] 37) := ⟨_, rfl⟩
  have hs1 : ∀ (w : World) o, (w.alloc o).heap.size = w.heap.size + 1 := fun w o => Array.size_push _
  have HF0 : Hid (FrAt w W2 p (w.heap.size + 1) (logB frameR (recs.take 0))) := by
    rw [eW2]
    refine ⟨⟨none, 0, ?_, SOwn.nil 5 _ _⟩, by simp [logB], (World.grownBy_alloc w _ none).trans (World.grownBy_alloc _ _ none), rfl, (row1 w (.pointer (some ⟨p, 0, none⟩)) 65).alloc _⟩
    have := row1 (w.alloc (.cells #[.pointer (some ⟨p, 0, none⟩)] 65)) (.slice none 0 0) 37
    rw [hs1] at this
    exact this
  have EW2 : Hid (W2 = (w.alloc (.cells #[.pointer (some ⟨p, 0, none⟩)] 65)).alloc (.cells #[.slice none 0 0] 37)) := eW2
  clear hk hn hend hP hb eW2 hs1
  go_enter Tryz.func76, Tryz.ntmps76
  go_wp2_with fail
  rw [← EW2.out]
  go_loopw [12] (fun t12 wr => ∃ i : Nat, i ≤ kn ∧ t12 = .int .i64 i ∧ FrAt w wr p (w.heap.size + 1) (logB frameR (recs.take i))) (fun t12 _ => kn - (intOf t12).toNat)
  case atStart => exact ⟨0, Nat.zero_le _, rfl, HF0.out⟩
  case round =>
    obtain ⟨i, hi, rfl, hF⟩ := hrel
    have HF : Hid (FrAt w wr p (w.heap.size + 1) (logB frameR (recs.take i))) := hF
    by_cases hlt : i < kn
    · have hii : (i : Int) < (kn : Int) := by omega
      have hkl := HK.out.2.1
      have hnn := HN.out
      obtain ⟨r, hr⟩ : ∃ r, recs[i]? = some r := ⟨_, List.getElem?_eq_getElem (by omega)⟩
      obtain ⟨t, ht⟩ : ∃ t, ts[i]? = some t := ⟨_, List.getElem?_eq_getElem (by omega)⟩
      have hKr := HK.out.grown hF.grown
      obtain ⟨kb, koff, rfl, hkc⟩ := hKr.1.at (by omega)
      have a0 : wr.cell? ⟨kb, koff + i, none⟩ = some (.slice t.1 t.2.1 t.2.2) := by have h := hkc i _ 0 _ ht rfl; simpa [slE, slV] using h
      obtain ⟨h1, h2, h3, h4⟩ := hKr.2.2 i t r ht hr
      have hfl : flist r = frameR r := by unfold flist; rw [if_neg (by omega)]
      have hfc : fcode r = 0 := by unfold fcode; rw [if_neg (by omega)]
      have HFR : Hid (Calls Tryz.prog 96 #[.slice t.1 t.2.1 t.2.2] wr fun e w' => ∃ v N c, e = .returned (.tuple #[.slice v N c, .int .i64 0]) ∧ Out wr w' v N c (frameR r) ∧ wr.grownBy w' none) := f_frame t.1 r t.2.1 t.2.2 (frameR r) 0 wr h2 h1.symm h3 (by omega) hfl hfc
      have HT : Hid (logB frameR (recs.take (i + 1)) = logB frameR (recs.take i) ++ frameR r) := logB_take recs i r hr
      have hsum : (logB frameR (recs.take i)).length + (frameR r).length ≤ 4194304 := by
        have h5 := HBD.out
        rw [logB_split recs i r hr] at h5
        simp only [List.length_append] at h5
        omega
      clear hKr hkc ht hr h1 h2 h3 h4 hfl hfc hkl hnn hF
      go_wp2_with fail
      refine HFR.out.mono ?_
      rintro e w1 ⟨fv, FN, fc, rfl, hout, hg1⟩
      obtain ⟨⟨fa, fcc, hrow, hso⟩, hby, hgr, hold, hhd⟩ := HF.out
      have hrow1 := hrow.of_block (hg1.block _ hrow.lt (by simp))
      obtain ⟨L, eL⟩ : ∃ L, L = (logB frameR (recs.take i)).length := ⟨_, rfl⟩
      rw [← eL] at hrow1 hso hsum
      have y0 : w1.cell? ⟨w.heap.size + 1, 0, none⟩ = some (.slice fa L fcc) := hrow1.cell (i := 0) (by omega)
      have HSO : Hid (SOwn byteE 5 w1 (w.heap.size + 1 + 1) (.slice fa L fcc) L (logB frameR (recs.take i))) := SOwn.kept hso hg1 (by cases fa <;> simp [Value.ownBlock])
      have HFL : Hid ((frameR r).length = FN) := hout.1
      have HRD : Hid (SRd byteE w1 fv (frameR r)) := rd_srd hout.2.1
      have HFN : Hid (fv = none → fc = 0) := hout.2.2.1
      have hFN2 : L + FN ≤ 4194304 := by rw [← hout.1]; exact hsum
      have hsz : w.heap.size + 1 + 1 ≤ w1.heap.size := by have := hrow1.lt; omega
      have HSTEP : Hid (∀ (v3 : Value) (w3 : World), SOwn byteE 5 w3 (w.heap.size + 1 + 1) v3 (L + FN) (logB frameR (recs.take i) ++ frameR r) → w1.grownBy w3 (Value.ownBlock (.slice fa L fcc)) → ∃ a3 k3, v3 = .slice a3 (L + FN) k3 ∧ w3.cell? ⟨w.heap.size + 1, 0, none⟩ = some (.slice fa L fcc) ∧ w3.frozen? ⟨w.heap.size + 1, 0, none⟩ = false ∧ FrAt w (w3.setCell ⟨w.heap.size + 1, 0, none⟩ (.slice a3 (L + FN) k3)) p (w.heap.size + 1) (logB frameR (recs.take (i + 1)))) := fun v3 w3 ho3 hg3 => by
        obtain ⟨a3, k3, rfl⟩ := sownSl ho3
        have hne : some (w.heap.size + 1) ≠ Value.ownBlock (.slice fa L fcc) := ownNe HSO.out (Nat.lt_succ_self _)
        have hr3 := hrow1.of_block (hg3.block _ hrow1.lt hne)
        have hgs : w3.grownBy (w3.setCell ⟨w.heap.size + 1, 0, none⟩ (.slice a3 (L + FN) k3)) (some (w.heap.size + 1)) := gb_set rfl
        have el : (logB frameR (recs.take (i + 1))).length = L + FN := by rw [HT.out, List.length_append, ← eL, HFL.out]
        refine ⟨a3, k3, rfl, hr3.cell (i := 0) (by omega), hr3.frozen 0, ⟨a3, k3, ?_, ?_⟩, ?_, ?_, hold, ?_⟩
        · rw [el]
          exact (hr3.set 0 (.slice a3 (L + FN) k3)).congr (fun j hj => by have h0 : j = 0 := by omega
                                                                          subst h0; rfl)
        · rw [el, HT.out]
          exact SOwn.kept ho3 hgs (.inr (fun e => ownNe ho3 (Nat.lt_succ_self _) e.symm))
        · rw [HT.out]
          intro z hz
          rcases List.mem_append.1 hz with h | h
          · exact hby z h
          · exact hout.2.1.2 z h
        · exact gb_trans (gb_trans (hgr.trans hg1) hg3 (fun k hk => .inl (by have := (HSO.out.block k hk).1; omega))) hgs (fun k hk => .inl (by cases hk; omega))
        · exact (((hhd.of_block (hg1.block _ hhd.lt (by simp))).of_block (hg3.block _ (Nat.lt_of_lt_of_le hhd.lt hg1.size) (ownNe HSO.out (by omega)))).setOther (a := ⟨w.heap.size + 1, 0, none⟩) (by show w.heap.size ≠ w.heap.size + 1; omega) _)
      clear hhd hout hg1 hrow hso hby hgr hold hrow1 eL HFR HF
      go_wp2_with (at_builtin; refine wpList_append_s byteET rfl (.tmp 23) (.tmp 24) rfl (w.heap.size + 1 + 1) (.slice fa L fcc) L (logB frameR (recs.take i)) rfl HSO.out fv (frameR r) FN fc rfl HFL.out HRD.out HFN.out (by omega) (by unfold maxLen; omega) hsz ?_; intro v3 w3 ho3 hg3 hn3; obtain ⟨a3, k3, rfl, y3, z3, hfr⟩ := HSTEP.out v3 w3 ho3 hg3; have HFR3 : Hid (FrAt w (w3.setCell ⟨w.heap.size + 1, 0, none⟩ (.slice a3 (L + FN) k3)) p (w.heap.size + 1) (logB frameR (recs.take (i + 1)))) := hfr; clear ho3 hg3 hn3 hfr)
      go_roundw
      case rel => exact ⟨i + 1, by omega, by go_num, HFR3.out⟩
      case measure => simp [intOf]; omega
    · have hii : ¬ (i : Int) < (kn : Int) := by omega
      have hF2 : FrAt w wr p (w.heap.size + 1) (logB frameR recs) := by
        have h5 := HF.out
        rw [List.take_of_length_le (by rw [HN.out]; omega)] at h5
        exact h5
      have HC : Hid (Calls Tryz.prog 97 #[.func (.func 106) #[] #[.pointer (some ⟨w.heap.size, 0, none⟩), .pointer (some ⟨w.heap.size + 1, 0, none⟩)]] wr P) := HE.out wr hF2
      clear hF hF2
      go_wp2_with fail
      refine HC.out.mono ?_
      intro e w9 hp9
      obtain ⟨c9, rfl⟩ := HP.out e w9 hp9
      have HP9 : Hid (P (.returned (.int .i64 c9)) w9) := hp9
      clear hp9 HC
      go_wp2
      exact HP9.out
theorem w_cutC (base d mb n : Nat) (x : DSt) (p : Nat) (dir cp : ByteArray) (segs : List Nat) (op : Nat) (A B : Nat → Prop) (ka : Option Addr) (kn kc : Nat) (ts : List Sl) (recs : List (List Int)) (w : World) (hdir : dirB dir = true) (ht : Tab w) (hf : Far A B) (h : LogAt w base d mb n x p dir cp segs op A B) (hc : x.Calm) (hw : x.wn ≤ 999999980) (hop : op < 99999998) (hn : n < 1048574) (hnew : x.V (newN dir) = none) (hsg : segs.length ≤ 4194304) (hs8 : ∀ k ∈ segs, k < 100000000) (hcp : cp.size ≤ 64) (hdel : DelOk (putX x dir (cpN dir op) (logB frameR recs)) ((if cp = ⟨#[]⟩ then [] else [cp]) ++ segs.map (segN dir))) (hk : KeepIs w ka ts recs) (hkn : recs.length = kn) (hk4 : kn ≤ 4194304) (hne : recs ≠ []) (hlen : (logB frameR recs).length ≤ 4194304) (hb : base ≤ w.heap.size) :
    Calls Tryz.prog 76 #[.pointer (some ⟨p, 0, none⟩), .slice ka kn kc] w fun e w' => e = .returned (.int .i64 0) ∧ CutFin p dir op w base d mb (n + 2) (cutX x dir cp segs op (logB frameR recs)) A B w' := by
  refine w_frames p 0 0 ka kn kc ts recs w hk hkn hlen hk4 (fun e w' => e = .returned (.int .i64 0) ∧ CutFin p dir op w base d mb (n + 2) (cutX x dir cp segs op (logB frameR recs)) A B w') (fun w1 hF => ?_) (fun e w1 hp => ⟨0, hp.1⟩)
  obtain ⟨⟨fa, fc, hrow, hso⟩, hby, hgr, hold, hhd⟩ := hF
  have hpos : logB frameR recs ≠ [] := by
    cases recs with
    | nil => exact absurd rfl hne
    | cons r rs =>
      rw [logB_cons]
      intro e
      have h1 := framing.pos r
      have h2 := (List.append_eq_nil_iff.1 e).1
      rw [h2] at h1
      simp at h1
  obtain ⟨ad, rfl⟩ : ∃ ad, fa = some ad := by
    cases fa with
    | some ad => exact ⟨ad, rfl⟩
    | none => exact absurd hso.rd.none hpos
  obtain ⟨W4, eW4⟩ : ∃ W4, W4 = w1.alloc (.cells #[.int .i64 0] 31) := ⟨_, rfl⟩
  have hg14 : w1.grownBy W4 none := by rw [eW4]; exact World.grownBy_alloc _ _ none
  have hgw4 := hgr.trans hg14
  have hz4 : W4.heap.size = w1.heap.size + 1 := by rw [eW4]; exact Array.size_push _
  have hs4 : W4.rowIs w1.heap.size 31 1 (fun _ => .int .i64 0) := by rw [eW4]; exact row1 w1 (.int .i64 0) 31
  have hold2 : ∀ k, w.heap.size ≤ k → ¬ A k ∧ ¬ B k := fun k hk => ⟨fun ha => by have := h.ltA k ha; omega, fun hb => by have := h.ltB k hb; omega⟩
  have hadb := (hso.block ad.block rfl).1
  have hsl := hrow.lt
  have HC := w_caught57 #[.pointer (some ⟨w.heap.size, 0, none⟩), .pointer (some ⟨w.heap.size + 1, 0, none⟩)] (fun w2 => CutFin p dir op W4 base d mb (n + 2) (cutX x dir cp segs op (logB frameR recs)) A B w2) w1 (by
    rw [← eW4]
    refine (w_cut1 p w.heap.size (w.heap.size + 1) (.slice (some ad) (logB frameR recs).length fc) W4 (fun w2 => CutFin p dir op W4 base d mb (n + 2) (cutX x dir cp segs op (logB frameR recs)) A B w2) (hg14.cell (hhd.cell (i := 0) (by omega)) (by simp)) (hg14.cell (hrow.cell (i := 0) (by omega)) (by simp)) (w_cut base d mb n x p dir cp segs op A B ad (logB frameR recs) (logB frameR recs).length fc W4 hdir (ht.grown hgw4) hf (h.grown hgw4) hc hw hop hn hnew hsg hs8 hcp hdel (hso.rd.grown hg14 (by simp)) rfl hby hlen (Nat.le_trans hb hgw4.size) (hold2 _ (by omega)).2)).mono ?_
    rintro e w2 ⟨rfl, hce⟩
    refine ⟨rfl, hce, ?_⟩
    obtain ⟨⟨n', B', _, _, h3, _⟩, _⟩ := hce
    have hs5 := hs4.of_block (h3.kept.block _ hs4.lt (fun h => h.elim (hold2 _ (by omega)).1 (hold2 _ (by omega)).2))
    exact ⟨hs5.cell (i := 0) (by omega), hs5.frozen 0⟩)
  refine HC.mono ?_
  rintro e w3 ⟨rfl, w2, ⟨⟨n', B', h1, h2, h3, h4, h5⟩, h6⟩, rfl⟩
  have hg : w2.grownBy (w2.setCell ⟨w1.heap.size, 0, none⟩ (.int .i64 0)) (some w1.heap.size) := gb_set rfl
  have hk2 : Kept w2 (w2.setCell ⟨w1.heap.size, 0, none⟩ (.int .i64 0)) (fun k => k = w1.heap.size) := Kept.of hg (fun k hk => by cases hk; rfl)
  refine ⟨rfl, ⟨n', B', h1, h2.others hk2 (fun k hb e => ?_), ((Step2.grown A B hgw4).trans h3).cell (by omega), h4, fun k hb => Nat.lt_of_lt_of_le (h5 k hb) hg.size⟩, h6.kept hk2 (fun k ha e => by subst e; exact (hold2 _ (by omega)).1 ha)⟩
  subst e
  exact (hold2 _ (by omega)).2 (h3.oldB _ (by rw [hz4]; omega) hb)
end Go.Proofs.YtgpgkpciajajcaaGreatDoor

/- A log's folder, as its calls change it. (No program's numbers.) -/
namespace Go.Proofs.YtgpgkpciajajcaaGreatDoor
open Go.RowKit Go.Maps Go.Sort
set_option linter.unusedVariables false
set_option maxRecDepth 20000

theorem setV_isSome (V : Cont) (s : ByteArray) (q : List Int × Nat) (hs : (V s).isSome = true) (t : ByteArray) : (setV V s (some q) t).isSome = (V t).isSome := by
  by_cases e : t = s
  · subst e; rw [setV_same, hs]; rfl
  · rw [setV_other V _ e]
theorem Folder.set {V : Cont} {dir : ByteArray} {cps segs : List Nat} {draft : Bool} (h : Folder V dir cps draft segs) {s : ByteArray} (q : List Int × Nat) (hs : (V s).isSome = true) : Folder (setV V s (some q)) dir cps draft segs :=
  ⟨h.cpr, h.segr, fun t => by rw [setV_isSome V s q hs t]; exact h.mem t⟩
theorem rising_snoc {l : List Nat} {k : Nat} (h : Rising l) (hk : ∀ j ∈ l, j < k) (h8 : k < 100000000) : Rising (l ++ [k]) := by
  refine ⟨?_, fun j hj => ?_⟩
  · rw [List.pairwise_append]
    exact ⟨h.1, by simp, fun a ha b hb => by simp at hb; subst hb; exact hk a ha⟩
  · rcases List.mem_append.1 hj with h1 | h1
    · exact h.2 j h1
    · simp at h1; omega
theorem Folder.add {V : Cont} {dir : ByteArray} {cps segs : List Nat} {draft : Bool} (h : Folder V dir cps draft segs) {k : Nat} (q : List Int × Nat) (hk : ∀ j ∈ segs, j < k) (h8 : k < 100000000) : Folder (setV V (segN dir k) (some q)) dir cps draft (segs ++ [k]) := by
  refine ⟨h.cpr, rising_snoc h.segr hk h8, fun t => ?_⟩
  have e : namesL dir cps draft (segs ++ [k]) = namesL dir cps draft segs ++ [segN dir k] := by unfold namesL; simp
  rw [e, List.mem_append, ← h.mem t, List.mem_singleton]
  by_cases et : t = segN dir k
  · subst et
    rw [setV_same]
    simp [seg_in]
  · rw [setV_other V _ et]
    simp [et]
/-- A record more. -/
def addL (K : Option (Nat × List (List Int))) (Ls : List (Nat × List (List Int))) (rec : List Int) : List (Nat × List (List Int)) := match Ls.getLast? with
  | none => [(lastN K + 1, [rec])]
  | some q => if 4096 ≤ (logB frameR q.2).length then Ls ++ [(q.1 + 1, [rec])] else Ls.dropLast ++ [(q.1, q.2 ++ [rec])]
theorem recsOf_add (K : Option (Nat × List (List Int))) (Ls : List (Nat × List (List Int))) (rec : List Int) : recsOf (addL K Ls rec) = recsOf Ls ++ [rec] := by
  unfold addL
  cases h : Ls.getLast? with
  | none =>
    have : Ls = [] := List.getLast?_eq_none_iff.1 h
    subst this
    rfl
  | some q =>
    have e : Ls = Ls.dropLast ++ [q] := by
      obtain ⟨l, rfl⟩ := List.getLast?_eq_some_iff.1 h
      simp
    dsimp only
    split
    · unfold recsOf; rw [List.flatMap_append]; simp
    · conv => rhs; rw [e]
      unfold recsOf
      rw [List.flatMap_append, List.flatMap_append]
      simp
theorem logB_one (r : List Int) : logB frameR [r] = frameR r := by simp [logB]
/-- What Append does to a whole folder. -/
structure Added (x : DSt) (dir : ByteArray) (K : Option (Nat × List (List Int))) (Ls : List (Nat × List (List Int))) (rec : List Int) : Prop where
  log : Log (appX x dir (openN K Ls) rec).V dir K (addL K Ls rec)
  segs : segsX (Ls.map Prod.fst) (rollX x dir (openN K Ls)).2 = (addL K Ls rec).map Prod.fst
  op : (rollX x dir (openN K Ls)).2 = openN K (addL K Ls rec)
  room : (oldV (rollX x dir (openN K Ls)).1.V (segN dir (rollX x dir (openN K Ls)).2)).1.length < 4096
  calm : (appX x dir (openN K Ls) rec).Calm
  wn : (appX x dir (openN K Ls) rec).wn ≤ x.wn + 2
theorem Whole.other {V : Cont} {dir : ByteArray} {L : List (Nat × List (List Int))} (h : Whole V dir L) {k : Nat} (hk : k < 100000000) (q : List Int × Nat) (hne : ∀ p ∈ L, p.1 ≠ k) : Whole (setV V (segN dir k) (some q)) dir L := fun p hp => by
  obtain ⟨⟨syn, h1⟩, h2, h3⟩ := h p hp
  refine ⟨⟨syn, ?_⟩, h2, h3⟩
  rw [setV_other V _ (fun e => hne p hp (seg_inj dir h3 hk e))]
  exact h1
theorem CpIs.other {V : Cont} {dir cp : ByteArray} {K : Option (Nat × List (List Int))} (h : CpIs V dir cp K) (k : Nat) (q : List Int × Nat) : CpIs (setV V (segN dir k) (some q)) dir cp K := by
  cases K with
  | none => exact h
  | some p =>
    obtain ⟨h1, ⟨syn, h2⟩, h3⟩ := h
    exact ⟨h1, ⟨syn, by rw [setV_other V _ (cp_ne_seg dir _ _)]; exact h2⟩, h3⟩
theorem Log.rise {V : Cont} {dir : ByteArray} {K : Option (Nat × List (List Int))} {L0 : List (Nat × List (List Int))} {q : Nat × List (List Int)} (h : Log V dir K (L0 ++ [q])) : ∀ p ∈ L0, p.1 < q.1 := by
  have h1 := h.folder.segr.1
  rw [List.map_append, List.pairwise_append] at h1
  intro p hp
  exact h1.2.2 p.1 (List.mem_map.2 ⟨p, hp, rfl⟩) q.1 (by simp)
theorem openN_snoc (K : Option (Nat × List (List Int))) (L : List (Nat × List (List Int))) (q : Nat × List (List Int)) : openN K (L ++ [q]) = q.1 := by
  unfold openN
  simp
theorem isOpen_snoc (l : List Nat) (k : Nat) : isOpen (l ++ [k]) k = true := by simp [isOpen]
theorem log_add {x : DSt} {dir : ByteArray} {K : Option (Nat × List (List Int))} {Ls : List (Nat × List (List Int))} {rec : List Int} (h : Log x.V dir K Ls) (hc : x.Calm) (hw : x.wn ≤ 999999980) (hr : rec.length ≤ 65536) (hop : openN K Ls < 99999998) : Added x dir K Ls rec := by
  rcases List.eq_nil_or_concat Ls with rfl | ⟨L0, q, rfl⟩
  · -- no segment yet
    have hopn : openN K [] = lastN K + 1 := rfl
    rw [hopn] at hop
    have hV : x.V (segN dir (lastN K + 1)) = none := by
      cases hV : x.V (segN dir (lastN K + 1)) with
      | none => rfl
      | some v =>
        exfalso
        have := (h.folder.mem (segN dir (lastN K + 1))).1 ⟨by rw [hV]; rfl, seg_in dir _⟩
        unfold namesL at this
        simp only [List.map_nil, Bool.false_eq_true, if_false, List.append_nil, List.mem_map] at this
        obtain ⟨j, _, e⟩ := this
        exact cp_ne_seg dir _ _ e
    have hroll : rollX x dir (lastN K + 1) = (x, lastN K + 1) := by unfold rollX; rw [hV]
    have happ : appX x dir (lastN K + 1) rec = { x with wn := x.wn + 1, V := setV x.V (segN dir (lastN K + 1)) (some (frameR rec, 0)) } := by
      unfold appX
      rw [hroll, calm_app x hc]
      have : oldV x.V (segN dir (lastN K + 1)) = ([], 0) := by unfold oldV; rw [hV]; rfl
      rw [this, List.nil_append]
    have hadd : addL K [] rec = [(lastN K + 1, [rec])] := rfl
    refine ⟨?_, ?_, ?_, ?_, ?_, ?_⟩
    · rw [hopn, happ, hadd]
      refine ⟨h.folder.add _ (by simp) (by omega), h.cp.other _ _, ?_, ?_, h.big⟩
      · intro p hp
        simp only [List.mem_singleton] at hp
        subst hp
        refine ⟨⟨0, ?_⟩, fun r hr' => by simp at hr'; subst hr'; exact hr, by dsimp only; omega⟩
        show setV x.V _ _ _ = _
        rw [setV_same, logB_one]
      · intro p hp
        simp only [List.mem_singleton] at hp
        subst hp
        dsimp only
        omega
    · rw [hopn, hroll, hadd]; rfl
    · rw [hopn, hroll, hadd]; rfl
    · rw [hopn, hroll]
      have : oldV x.V (segN dir (lastN K + 1)) = ([], 0) := by unfold oldV; rw [hV]; rfl
      rw [this]
      decide
    · rw [hopn, happ]; exact calm_next x hc (by omega) _
    · rw [hopn, happ]; dsimp only; omega
  · rw [List.concat_eq_append] at *
    have hopn : openN K (L0 ++ [q]) = q.1 := openN_snoc K L0 q
    rw [hopn] at hop
    obtain ⟨⟨syn, hV⟩, hqr, hq8⟩ := h.whole q (by simp)
    have hlow := h.rise
    have hlast : (L0 ++ [q]).getLast? = some q := by simp
    have hmap : (L0 ++ [q]).map Prod.fst = L0.map Prod.fst ++ [q.1] := by simp
    by_cases hbig : 4096 ≤ (logB frameR q.2).length
    · have hsy := calm_sync x hc (segN dir q.1) _ hV
      have hroll : rollX x dir q.1 = ({ x with wn := x.wn + 1, V := setV x.V (segN dir q.1) (some (logB frameR q.2, (logB frameR q.2).length)) }, q.1 + 1) := by
        unfold rollX
        rw [hV]
        dsimp only
        rw [if_pos hbig, hsy]
      have hc1 := calm_next x hc (by omega) (setV x.V (segN dir q.1) (some (logB frameR q.2, (logB frameR q.2).length)))
      have hne : segN dir (q.1 + 1) ≠ segN dir q.1 := fun e => by have := seg_inj dir (by omega) (by omega) e; omega
      have hV2 : setV x.V (segN dir q.1) (some (logB frameR q.2, (logB frameR q.2).length)) (segN dir (q.1 + 1)) = none := by
        rw [setV_other _ _ hne]
        cases hV3 : x.V (segN dir (q.1 + 1)) with
        | none => rfl
        | some v =>
          exfalso
          have := (h.folder.mem (segN dir (q.1 + 1))).1 ⟨by rw [hV3]; rfl, seg_in dir _⟩
          unfold namesL at this
          simp only [Bool.false_eq_true, if_false, List.nil_append, List.mem_append, List.mem_map] at this
          rcases this with ⟨j, _, e⟩ | ⟨j, ⟨p, hp, rfl⟩, e⟩
          · exact cp_ne_seg dir _ _ e
          · have h8 := h.folder.segr.2 p.1 (List.mem_map.2 ⟨p, by simpa using hp, rfl⟩)
            have e2 := seg_inj dir h8 (by omega) e
            rcases hp with hp | hp
            · have := hlow p hp; omega
            · simp at hp; subst hp; omega
      have hold : oldV (setV x.V (segN dir q.1) (some (logB frameR q.2, (logB frameR q.2).length))) (segN dir (q.1 + 1)) = ([], 0) := by unfold oldV; rw [hV2]; rfl
      have happ : appX x dir q.1 rec = { x with wn := x.wn + 1 + 1, V := setV (setV x.V (segN dir q.1) (some (logB frameR q.2, (logB frameR q.2).length))) (segN dir (q.1 + 1)) (some (frameR rec, 0)) } := by
        unfold appX
        rw [hroll]
        dsimp only
        rw [calm_app _ hc1, hold, List.nil_append]
      have hadd : addL K (L0 ++ [q]) rec = (L0 ++ [q]) ++ [(q.1 + 1, [rec])] := by unfold addL; rw [hlast]; exact if_pos hbig
      have hall : ∀ j ∈ (L0 ++ [q]).map Prod.fst, j < q.1 + 1 := by
        intro j hj
        obtain ⟨p, hp, rfl⟩ := List.mem_map.1 hj
        rcases List.mem_append.1 hp with hp | hp
        · have := hlow p hp; omega
        · simp at hp; subst hp; omega
      have hw1 : Whole (setV x.V (segN dir q.1) (some (logB frameR q.2, (logB frameR q.2).length))) dir (L0 ++ [q]) := by
        intro p hp
        obtain ⟨⟨s', h1⟩, h2, h3⟩ := h.whole p hp
        by_cases e : p.1 = q.1
        · have e2 : p = q := by
            rcases List.mem_append.1 hp with hp | hp
            · have := hlow p hp; omega
            · simpa using hp
          subst e2
          exact ⟨⟨_, setV_same _ _ _⟩, h2, h3⟩
        · exact ⟨⟨s', by rw [setV_other _ _ (fun e' => e (seg_inj dir h3 hq8 e'))]; exact h1⟩, h2, h3⟩
      refine ⟨?_, ?_, ?_, ?_, ?_, ?_⟩
      · rw [hopn, happ, hadd]
        refine ⟨?_, (h.cp.other _ _).other _ _, ?_, ?_, h.big⟩
        · have h5 := (h.folder.set (logB frameR q.2, (logB frameR q.2).length) (s := segN dir q.1) (by rw [hV]; rfl)).add (k := q.1 + 1) (frameR rec, 0) hall (by omega)
          rw [show ((L0 ++ [q]) ++ [(q.1 + 1, [rec])]).map Prod.fst = (L0 ++ [q]).map Prod.fst ++ [q.1 + 1] by simp]
          exact h5
        · intro p hp
          rcases List.mem_append.1 hp with hp | hp
          · exact hw1.other (k := q.1 + 1) (by omega) _ (fun p' hp' => by have := hall p'.1 (List.mem_map.2 ⟨p', hp', rfl⟩); omega) p hp
          · simp only [List.mem_singleton] at hp
            subst hp
            exact ⟨⟨0, by show setV _ _ _ _ = _; rw [setV_same, logB_one]⟩, fun r hr' => by simp at hr'; subst hr'; exact hr, by dsimp only; omega⟩
        · intro p hp
          rcases List.mem_append.1 hp with hp | hp
          · exact h.above p hp
          · simp only [List.mem_singleton] at hp
            subst hp
            have := h.above q (by simp)
            dsimp only
            omega
      · rw [hopn, hroll, hadd]
        dsimp only
        unfold segsX
        rw [if_neg]
        · simp
        · unfold isOpen
          rw [hmap]
          simp
      · rw [hopn, hroll, hadd, openN_snoc]
      · rw [hopn, hroll]
        dsimp only
        rw [hold]
        decide
      · rw [hopn, happ]
        exact calm_next _ hc1 (by dsimp only; omega) _
      · rw [hopn, happ]; dsimp only; omega
    · have hroll : rollX x dir q.1 = (x, q.1) := by
        unfold rollX
        rw [hV]
        exact if_neg hbig
      have hold : oldV x.V (segN dir q.1) = (logB frameR q.2, syn) := by unfold oldV; rw [hV]; rfl
      have happ : appX x dir q.1 rec = { x with wn := x.wn + 1, V := setV x.V (segN dir q.1) (some (logB frameR (q.2 ++ [rec]), syn)) } := by
        unfold appX
        rw [hroll]
        dsimp only
        rw [calm_app _ hc, hold, logB_app, logB_one]
      have hadd : addL K (L0 ++ [q]) rec = L0 ++ [(q.1, q.2 ++ [rec])] := by
        unfold addL
        rw [hlast]
        dsimp only
        rw [if_neg hbig]
        simp
      refine ⟨?_, ?_, ?_, ?_, ?_, ?_⟩
      · rw [hopn, happ, hadd]
        refine ⟨?_, h.cp.other _ _, ?_, ?_, h.big⟩
        · rw [show (L0 ++ [(q.1, q.2 ++ [rec])]).map Prod.fst = (L0 ++ [q]).map Prod.fst by simp]
          exact h.folder.set _ (by rw [hV]; rfl)
        · intro p hp
          rcases List.mem_append.1 hp with hp | hp
          · have h0 : Whole x.V dir L0 := fun p hp => h.whole p (by simp [hp])
            exact h0.other hq8 _ (fun p' hp' => by have := hlow p' hp'; omega) p hp
          · simp only [List.mem_singleton] at hp
            subst hp
            refine ⟨⟨syn, setV_same _ _ _⟩, fun r hr' => ?_, hq8⟩
            rcases List.mem_append.1 hr' with h5 | h5
            · exact hqr r h5
            · simp at h5; subst h5; exact hr
        · intro p hp
          rcases List.mem_append.1 hp with hp | hp
          · exact h.above p (by simp [hp])
          · simp only [List.mem_singleton] at hp
            subst hp
            exact h.above q (by simp)
      · rw [hopn, hroll, hadd]
        dsimp only
        unfold segsX
        rw [hmap, if_pos (isOpen_snoc _ _)]
        simp
      · rw [hopn, hroll, hadd, openN_snoc]
      · rw [hopn, hroll]
        dsimp only
        rw [hold]
        dsimp only
        omega
      · rw [hopn, happ]; exact calm_next x hc (by omega) _
      · rw [hopn, happ]; dsimp only; omega
/-- Sync keeps the log. -/
theorem log_sync {x : DSt} {dir : ByteArray} {K : Option (Nat × List (List Int))} {Ls : List (Nat × List (List Int))} (h : Log x.V dir K Ls) (hc : x.Calm) (hw : x.wn ≤ 999999980) : Log (syncX x dir (Ls.map Prod.fst) (openN K Ls)).V dir K Ls ∧ (syncX x dir (Ls.map Prod.fst) (openN K Ls)).Calm ∧ (syncX x dir (Ls.map Prod.fst) (openN K Ls)).wn ≤ x.wn + 1 ∧ (isOpen (Ls.map Prod.fst) (openN K Ls) = true → (x.sync (segN dir (openN K Ls))).1 = 0) := by
  rcases List.eq_nil_or_concat Ls with rfl | ⟨L0, q, rfl⟩
  · have : isOpen ([] : List Nat) (openN K []) = false := by simp [isOpen]
    unfold syncX
    rw [List.map_nil, this]
    simp only [Bool.false_eq_true, if_false, false_implies, and_true]
    exact ⟨h, hc, by omega⟩
  · rw [List.concat_eq_append] at *
    have hopn : openN K (L0 ++ [q]) = q.1 := openN_snoc K L0 q
    obtain ⟨⟨syn, hV⟩, hqr, hq8⟩ := h.whole q (by simp)
    have hlow := h.rise
    have hmap : (L0 ++ [q]).map Prod.fst = L0.map Prod.fst ++ [q.1] := by simp
    have hsy := calm_sync x hc (segN dir q.1) _ hV
    rw [hopn]
    unfold syncX
    rw [if_pos (by rw [hmap]; exact isOpen_snoc _ _), hsy]
    refine ⟨⟨h.folder.set _ (by rw [hV]; rfl), h.cp.other _ _, ?_, h.above, h.big⟩, calm_next x hc (by omega) _, by dsimp only; omega, fun _ => rfl⟩
    intro p hp
    obtain ⟨⟨s', h1⟩, h2, h3⟩ := h.whole p hp
    by_cases e : p.1 = q.1
    · have e2 : p = q := by
        rcases List.mem_append.1 hp with hp | hp
        · have := hlow p hp; omega
        · simpa using hp
      subst e2
      exact ⟨⟨_, setV_same _ _ _⟩, h2, h3⟩
    · exact ⟨⟨s', by show setV _ _ _ _ = _; rw [setV_other _ _ (fun e' => e (seg_inj dir h3 hq8 e'))]; exact h1⟩, h2, h3⟩
end Go.Proofs.YtgpgkpciajajcaaGreatDoor

