/- Several texts in one: Zf, Zj. -/
import Derived.Test.YtgpgkpciajajcaaGreatDoorGat
/- Package wal: roll and write, where the power goes. (Printed by mk_armed.py.) -/
namespace Go.Proofs.YtgpgkpciajajcaaGreatDoor
open Go.RowKit Go.Maps Go.Sort
set_option linter.unusedVariables false
set_option maxRecDepth 20000

/-- A log whose disk's power has gone. -/
def LostAt (w : World) (base d mb n : Nat) (y : DSt) (p : Nat) (dir cp : ByteArray) (A B : Nat → Prop) (w' : World) : Prop := ∃ n' A' B' segs' op', n' ≤ n + 1 ∧ LogAt w' base d mb n' y p dir cp segs' op' A' B' ∧ Step2 w w' A B A' B'
set_option maxHeartbeats 8000000 in
theorem w_rollP (base d mb n : Nat) (x : DSt) (p : Nat) (dir cp : ByteArray) (segs : List Nat) (op : Nat) (A B : Nat → Prop) (w : World) (hdir : dirB dir = true) (ht : Tab w) (h : LogAt w base d mb n x p dir cp segs op A B) (hon : x.off = false) (q : List Int × Nat) (hV : x.V (segN dir op) = some q) (hbig0 : 4096 ≤ q.1.length) (y : DSt) (hs : x.sync (segN dir op) = (60, y)) (hok : x.ok) (hop : op < 99999999) :
    Calls Tryz.prog 99 #[.pointer (some ⟨p, 0, none⟩)] w fun e w' => e = .panicked (thrown 60) ∧ LostAt w base d mb n y p dir cp A B w' := by
  have hds : dir.size ≤ 32 := by simp only [dirB, Bool.and_eq_true, decide_eq_true_eq] at hdir; exact hdir.2
  have HL : Hid (LogAt w base d mb n x p dir cp segs op A B) := h
  have HT : Hid (Tab w) := ht
  have hnm := seg_name hdir op
  obtain ⟨a, c, hW, _⟩ := h.wal
  obtain ⟨c0, c1, c2, c3, c4⟩ := hW.cells
  have HW : Hid (WRow w p d dir cp (.slice a segs.length c) (op : Int)) := hW
  have HGD : Hid (w.grownBy w.drew none) := gb_drew (World.grownBy.refl _ _)
  have HSG : Hid (Calls Tryz.prog 105 #[.pointer (some ⟨p, 0, none⟩), .int .i64 (op : Int)] w.drew fun e w' => e = .returned (.string (segN dir op)) ∧ w.drew.grownBy w' none) := w_segment p d dir cp _ _ op (by omega) _ (by omega) (ht.grown HGD.out) (hW.kept HGD.out (by simp))
  have HRD : Hid (∀ w1, w.grownBy w1 none → Calls Tryz.prog 133 #[.pointer (some ⟨d, 0, none⟩), .string (segN dir op)] w1 fun e w' => ∃ a c, e = .returned (.tuple #[.slice a (x.read (segN dir op)).1.length c, .int .i64 (x.read (segN dir op)).2]) ∧ SOwn byteE 5 w' w1.heap.size (.slice a (x.read (segN dir op)).1.length c) (x.read (segN dir op)).1.length (x.read (segN dir op)).1 ∧ (∀ z ∈ (x.read (segN dir op)).1, 0 ≤ z ∧ z ≤ 255) ∧ (x.read (segN dir op)).1.length ≤ 4194304 ∧ w1.grownBy w' none) := fun w1 hg => x_read base d mb n x B (segN dir op) w1 (DV.kept h.disk hg) hnm
  have HE1 : Hid (x.read (segN dir op) = (q.1, 0)) := by show _ = _; unfold DSt.read; rw [hon, hV]; rfl
  have HS1 : Hid ((x.sync (segN dir op)).1 = 60) := by show _ = _; rw [hs]
  have HS2 : Hid ((x.sync (segN dir op)).2 = y) := by show _ = _; rw [hs]
  clear h hW c1 c2 c3 hV hs
  go_enter Tryz.func99, Tryz.ntmps99
  go_upto_region 0 with fail
  go_cut [2, 3] from 4 (fun t2 t3 wc => ∃ a c, t2 = .slice a (x.read (segN dir op)).1.length c ∧ t3 = .int .i64 (x.read (segN dir op)).2 ∧ w.grownBy wc none)
  case first =>
    go_region_held3 (fun W => W.cell? ⟨p, 0, none⟩ = some (.pointer (some ⟨d, 0, none⟩)) ∧ W.cell? ⟨p, 4, none⟩ = some (.int .i64 (op : Int))) (go_keep) (first
      | (go_at_call 105; refine HSG.out.mono ?_; rintro e w1 ⟨rfl, hg1⟩; have HG1 : Hid (w.grownBy w1 none) := HGD.out.trans hg1; have c0' := (HW.out.kept HG1.out (by simp)).cells.1; have c4' := (HW.out.kept HG1.out (by simp)).cells.2.2.2.2; clear hg1)
      | (go_at_call 133; refine (HRD.out _ HG1.out).mono ?_; rintro e w2 ⟨a2, k2, rfl, _, _, _, hg2⟩; have HG2 : Hid (w.grownBy w2 none) := HG1.out.trans hg2; have c0'' := (HW.out.kept HG2.out (by simp)).cells.1; have c4'' := (HW.out.kept HG2.out (by simp)).cells.2.2.2.2; clear hg2))
    all_goals (go_wp2; go_meet)
    all_goals exact ⟨a2, k2, rfl, rfl, HG2.out⟩
  case rest =>
    obtain ⟨a2, k2, rfl, rfl, hgc⟩ := hcut
    rename World => w0
    have hLc := HL.out.grown hgc
    have HGc : Hid (w.grownBy w0 none) := hgc
    have HLc : Hid (LogAt w0 base d mb n x p dir cp segs op A B) := hLc
    have HTc : Hid (Tab w0) := HT.out.grown hgc
    have HD0 := fun w => w_done0 w
    have HDP := fun w => w_doneP 60 (by decide) w
    rw [HE1.out]
    obtain ⟨L, eL⟩ : ∃ L, L = q.1.length := ⟨_, rfl⟩
    rw [← eL]
    have hbig : 4096 ≤ L := by rw [eL]; exact hbig0
    have qb : decide ((4096 : Int) ≤ (L : Int)) = true := by simp; omega
    clear hbig0
    have HSY : Hid (∀ w1, w0.grownBy w1 none → Calls Tryz.prog 104 #[.pointer (some ⟨d, 0, none⟩), .string (segN dir op)] w1 fun e w' => e = .returned (.int .i64 60) ∧ ∃ n' B', n' ≤ n ∧ LogAt w' base d mb n' (x.sync (segN dir op)).2 p dir cp segs op A B' ∧ Step2 w0 w' A B A B') := fun w1 hg => by
      have h1 := HLc.out.grown hg
      refine (x_syncN base d mb n x B (segN dir op) w1 h1.disk hok hnm).mono ?_
      rintro e w' ⟨rfl, n', B', hn', hd', hst⟩
      obtain ⟨B'', h2, h3⟩ := h1.write hd' hst
      exact ⟨by rw [HS1.out], n', B'', hn', h2, (Step2.grown A B hg).trans h3⟩
    have HCELL : Hid (∀ w2, (∃ n' B', n' ≤ n ∧ LogAt w2 base d mb n' (x.sync (segN dir op)).2 p dir cp segs op A B' ∧ Step2 w0 w2 A B A B') → w2.cell? ⟨p, 0, none⟩ = some (.pointer (some ⟨d, 0, none⟩)) ∧ w2.cell? ⟨p, 4, none⟩ = some (.int .i64 (op : Int))) := by
      rintro w2 ⟨n', B', _, h2, h3⟩
      obtain ⟨a2, c2, hW2, _⟩ := h2.wal
      exact ⟨hW2.cells.1, hW2.cells.2.2.2.2⟩
    obtain ⟨a3, c3, hW3, _⟩ := HLc.out.wal
    have HGD2 : Hid (w0.grownBy w0.drew none) := gb_drew (World.grownBy.refl _ _)
    have HSG2 : Hid (Calls Tryz.prog 105 #[.pointer (some ⟨p, 0, none⟩), .int .i64 (op : Int)] w0.drew fun e w' => e = .returned (.string (segN dir op)) ∧ w0.drew.grownBy w' none) := w_segment p d dir cp _ _ op (by omega) _ (by omega) (HTc.out.grown HGD2.out) (hW3.kept HGD2.out (by simp))
    have HW3 : Hid (WRow w0 p d dir cp (.slice a3 segs.length c3) (op : Int)) := hW3
    have y0 := hW3.cells.1
    have y4 := hW3.cells.2.2.2.2
    clear hgc hLc HSG HRD eL hW3
    go_wp2_with fail
    refine (HD0 _).mono ?_
    rintro e w1 ⟨rfl, rfl⟩
    go_wp2_with fail
    refine wp_region_held_drew (S := fun W => W.cell? ⟨p, 0, none⟩ = some (.pointer (some ⟨d, 0, none⟩)) ∧ W.cell? ⟨p, 4, none⟩ = some (.int .i64 (op : Int))) (by kernel_rfl) (by go_keep) (fun hHeld => ?_)
    refine wpAnyH_take (i := 0) (v := .pointer (some ⟨p, 0, none⟩)) rfl (by kernel_rfl) (by kernel_rfl) (by kernel_rfl) (fun _ _ _ h => h) (Or.inl ⟨by rfl, fun w hSw => ?_⟩) (by assumption) ?_
    · go_simp
    refine wpAnyH_take (i := 1) (v := .pointer (some ⟨p, 0, none⟩)) rfl (by kernel_rfl) (by kernel_rfl) (by kernel_rfl) (fun _ _ _ h => h) (Or.inl ⟨by rfl, fun w hSw => ?_⟩) (by assumption) ?_
    · go_simp
    refine wpAnyH_take (i := 2) (v := .pointer (some ⟨p, 0, none⟩)) rfl (by kernel_rfl) (by kernel_rfl) (by kernel_rfl) (fun _ _ _ h => h) (Or.inl ⟨by rfl, fun w hSw => ?_⟩) (by assumption) ?_
    · go_simp
    refine wpAnyH_take (i := 3) (v := .pointer (some ⟨d, 0, none⟩)) rfl (by kernel_rfl) (by kernel_rfl) (by kernel_rfl) (fun _ _ _ h => h) (Or.inl ⟨by rfl, fun w hSw => ?_⟩) (by assumption) ?_
    · go_simp
    refine wpAnyH_take (i := 4) (v := .pointer (some ⟨p, 0, none⟩)) rfl (by kernel_rfl) (by kernel_rfl) (by kernel_rfl) (fun _ _ _ h => h) (Or.inl ⟨by rfl, fun w hSw => ?_⟩) (by assumption) ?_
    · go_simp
    refine wpAnyH_take (i := 5) (v := .pointer (some ⟨p, 0, none⟩)) rfl (by kernel_rfl) (by kernel_rfl) (by kernel_rfl) (fun _ _ _ h => h) (Or.inl ⟨by rfl, fun w hSw => ?_⟩) (by assumption) ?_
    · go_simp
    refine wpAnyH_take (i := 6) (v := .pointer (some ⟨p, 0, none⟩)) rfl (by kernel_rfl) (by kernel_rfl) (by kernel_rfl) (fun _ _ _ h => h) (Or.inl ⟨by rfl, fun w hSw => ?_⟩) (by assumption) ?_
    · go_simp
    refine wpAnyH_take (i := 7) (v := .pointer (some ⟨p, 4, none⟩)) rfl (by kernel_rfl) (by kernel_rfl) (by kernel_rfl) (fun _ _ _ h => h) (Or.inl ⟨by rfl, fun w hSw => ?_⟩) (by assumption) ?_
    · go_simp
    refine wpAnyH_take (i := 8) (v := .int .i64 (op : Int)) rfl (by kernel_rfl) (by kernel_rfl) (by kernel_rfl) (fun _ _ _ h => h) (Or.inl ⟨by rfl, fun w hSw => ?_⟩) (by assumption) ?_
    · go_simp
    refine wpAnyH_ready (rs := [9]) (by kernel_rfl) (by simp) (AllReadyH.cons (i := 9) rfl (fun K hK => ?_) AllReadyH.nil)
    go_simp
    refine HSG2.out.mono ?_
    rintro e w1 ⟨rfl, hg1⟩
    have HG1 : Hid (w0.grownBy w1 none) := HGD2.out.trans hg1
    have c0' := (HW3.out.kept HG1.out (by simp)).cells.1
    have c4' := (HW3.out.kept HG1.out (by simp)).cells.2.2.2.2
    clear hg1
    refine hK.out _ _ (by go_keep) (fun hHeld => ?_)
    clear hK K
    refine wpAnyH_ready (rs := [10]) (by kernel_rfl) (by simp) (AllReadyH.cons (i := 10) rfl (fun K hK => ?_) AllReadyH.nil)
    go_simp
    refine (HSY.out _ HG1.out).mono ?_
    rintro e w2 ⟨rfl, hx2⟩
    have HX2 : Hid (∃ n' B', n' ≤ n ∧ LogAt w2 base d mb n' (x.sync (segN dir op)).2 p dir cp segs op A B' ∧ Step2 w0 w2 A B A B') := hx2
    obtain ⟨c0'', c4''⟩ := HCELL.out w2 hx2
    clear hx2
    refine hK.out _ _ (by go_keep) (fun hHeld => ?_)
    clear hK K
    refine wpAnyH_ready (rs := [11]) (by kernel_rfl) (by simp) (AllReadyH.cons (i := 11) rfl (fun K hK => ?_) AllReadyH.nil)
    go_simp
    refine (HDP _).mono ?_
    rintro e w3 ⟨rfl, rfl⟩
    obtain ⟨n', B', h1, h2, h3⟩ := HX2.out
    rw [HS2.out] at h2
    exact ⟨rfl, rfl, n', A, B', segs, op, by omega, h2, (Step2.grown A B HGc.out).trans h3⟩
set_option maxHeartbeats 8000000 in
theorem w_writeP (base d mb n : Nat) (x : DSt) (p : Nat) (dir cp : ByteArray) (segs : List Nat) (op : Nat) (A B : Nat → Prop) (ad : Addr) (zs : List Int) (M cd : Nat) (w : World) (hdir : dirB dir = true) (ht : Tab w) (h : LogAt w base d mb n x p dir cp segs op A B) (hon : x.off = false) (hap1 : (x.append (segN dir op) zs).1 = 60) (hok : x.ok) (hop : op < 99999999) (hn : n < 1048576) (hsg : segs.length ≤ 4194304) (hr : SRd byteE w (some ad) zs) (hM : zs.length = M) (hby : ∀ z ∈ zs, 0 ≤ z ∧ z ≤ 255) (hlen : (oldV x.V (segN dir op)).1.length + M ≤ 4194304) (hb : base ≤ w.heap.size) (had : ¬ B ad.block) (hadl : ad.block < w.heap.size) :
    Calls Tryz.prog 100 #[.pointer (some ⟨p, 0, none⟩), .slice (some ad) M cd] w fun e w' => e = .panicked (thrown 60) ∧ LostAt w base d mb n (x.append (segN dir op) zs).2 p dir cp A B w' := by
  have hds : dir.size ≤ 32 := by simp only [dirB, Bool.and_eq_true, decide_eq_true_eq] at hdir; exact hdir.2
  have HL : Hid (LogAt w base d mb n x p dir cp segs op A B) := h
  have hnm := seg_name hdir op
  obtain ⟨a, c, hW, _⟩ := h.wal
  obtain ⟨c0, c1, c2, c3, c4⟩ := hW.cells
  have HW : Hid (WRow w p d dir cp (.slice a segs.length c) (op : Int)) := hW
  have HGD : Hid (w.grownBy w.drew none) := gb_drew (World.grownBy.refl _ _)
  have HSG : Hid (Calls Tryz.prog 105 #[.pointer (some ⟨p, 0, none⟩), .int .i64 (op : Int)] w.drew fun e w' => e = .returned (.string (segN dir op)) ∧ w.drew.grownBy w' none) := w_segment p d dir cp _ _ op (by omega) _ (by omega) (ht.grown HGD.out) (hW.kept HGD.out (by simp))
  have HA1 : Hid ((x.append (segN dir op) zs).1 = 60) := hap1
  clear hap1
  have hBd : B d := by obtain ⟨F, G, _, _, hb⟩ := h.disk; exact hb d (.inl rfl)
  have hBm : B mb := by obtain ⟨F, G, _, _, hb⟩ := h.disk; exact hb mb (.inr (.inl rfl))
  have HAP : Hid (∀ w1, w.grownBy w1 none → Calls Tryz.prog 134 #[.pointer (some ⟨d, 0, none⟩), .string (segN dir op), .slice (some ad) M cd] w1 fun e w' => e = .returned (.int .i64 60) ∧ ∃ n' B', n' ≤ n + 1 ∧ LogAt w' base d mb n' (x.append (segN dir op) zs).2 p dir cp segs op A B' ∧ Step2 w w' A B A B') := fun w1 hg => by
    have h1 := HL.out.grown hg
    refine (x_append base d mb n x B (segN dir op) ad zs M cd w1 h1.disk hok hnm hn (hr.grown hg (by simp)) hM hby hlen (Nat.le_trans hb hg.size) (fun e => had (e ▸ hBm)) (fun e => had (e ▸ hBd))).mono ?_
    rintro e w' ⟨rfl, n', B', hn', hd', hst⟩
    obtain ⟨B'', h2, h3⟩ := h1.write hd' hst
    exact ⟨by rw [HA1.out], n', B'', hn', h2, (Step2.grown A B hg).trans h3⟩
  have HCELL : Hid (∀ w2, (∃ n' B', n' ≤ n + 1 ∧ LogAt w2 base d mb n' (x.append (segN dir op) zs).2 p dir cp segs op A B' ∧ Step2 w w2 A B A B') → w2.cell? ⟨p, 0, none⟩ = some (.pointer (some ⟨d, 0, none⟩)) ∧ w2.cell? ⟨p, 4, none⟩ = some (.int .i64 (op : Int))) := by
    rintro w2 ⟨n', B', _, h2, h3⟩
    obtain ⟨a2, c2, hW2, _⟩ := h2.wal
    exact ⟨hW2.cells.1, hW2.cells.2.2.2.2⟩
  clear h hW c1 c2 c3 hr hby hlen had hadl hBd hBm hM
  go_enter Tryz.func100, Tryz.ntmps100
  go_upto_region 0 with fail
  go_cut [4] from 5 (fun t4 wc => t4 = .int .i64 60 ∧ ∃ n' B', n' ≤ n + 1 ∧ LogAt wc base d mb n' (x.append (segN dir op) zs).2 p dir cp segs op A B' ∧ Step2 w wc A B A B')
  case first =>
    go_region_held3 (fun W => W.cell? ⟨p, 0, none⟩ = some (.pointer (some ⟨d, 0, none⟩)) ∧ W.cell? ⟨p, 4, none⟩ = some (.int .i64 (op : Int))) (go_keep) (first
      | (go_at_call 105; refine HSG.out.mono ?_; rintro e w1 ⟨rfl, hg1⟩; have HG1 : Hid (w.grownBy w1 none) := HGD.out.trans hg1; have c0' := (HW.out.kept HG1.out (by simp)).cells.1; have c4' := (HW.out.kept HG1.out (by simp)).cells.2.2.2.2; clear hg1)
      | (go_at_call 134; refine (HAP.out _ HG1.out).mono ?_; rintro e w2 ⟨rfl, hx2⟩; have HX2 : Hid (∃ n' B', n' ≤ n + 1 ∧ LogAt w2 base d mb n' (x.append (segN dir op) zs).2 p dir cp segs op A B' ∧ Step2 w w2 A B A B') := hx2; obtain ⟨c0'', c4''⟩ := HCELL.out w2 hx2; clear hx2))
    all_goals (go_wp2; go_meet)
    all_goals exact ⟨rfl, HX2.out⟩
  case rest =>
    obtain ⟨rfl, n', B', hn', hL', hS'⟩ := hcut
    have HL' : Hid (LogAt wc base d mb n' (x.append (segN dir op) zs).2 p dir cp segs op A B') := hL'
    have HS' : Hid (Step2 w wc A B A B') := hS'
    obtain ⟨a4, k4, hW4, hso4, hA4, hB4⟩ := hL'.wal
    have HD0 := fun w => w_doneP 60 (by decide) w
    have HHF : Hid (Calls Tryz.prog 101 #[.pointer (some ⟨p, 0, none⟩)] wc fun e w' => e = .returned (.bool (isOpen segs op)) ∧ ∃ k, w' = wc.drewN k) := w_hasFile p d dir cp a4 k4 segs op wc hW4 hso4.rd (by omega)
    have HW4 : Hid (WRow wc p d dir cp (.slice a4 segs.length k4) (op : Int)) := hW4
    have HSO4 : Hid (IOwn wc 0 (.slice a4 segs.length k4) segs.length (nI segs)) := hso4
    have HA4 : Hid (A p ∧ ∀ y, a4 = some y → A y.block ∧ y.block ≠ p) := ⟨hA4, hB4⟩
    clear hL' hS' hW4 hso4 hA4 hB4 HSG HAP
    go_wp2_with fail
    refine HHF.out.mono ?_
    rintro e w5 ⟨rfl, kq, rfl⟩
    obtain ⟨wk, ewk⟩ : ∃ wk, wk = wc.drewN kq := ⟨_, rfl⟩
    have hgk : wc.grownBy wk none := by rw [ewk]; exact gb_drewN wc kq
    have HLk : Hid (LogAt wk base d mb n' (x.append (segN dir op) zs).2 p dir cp segs op A B') := HL'.out.grown hgk
    have HSk : Hid (Step2 w wk A B A B') := HS'.out.trans (Step2.grown A B' hgk)
    have HWk : Hid (WRow wk p d dir cp (.slice a4 segs.length k4) (op : Int)) := HW4.out.kept hgk (by simp)
    have HSOk : Hid (IOwn wk 0 (.slice a4 segs.length k4) segs.length (nI segs)) := IOwn.kept HSO4.out hgk (by cases a4 <;> simp [Value.ownBlock])
    rw [← ewk]
    clear ewk hgk HHF HL' HS' HW4 HSO4
    cases ho : isOpen segs op with
    | true =>
      have HX : Hid (segsX segs op = segs) := by show _ = _; unfold segsX; rw [if_pos ho]
      go_wp2_with fail
      refine (HD0 _).mono ?_
      rintro e w1 ⟨rfl, rfl⟩
      unfold thrown
      go_wp2
      exact ⟨rfl, rfl, n', A, B', segs, op, hn', HLk.out, HSk.out⟩
    | false =>
      have HX : Hid (segsX segs op = segs ++ [op]) := by show _ = _; unfold segsX; rw [if_neg (by rw [ho]; simp)]
      have hWd : WRow (wk.alloc (.cells #[.int .i64 (op : Int)] 3)).drew p d dir cp (.slice a4 segs.length k4) (op : Int) := (HWk.out.alloc _).drew
      have x3 := HWk.out.cells.2.2.2.1
      have x4 := HWk.out.cells.2.2.2.2
      have y3 : (wk.alloc (.cells #[.int .i64 (op : Int)] 3)).cell? ⟨p, 3, none⟩ = some (.slice a4 segs.length k4) := hWd.cells.2.2.2.1
      have y4 : (wk.alloc (.cells #[.int .i64 (op : Int)] 3)).cell? ⟨p, 4, none⟩ = some (.int .i64 (op : Int)) := hWd.cells.2.2.2.2
      have HWd : Hid (WRow (wk.alloc (.cells #[.int .i64 (op : Int)] 3)).drew p d dir cp (.slice a4 segs.length k4) (op : Int)) := hWd
      have HOW : Hid (IOwn (wk.alloc (.cells #[.int .i64 (op : Int)] 3)).drew 0 (.slice a4 segs.length k4) segs.length (nI segs)) := IOwn.kept HSOk.out (gb_drew (World.grownBy_alloc wk _ none)) (by cases a4 <;> simp [Value.ownBlock])
      have HPN : Hid (∀ k, Value.ownBlock (.slice a4 segs.length k4) = some k → k ≠ p) := fun k hk => by
        cases a4 with
        | none => cases hk
        | some y => have e : y.block = k := Option.some.inj hk; subst e; exact (HA4.out.2 y rfl).2
      have HIL : Hid (SRd intE (wk.alloc (.cells #[.int .i64 (op : Int)] 3)).drew (some ⟨wk.heap.size, 0, none⟩) [(op : Int)]) := ilit wk.drew [(op : Int)]
      clear hWd ho
      obtain ⟨L, eL⟩ : ∃ L, L = segs.length := ⟨_, rfl⟩
      have EL : Hid (L = segs.length) := eL
      rw [← eL] at x3 y3 hsg
      have HOW2 : Hid (IOwn (wk.alloc (.cells #[.int .i64 (op : Int)] 3)).drew 0 (.slice a4 L k4) L (nI segs)) := by show IOwn _ _ _ _ _; rw [eL]; exact HOW.out
      have HSTEP : Hid (∀ g3 o3 c3 w3, IOwn w3 0 (.slice (some ⟨g3, o3, none⟩) (L + 1) c3) (L + 1) (nI segs ++ [(op : Int)]) → (wk.alloc (.cells #[.int .i64 (op : Int)] 3)).drew.grownBy w3 (Value.ownBlock (.slice a4 L k4)) → (Value.ownBlock (.slice a4 L k4) = some g3 ∨ (wk.alloc (.cells #[.int .i64 (op : Int)] 3)).drew.heap.size ≤ g3) → w3.cell? ⟨p, 3, none⟩ = some (.slice a4 L k4) ∧ w3.frozen? ⟨p, 3, none⟩ = false ∧ ∃ A', LogAt (w3.setCell ⟨p, 3, none⟩ (.slice (some ⟨g3, o3, none⟩) (L + 1) c3)) base d mb n' (x.append (segN dir op) zs).2 p dir cp (segs ++ [op]) op A' B' ∧ Step2 wk (w3.setCell ⟨p, 3, none⟩ (.slice (some ⟨g3, o3, none⟩) (L + 1) c3)) A B' A' B') := by
        show ∀ g3 o3 c3 w3, _
        rw [eL]
        intro g3 o3 c3 w3 ho3 hg3 hgg
        have hW3 := HWd.out.kept hg3 (fun e => HPN.out p e.symm rfl)
        exact ⟨hW3.cells.2.2.2.1, hW3.frozen 3, LogAt.addSeg HLk.out HWk.out HSOk.out HA4.out.2 HA4.out.1 ho3 hg3 hgg⟩
      clear eL
      go_wp2_with fail
      go_region_law (refine step_append_I rfl (.tmp 28) (.tmp 33) rfl a4 L k4 (nI segs) (by simp [Act.eval]) HOW2.out ⟨wk.heap.size, 0, none⟩ (op : Int) (by simp [Act.eval]) HIL.out (by omega) ?_; intro g3 o3 c3 w3 ho3 hg3 hgg; obtain ⟨s3, z3, hx3⟩ := HSTEP.out g3 o3 c3 w3 ho3 hg3 hgg; have HX3 : Hid (∃ A', LogAt (w3.setCell ⟨p, 3, none⟩ (.slice (some ⟨g3, o3, none⟩) (L + 1) c3)) base d mb n' (x.append (segN dir op) zs).2 p dir cp (segs ++ [op]) op A' B' ∧ Step2 wk (w3.setCell ⟨p, 3, none⟩ (.slice (some ⟨g3, o3, none⟩) (L + 1) c3)) A B' A' B') := hx3; clear ho3 hg3 hgg hx3)
      all_goals go_wp2_with fail
      all_goals refine (HD0 _).mono ?_
      all_goals rintro e w1 ⟨rfl, rfl⟩
      all_goals unfold thrown
      all_goals go_wp2
      all_goals (obtain ⟨A', h1, h2⟩ := HX3.out; exact ⟨rfl, rfl, n', A', B', _, op, hn', h1, HSk.out.trans h2⟩)
end Go.Proofs.YtgpgkpciajajcaaGreatDoor

/- Package wal: Append and Sync, where the power goes. (Printed by mk_armed.py.) -/
namespace Go.Proofs.YtgpgkpciajajcaaGreatDoor
open Go.RowKit Go.Maps Go.Sort
set_option linter.unusedVariables false
set_option maxRecDepth 20000

set_option maxHeartbeats 8000000 in
theorem w_append1PR (base d mb n : Nat) (x : DSt) (p q r : Nat) (dir cp : ByteArray) (segs : List Nat) (op : Nat) (A B : Nat → Prop) (ad : Addr) (zs : List Int) (M cd : Nat) (w : World) (hdir : dirB dir = true) (ht : Tab w) (hf : Far A B) (h : LogAt w base d mb n x p dir cp segs op A B) (hon : x.off = false) (q2 : List Int × Nat) (hV : x.V (segN dir op) = some q2) (hbig0 : 4096 ≤ q2.1.length) (y : DSt) (hs : x.sync (segN dir op) = (60, y)) (hok : x.ok) (hw : x.wn ≤ 999999990) (hop : op < 99999998) (hn : n < 1048576) (hsg : segs.length ≤ 4194304) (hq : w.cell? ⟨q, 0, none⟩ = some (.pointer (some ⟨p, 0, none⟩))) (hqA : ¬ A q ∧ ¬ B q) (hrc : w.cell? ⟨r, 0, none⟩ = some (.slice (some ad) M cd)) (hrA : ¬ A r ∧ ¬ B r) (hr : SRd byteE w (some ad) (frameR zs)) (hM : (frameR zs).length = M) (hM0 : M ≠ 0) (hby : ∀ z ∈ frameR zs, 0 ≤ z ∧ z ≤ 255) (hb : base ≤ w.heap.size) (had : ¬ A ad.block ∧ ¬ B ad.block) (hadl : ad.block < w.heap.size) :
    Calls Tryz.prog 98 #[.pointer (some ⟨q, 0, none⟩), .pointer (some ⟨r, 0, none⟩)] w fun e w' => e = .panicked (thrown 60) ∧ LostAt w base d mb n y p dir cp A B w' := by
  have HRL : Hid (Calls Tryz.prog 99 #[.pointer (some ⟨p, 0, none⟩)] w fun e w' => e = .panicked (thrown 60) ∧ LostAt w base d mb n y p dir cp A B w') := w_rollP base d mb n x p dir cp segs op A B w hdir ht h hon q2 hV hbig0 y hs hok (by omega)
  clear h hV hs
  go_enter Tryz.func98, Tryz.ntmps98
  go_wp2_with fail
  refine HRL.out.mono ?_
  rintro e w1 ⟨rfl, hl⟩
  have HLO : Hid (LostAt w base d mb n y p dir cp A B w1) := hl
  clear hl HRL
  unfold thrown
  go_wp2
  exact ⟨rfl, rfl, HLO.out⟩
set_option maxHeartbeats 8000000 in
theorem w_append1PW (base d mb n : Nat) (x : DSt) (p q r : Nat) (dir cp : ByteArray) (segs : List Nat) (op : Nat) (A B : Nat → Prop) (ad : Addr) (zs : List Int) (M cd : Nat) (w : World) (hdir : dirB dir = true) (ht : Tab w) (hf : Far A B) (h : LogAt w base d mb n x p dir cp segs op A B) (hon : x.off = false) (hsy : ∀ q, x.V (segN dir op) = some q → 4096 ≤ q.1.length → (x.sync (segN dir op)).1 = 0) (hro : (rollX x dir op).1.off = false) (hok2 : (rollX x dir op).1.ok) (y : DSt) (hap1 : (rollX x dir op).1.append (segN dir (rollX x dir op).2) (frameR zs) = (60, y)) (hok : x.ok) (hw : x.wn ≤ 999999990) (hop : op < 99999998) (hn : n < 1048576) (hsg : segs.length ≤ 4194304) (hq : w.cell? ⟨q, 0, none⟩ = some (.pointer (some ⟨p, 0, none⟩))) (hqA : ¬ A q ∧ ¬ B q) (hrc : w.cell? ⟨r, 0, none⟩ = some (.slice (some ad) M cd)) (hrA : ¬ A r ∧ ¬ B r) (hr : SRd byteE w (some ad) (frameR zs)) (hM : (frameR zs).length = M) (hM0 : M ≠ 0) (hby : ∀ z ∈ frameR zs, 0 ≤ z ∧ z ≤ 255) (hlen : (oldV (rollX x dir op).1.V (segN dir (rollX x dir op).2)).1.length + M ≤ 4194304) (hb : base ≤ w.heap.size) (had : ¬ A ad.block ∧ ¬ B ad.block) (hadl : ad.block < w.heap.size) :
    Calls Tryz.prog 98 #[.pointer (some ⟨q, 0, none⟩), .pointer (some ⟨r, 0, none⟩)] w fun e w' => e = .panicked (thrown 60) ∧ LostAt w base d mb n y p dir cp A B w' := by
  have HRL : Hid (Calls Tryz.prog 99 #[.pointer (some ⟨p, 0, none⟩)] w fun e w' => e = .returned (.tuple #[]) ∧ ∃ n' B', n' ≤ n ∧ LogAt w' base d mb n' (rollX x dir op).1 p dir cp segs (rollX x dir op).2 A B' ∧ Step2 w w' A B A B') := w_rollA base d mb n x p dir cp segs op A B w hdir ht h hon hsy hok (by omega)
  have hrx := rollX_le x dir op
  have HAP1 : Hid (((rollX x dir op).1.append (segN dir (rollX x dir op).2) (frameR zs)).1 = 60) := by show _ = _; rw [hap1]
  have HAP2 : Hid (((rollX x dir op).1.append (segN dir (rollX x dir op).2) (frameR zs)).2 = y) := by show _ = _; rw [hap1]
  clear hsy hap1
  have hql : q < w.heap.size := cell_lt hq
  have hrl : r < w.heap.size := cell_lt hrc
  clear h
  go_enter Tryz.func98, Tryz.ntmps98
  go_wp2_with fail
  refine HRL.out.mono ?_
  rintro e w1 ⟨rfl, n1, B1, hn1, hL1, hS1⟩
  have ht1 := ht.step hS1 hf
  have q1 : w1.cell? ⟨q, 0, none⟩ = some (.pointer (some ⟨p, 0, none⟩)) := cell_kept hS1.kept hql (fun h => h.elim hqA.1 hqA.2) hq
  have r1 : w1.cell? ⟨r, 0, none⟩ = some (.slice (some ad) M cd) := cell_kept hS1.kept hrl (fun h => h.elim hrA.1 hrA.2) hrc
  have HWR : Hid (Calls Tryz.prog 100 #[.pointer (some ⟨p, 0, none⟩), .slice (some ad) M cd] w1 fun e w' => e = .panicked (thrown 60) ∧ LostAt w1 base d mb n1 ((rollX x dir op).1.append (segN dir (rollX x dir op).2) (frameR zs)).2 p dir cp A B1 w') := w_writeP base d mb n1 (rollX x dir op).1 p dir cp segs (rollX x dir op).2 A B1 ad (frameR zs) M cd w1 hdir ht1.1 hL1 hro HAP1.out hok2 (by omega) (by omega) hsg (srd_kept hr hS1.kept hadl (fun h => h.elim had.1 had.2)) hM hby hlen (Nat.le_trans hb hS1.kept.size) (fun h => had.2 (hS1.oldB _ hadl h)) (Nat.lt_of_lt_of_le hadl hS1.kept.size)
  have HS1 : Hid (Step2 w w1 A B A B1) := hS1
  clear hS1 hL1 ht1 HRL hq hrc
  go_wp2_with fail
  refine HWR.out.mono ?_
  rintro e w2 ⟨rfl, n2, A2, B2, sg2, op2, hn2, hL2, hS2⟩
  rw [HAP2.out] at hL2
  have HR2 : Hid (LostAt w base d mb n y p dir cp A B w2) := ⟨n2, A2, B2, sg2, op2, by omega, hL2, HS1.out.trans hS2⟩
  clear hn2 hL2 hS2 HWR
  unfold thrown
  go_wp2
  exact ⟨rfl, rfl, HR2.out⟩
set_option maxHeartbeats 8000000 in
theorem w_appendP (base d mb n : Nat) (x : DSt) (p : Nat) (dir cp : ByteArray) (segs : List Nat) (op : Nat) (A B : Nat → Prop) (a : Option Addr) (zs : List Int) (L cap : Nat) (w : World) (hdir : dirB dir = true) (ht : Tab w) (hf : Far A B) (h : LogAt w base d mb n x p dir cp segs op A B) (y : DSt) (hcl : ∀ (q r : Nat) (ad : Addr) (M cd : Nat) (W : World), Tab W → LogAt W base d mb n x p dir cp segs op A B → W.cell? ⟨q, 0, none⟩ = some (.pointer (some ⟨p, 0, none⟩)) → (¬ A q ∧ ¬ B q) → W.cell? ⟨r, 0, none⟩ = some (.slice (some ad) M cd) → (¬ A r ∧ ¬ B r) → SRd byteE W (some ad) (frameR zs) → (frameR zs).length = M → M ≠ 0 → (∀ z ∈ frameR zs, 0 ≤ z ∧ z ≤ 255) → base ≤ W.heap.size → (¬ A ad.block ∧ ¬ B ad.block) → ad.block < W.heap.size → Calls Tryz.prog 98 #[.pointer (some ⟨q, 0, none⟩), .pointer (some ⟨r, 0, none⟩)] W fun e w' => e = .panicked (thrown 60) ∧ LostAt W base d mb n y p dir cp A B w') (hr : Rd w a zs) (hL : zs.length = L) (hnil : a = none → cap = 0) (hz : L ≤ 65536) (hb : base ≤ w.heap.size) :
    Calls Tryz.prog 73 #[.pointer (some ⟨p, 0, none⟩), .slice a L cap] w fun e w' => e = .returned (.int .i64 60) ∧ LostAt w base d mb n y p dir cp A B w' := by
  have hfl : flist zs = frameR zs := by unfold flist; rw [if_neg (by omega)]
  have hfc : fcode zs = 0 := by unfold fcode; rw [if_neg (by omega)]
  have hgq : w.grownBy (w.alloc (.cells #[.pointer (some ⟨p, 0, none⟩)] 65)) none := World.grownBy_alloc w _ none
  have HFR : Hid (Calls Tryz.prog 96 #[.slice a L cap] (w.alloc (.cells #[.pointer (some ⟨p, 0, none⟩)] 65)) fun e w' => ∃ v N c, e = .returned (.tuple #[.slice v N c, .int .i64 0]) ∧ Out (w.alloc (.cells #[.pointer (some ⟨p, 0, none⟩)] 65)) w' v N c (frameR zs) ∧ (w.alloc (.cells #[.pointer (some ⟨p, 0, none⟩)] 65)).grownBy w' none) := f_frame a zs L cap (frameR zs) 0 _ (hr.grown hgq (by simp)) hL hnil (by omega) hfl hfc
  have HL : Hid (LogAt w base d mb n x p dir cp segs op A B) := h
  have HCL : Hid (∀ (q r : Nat) (ad : Addr) (M cd : Nat) (W : World), Tab W → LogAt W base d mb n x p dir cp segs op A B → W.cell? ⟨q, 0, none⟩ = some (.pointer (some ⟨p, 0, none⟩)) → (¬ A q ∧ ¬ B q) → W.cell? ⟨r, 0, none⟩ = some (.slice (some ad) M cd) → (¬ A r ∧ ¬ B r) → SRd byteE W (some ad) (frameR zs) → (frameR zs).length = M → M ≠ 0 → (∀ z ∈ frameR zs, 0 ≤ z ∧ z ≤ 255) → base ≤ W.heap.size → (¬ A ad.block ∧ ¬ B ad.block) → ad.block < W.heap.size → Calls Tryz.prog 98 #[.pointer (some ⟨q, 0, none⟩), .pointer (some ⟨r, 0, none⟩)] W fun e w' => e = .panicked (thrown 60) ∧ LostAt W base d mb n y p dir cp A B w') := hcl
  clear hcl
  have HT : Hid (Tab w) := ht
  have HGQ : Hid (w.grownBy (w.alloc (.cells #[.pointer (some ⟨p, 0, none⟩)] 65)) none) := hgq
  have hmf : ∀ (fn : Fn) (first cap : Array Value) (w : World), (Instr.makeFunc fn first cap).run Tryz.prog w = .ok (.func fn first cap) w := fun _ _ _ _ => rfl
  have hs1 : ∀ (w : World) o, (w.alloc o).heap.size = w.heap.size + 1 := fun w o => Array.size_push _
  clear h ht hgq hr hfl hfc
  go_enter Tryz.func73, Tryz.ntmps73
  go_wp2_with fail
  refine HFR.out.mono ?_
  rintro e w1 ⟨fv, FN, fc, rfl, hout, hg1⟩
  obtain ⟨ad, rfl⟩ : ∃ ad, fv = some ad := by
    cases fv with
    | some ad => exact ⟨ad, rfl⟩
    | none =>
      exfalso
      have h1 := hout.1
      have h2 := framing.pos zs
      have h3 := hout.2.2.1 rfl
      have h4 := hout.2.2.2.1
      omega
  go_wp2_with fail
  obtain ⟨W3, eW3⟩ : ∃ W3, W3 = w1.alloc (.cells #[.slice (some ad) FN fc] 37) := ⟨_, rfl⟩
  obtain ⟨W4, eW4⟩ : ∃ W4, W4 = W3.alloc (.cells #[.int .i64 0] 31) := ⟨_, rfl⟩
  have hz0 : (w.alloc (.cells #[.pointer (some ⟨p, 0, none⟩)] 65)).heap.size = w.heap.size + 1 := hs1 _ _
  have hz1 := hg1.size
  rw [hz0] at hz1
  have hz3 : W3.heap.size = w1.heap.size + 1 := by rw [eW3, hs1]
  have hz4 : W4.heap.size = w1.heap.size + 2 := by rw [eW4, hs1, hz3]
  have hg13 : w1.grownBy W4 none := by rw [eW4, eW3]; exact (World.grownBy_alloc w1 _ none).trans (World.grownBy_alloc _ _ none)
  have hgw4 : w.grownBy W4 none := (HGQ.out.trans hg1).trans hg13
  have hq4 : W4.rowIs w.heap.size 65 1 (fun _ => .pointer (some ⟨p, 0, none⟩)) := (row1 w (.pointer (some ⟨p, 0, none⟩)) 65).of_block ((hg1.trans hg13).block _ (by rw [hz0]; omega) (by simp))
  have hr4 : W4.rowIs w1.heap.size 37 1 (fun _ => .slice (some ad) FN fc) := by
    rw [eW4, eW3]
    exact (row1 w1 (.slice (some ad) FN fc) 37).alloc _
  have hs4 : W4.rowIs (w1.heap.size + 1) 31 1 (fun _ => .int .i64 0) := by
    have := row1 W3 (.int .i64 0) 31
    rw [hz3] at this
    rw [eW4]
    exact this
  have hL4 := HL.out.grown hgw4
  have hold : ∀ k, w.heap.size ≤ k → ¬ A k ∧ ¬ B k := fun k hk => ⟨fun ha => by have := HL.out.ltA k ha; omega, fun hb => by have := HL.out.ltB k hb; omega⟩
  have had : w.heap.size ≤ ad.block := by have := hout.2.2.2.2 ad rfl; rw [hz0] at this; omega
  have hfne : frameR zs ≠ [] := by have h2 := framing.pos zs; intro e; rw [e] at h2; simp at h2
  have hadl : ad.block < w1.heap.size := rd_lt hout.2.1 hfne
  have hpos := framing.pos zs
  have HC := w_caughtP47 #[.pointer (some ⟨w.heap.size, 0, none⟩), .pointer (some ⟨w1.heap.size, 0, none⟩)] 60 (fun w2 => LostAt W4 base d mb n y p dir cp A B w2) W3 (by
    rw [← eW4, hz3]
    refine (HCL.out w.heap.size w1.heap.size ad FN fc W4 (HT.out.grown hgw4) hL4 (hq4.cell (i := 0) (by omega)) (hold _ (Nat.le_refl _)) (hr4.cell (i := 0) (by omega)) (hold _ (by omega)) (rd_srd (hout.2.1.grown hg13 (by simp))) hout.1 (by have := hout.1; omega) hout.2.1.2 (Nat.le_trans hb hgw4.size) (hold _ had) (Nat.lt_of_lt_of_le hadl hg13.size)).mono ?_
    rintro e w2 ⟨rfl, n', A', B', sg', op', h1, h2, h3⟩
    refine ⟨rfl, ⟨n', A', B', sg', op', h1, h2, h3⟩, ?_⟩
    have hs5 := hs4.of_block (h3.kept.block _ hs4.lt (fun h => h.elim (hold _ (by omega)).1 (hold _ (by omega)).2))
    exact ⟨hs5.cell (i := 0) (by omega), hs5.frozen 0⟩)
  rw [hz3] at HC
  have HC : Hid (Calls Tryz.prog 97 #[.func (.func 98) #[] #[.pointer (some ⟨w.heap.size, 0, none⟩), .pointer (some ⟨w1.heap.size, 0, none⟩)]] W3 fun e w' => e = .returned (.int .i64 60) ∧ ∃ w2, LostAt W4 base d mb n y p dir cp A B w2 ∧ w' = w2.setCell ⟨w1.heap.size + 1, 0, none⟩ (.int .i64 60)) := HC
  have HFIN : Hid (∀ w2, LostAt W4 base d mb n y p dir cp A B w2 → LostAt w base d mb n y p dir cp A B (w2.setCell ⟨w1.heap.size + 1, 0, none⟩ (.int .i64 60))) := by
    rintro w2 ⟨n', A', B', sg', op', h1, h2, h3⟩
    refine ⟨n', A', B', sg', op', h1, (h2.cell37 (fun ha => (hold _ (by omega)).1 (h3.oldA _ (by rw [hz4]; omega) ha)) (fun hb => (hold _ (by omega)).2 (h3.oldB _ (by rw [hz4]; omega) hb))).1, ((Step2.grown A B hgw4).trans h3).cell (by omega)⟩
  rw [← eW3]
  clear hz0 hz1 hz3 hz4 hg13 hgw4 hq4 hr4 hs4 hL4 hold had hfne hadl eW3 eW4 hout hg1 hpos HFR HCL
  refine HC.out.mono ?_
  rintro e w3 ⟨rfl, w2, hx, rfl⟩
  have HX : Hid (LostAt w base d mb n y p dir cp A B (w2.setCell ⟨w1.heap.size + 1, 0, none⟩ (.int .i64 60))) := HFIN.out w2 hx
  clear hx HC HFIN
  go_wp2
  go_ret
  exact ⟨rfl, HX.out⟩
set_option maxHeartbeats 4000000 in
theorem w_caughtP51 (caps : Array Value) (x : Int) (P : World → Prop) (w : World)
    (hcl : Calls Tryz.prog 102 caps (w.alloc (.cells #[.int .i64 0] 31)) fun e w' => e = .panicked (thrown x) ∧ P w' ∧ w'.cell? ⟨w.heap.size, 0, none⟩ = some (.int .i64 0) ∧ w'.frozen? ⟨w.heap.size, 0, none⟩ = false) :
    Calls Tryz.prog 97 #[.func (.func 102) #[] caps] w fun e w' => e = .returned (.int .i64 x) ∧ ∃ w1, P w1 ∧ w' = w1.setCell ⟨w.heap.size, 0, none⟩ (.int .i64 x) := by
  have hmf : ∀ (fn : Fn) (first cap : Array Value) (w : World), (Instr.makeFunc fn first cap).run Tryz.prog w = .ok (.func fn first cap) w := fun _ _ _ _ => rfl
  go_enter_defers Tryz.func97, Tryz.ntmps97
  go_wp2_with fail
  refine hcl.mono ?_
  rintro e w1 ⟨rfl, hp, hc, hz⟩
  have HP : Hid (P w1) := hp
  clear hp hcl
  unfold thrown
  go_wp2
  refine leaves_cons (f := 132) (args := #[.pointer (some ⟨w.heap.size, 0, none⟩)]) (by simp) (by simp [go_sem]) ?_
  refine (w_catch w.heap.size x [] _ hc hz).mono ?_
  rintro e u' w'' ⟨rfl, rfl, rfl⟩
  have hcs : (w1.setCell ⟨w.heap.size, 0, none⟩ (.int .i64 x)).cell? ⟨w.heap.size, 0, none⟩ = some (.int .i64 x) := World.cell?_setCell_same' w1 _ _ (by rw [hc]; rfl)
  simp [Go.Leaves, settle, results, Tryz.results97, go_sem, hcs]
  exact ⟨w1, HP.out, rfl⟩
set_option maxHeartbeats 8000000 in
theorem w_sync1P (base d mb n : Nat) (x : DSt) (p q : Nat) (dir cp : ByteArray) (segs : List Nat) (op : Nat) (A B : Nat → Prop) (w : World) (hdir : dirB dir = true) (ht : Tab w) (h : LogAt w base d mb n x p dir cp segs op A B) (hok : x.ok) (hop : op < 99999999) (y : DSt) (hs : x.sync (segN dir op) = (60, y)) (hq : w.rowIs q 65 1 (fun _ => .pointer (some ⟨p, 0, none⟩))) (hqA : ¬ A q ∧ ¬ B q) :
    Calls Tryz.prog 102 #[.pointer (some ⟨q, 0, none⟩)] w fun e w' => e = .panicked (thrown 60) ∧ LostAt w base d mb n y p dir cp A B w' := by
  have hds : dir.size ≤ 32 := by simp only [dirB, Bool.and_eq_true, decide_eq_true_eq] at hdir; exact hdir.2
  have hnm := seg_name hdir op
  have HL : Hid (LogAt w base d mb n x p dir cp segs op A B) := h
  obtain ⟨a, c, hW, _⟩ := h.wal
  have HW : Hid (WRow w p d dir cp (.slice a segs.length c) (op : Int)) := hW
  have HQ : Hid (w.rowIs q 65 1 (fun _ => .pointer (some ⟨p, 0, none⟩))) := hq
  have HS0 : Hid ((x.sync (segN dir op)).1 = 60) := by show _ = _; rw [hs]
  have HS2 : Hid ((x.sync (segN dir op)).2 = y) := by show _ = _; rw [hs]
  have c0 := hW.cells.1
  have c4 := hW.cells.2.2.2.2
  have cq : w.cell? ⟨q, 0, none⟩ = some (.pointer (some ⟨p, 0, none⟩)) := hq.cell (i := 0) (by omega)
  have HD0 := fun w => w_doneP 60 (by decide) w
  have HGD : Hid (w.grownBy w.drew none) := gb_drew (World.grownBy.refl _ _)
  have HSG : Hid (Calls Tryz.prog 105 #[.pointer (some ⟨p, 0, none⟩), .int .i64 (op : Int)] w.drew fun e w' => e = .returned (.string (segN dir op)) ∧ w.drew.grownBy w' none) := w_segment p d dir cp _ _ op (by omega) _ (by omega) (ht.grown HGD.out) (hW.kept HGD.out (by simp))
  have HSY : Hid (∀ w1, w.grownBy w1 none → Calls Tryz.prog 104 #[.pointer (some ⟨d, 0, none⟩), .string (segN dir op)] w1 fun e w' => e = .returned (.int .i64 60) ∧ ∃ n' B', n' ≤ n ∧ LogAt w' base d mb n' (x.sync (segN dir op)).2 p dir cp segs op A B' ∧ Step2 w w' A B A B') := fun w1 hg => by
    have h1 := HL.out.grown hg
    refine (x_syncN base d mb n x B (segN dir op) w1 h1.disk hok hnm).mono ?_
    rintro e w' ⟨rfl, n', B', hn', hd', hst⟩
    obtain ⟨B'', h2, h3⟩ := h1.write hd' hst
    exact ⟨by rw [HS0.out], n', B'', hn', h2, (Step2.grown A B hg).trans h3⟩
  have HCELL : Hid (∀ w2, (∃ n' B', n' ≤ n ∧ LogAt w2 base d mb n' (x.sync (segN dir op)).2 p dir cp segs op A B' ∧ Step2 w w2 A B A B') → w2.cell? ⟨p, 0, none⟩ = some (.pointer (some ⟨d, 0, none⟩)) ∧ w2.cell? ⟨p, 4, none⟩ = some (.int .i64 (op : Int)) ∧ w2.cell? ⟨q, 0, none⟩ = some (.pointer (some ⟨p, 0, none⟩))) := by
    rintro w2 ⟨n', B', _, h2, h3⟩
    obtain ⟨a2, c2, hW2, _⟩ := h2.wal
    exact ⟨hW2.cells.1, hW2.cells.2.2.2.2, cell_kept h3.kept HQ.out.lt (fun h => h.elim hqA.1 hqA.2) cq⟩
  clear h hW hq hs
  go_enter Tryz.func102, Tryz.ntmps102
  go_wp2_with fail
  refine wp_region_held_drew (S := fun W => W.cell? ⟨q, 0, none⟩ = some (.pointer (some ⟨p, 0, none⟩)) ∧ W.cell? ⟨p, 0, none⟩ = some (.pointer (some ⟨d, 0, none⟩)) ∧ W.cell? ⟨p, 4, none⟩ = some (.int .i64 (op : Int))) (by kernel_rfl) (by go_keep) (fun hHeld => ?_)
  refine wpAnyH_take (i := 0) (v := .pointer (some ⟨p, 0, none⟩)) rfl (by kernel_rfl) (by kernel_rfl) (by kernel_rfl) (fun _ _ _ h => h) (Or.inl ⟨by rfl, fun w hSw => ?_⟩) (by assumption) ?_
  · go_simp
  refine wpAnyH_take (i := 1) (v := .pointer (some ⟨p, 0, none⟩)) rfl (by kernel_rfl) (by kernel_rfl) (by kernel_rfl) (fun _ _ _ h => h) (Or.inl ⟨by rfl, fun w hSw => ?_⟩) (by assumption) ?_
  · go_simp
  refine wpAnyH_take (i := 2) (v := .pointer (some ⟨p, 0, none⟩)) rfl (by kernel_rfl) (by kernel_rfl) (by kernel_rfl) (fun _ _ _ h => h) (Or.inl ⟨by rfl, fun w hSw => ?_⟩) (by assumption) ?_
  · go_simp
  refine wpAnyH_take (i := 3) (v := .pointer (some ⟨d, 0, none⟩)) rfl (by kernel_rfl) (by kernel_rfl) (by kernel_rfl) (fun _ _ _ h => h) (Or.inl ⟨by rfl, fun w hSw => ?_⟩) (by assumption) ?_
  · go_simp
  refine wpAnyH_take (i := 4) (v := .pointer (some ⟨p, 0, none⟩)) rfl (by kernel_rfl) (by kernel_rfl) (by kernel_rfl) (fun _ _ _ h => h) (Or.inl ⟨by rfl, fun w hSw => ?_⟩) (by assumption) ?_
  · go_simp
  refine wpAnyH_take (i := 5) (v := .pointer (some ⟨p, 0, none⟩)) rfl (by kernel_rfl) (by kernel_rfl) (by kernel_rfl) (fun _ _ _ h => h) (Or.inl ⟨by rfl, fun w hSw => ?_⟩) (by assumption) ?_
  · go_simp
  refine wpAnyH_take (i := 6) (v := .pointer (some ⟨p, 0, none⟩)) rfl (by kernel_rfl) (by kernel_rfl) (by kernel_rfl) (fun _ _ _ h => h) (Or.inl ⟨by rfl, fun w hSw => ?_⟩) (by assumption) ?_
  · go_simp
  refine wpAnyH_take (i := 7) (v := .pointer (some ⟨p, 4, none⟩)) rfl (by kernel_rfl) (by kernel_rfl) (by kernel_rfl) (fun _ _ _ h => h) (Or.inl ⟨by rfl, fun w hSw => ?_⟩) (by assumption) ?_
  · go_simp
  refine wpAnyH_take (i := 8) (v := .int .i64 (op : Int)) rfl (by kernel_rfl) (by kernel_rfl) (by kernel_rfl) (fun _ _ _ h => h) (Or.inl ⟨by rfl, fun w hSw => ?_⟩) (by assumption) ?_
  · go_simp
  refine wpAnyH_ready (rs := [9]) (by kernel_rfl) (by simp) (AllReadyH.cons (i := 9) rfl (fun K hK => ?_) AllReadyH.nil)
  go_simp
  refine HSG.out.mono ?_
  rintro e w1 ⟨rfl, hg1⟩
  have HG1 : Hid (w.grownBy w1 none) := HGD.out.trans hg1
  have c0' := (HW.out.kept HG1.out (by simp)).cells.1
  have c4' := (HW.out.kept HG1.out (by simp)).cells.2.2.2.2
  have cq' : w1.cell? ⟨q, 0, none⟩ = some (.pointer (some ⟨p, 0, none⟩)) := HG1.out.cell cq (by simp)
  clear hg1
  refine hK.out _ _ (by go_keep) (fun hHeld => ?_)
  clear hK K
  refine wpAnyH_ready (rs := [10]) (by kernel_rfl) (by simp) (AllReadyH.cons (i := 10) rfl (fun K hK => ?_) AllReadyH.nil)
  go_simp
  refine (HSY.out _ HG1.out).mono ?_
  rintro e w2 ⟨rfl, hx2⟩
  have HX2 : Hid (∃ n' B', n' ≤ n ∧ LogAt w2 base d mb n' (x.sync (segN dir op)).2 p dir cp segs op A B' ∧ Step2 w w2 A B A B') := hx2
  obtain ⟨c0'', c4'', cq''⟩ := HCELL.out w2 hx2
  clear hx2
  refine hK.out _ _ (by go_keep) (fun hHeld => ?_)
  clear hK K
  refine wpAnyH_ready (rs := [11]) (by kernel_rfl) (by simp) (AllReadyH.cons (i := 11) rfl (fun K hK => ?_) AllReadyH.nil)
  go_simp
  refine (HD0 _).mono ?_
  rintro e w3 ⟨rfl, rfl⟩
  obtain ⟨n', B', h1, h2, h3⟩ := HX2.out
  rw [HS2.out] at h2
  exact ⟨rfl, rfl, n', A, B', segs, op, by omega, h2, h3⟩
set_option maxHeartbeats 8000000 in
theorem w_syncP (base d mb n : Nat) (x : DSt) (p : Nat) (dir cp : ByteArray) (segs : List Nat) (op : Nat) (A B : Nat → Prop) (w : World) (hdir : dirB dir = true) (ht : Tab w) (h : LogAt w base d mb n x p dir cp segs op A B) (hok : x.ok) (hop : op < 99999999) (hsg : segs.length ≤ 4194304) (ho : isOpen segs op = true) (y : DSt) (hs : x.sync (segN dir op) = (60, y)) :
    Calls Tryz.prog 74 #[.pointer (some ⟨p, 0, none⟩)] w fun e w' => e = .returned (.int .i64 60) ∧ LostAt w base d mb n y p dir cp A B w' := by
  have hg0 : w.grownBy (w.alloc (.cells #[.pointer (some ⟨p, 0, none⟩)] 65)) none := World.grownBy_alloc w _ none
  have hL0 := h.grown hg0
  have HL : Hid (LogAt w base d mb n x p dir cp segs op A B) := h
  have HT : Hid (Tab w) := ht
  have HS0 : Hid (x.sync (segN dir op) = (60, y)) := hs
  have HG0 : Hid (w.grownBy (w.alloc (.cells #[.pointer (some ⟨p, 0, none⟩)] 65)) none) := hg0
  obtain ⟨a, c, hW, hso, _⟩ := hL0.wal
  have HHF : Hid (Calls Tryz.prog 101 #[.pointer (some ⟨p, 0, none⟩)] (w.alloc (.cells #[.pointer (some ⟨p, 0, none⟩)] 65)) fun e w' => e = .returned (.bool (isOpen segs op)) ∧ ∃ k, w' = (w.alloc (.cells #[.pointer (some ⟨p, 0, none⟩)] 65)).drewN k) := w_hasFile p d dir cp a c segs op _ hW hso.rd (by omega)
  have hmf : ∀ (fn : Fn) (first cap : Array Value) (w : World), (Instr.makeFunc fn first cap).run Tryz.prog w = .ok (.func fn first cap) w := fun _ _ _ _ => rfl
  have hs1 : ∀ (w : World) o, (w.alloc o).heap.size = w.heap.size + 1 := fun w o => Array.size_push _
  clear h ht hg0 hL0 hW hso hs
  go_enter Tryz.func74, Tryz.ntmps74
  go_wp2_with fail
  refine HHF.out.mono ?_
  rintro e w1 ⟨rfl, kq, rfl⟩
  obtain ⟨W3, eW3⟩ : ∃ W3, W3 = (w.alloc (.cells #[.pointer (some ⟨p, 0, none⟩)] 65)).drewN kq := ⟨_, rfl⟩
  have hg3 : w.grownBy W3 none := by rw [eW3]; exact gb_drewR HG0.out kq
  rw [← eW3]
  obtain ⟨W4, eW4⟩ : ∃ W4, W4 = W3.alloc (.cells #[.int .i64 0] 31) := ⟨_, rfl⟩
  have hz3 : W3.heap.size = w.heap.size + 1 := by rw [eW3]; exact hs1 _ _
  have hz4 : W4.heap.size = w.heap.size + 2 := by rw [eW4, hs1, hz3]
  have hgw4 : w.grownBy W4 none := by rw [eW4]; exact hg3.trans (World.grownBy_alloc _ _ none)
  have hq4 : W4.rowIs w.heap.size 65 1 (fun _ => .pointer (some ⟨p, 0, none⟩)) := by
    rw [eW4, eW3]
    exact World.rowIs.alloc (w := (w.alloc (.cells #[.pointer (some ⟨p, 0, none⟩)] 65)).drewN kq) ((row1 w (.pointer (some ⟨p, 0, none⟩)) 65).of_block rfl) _
  have hs4 : W4.rowIs (w.heap.size + 1) 31 1 (fun _ => .int .i64 0) := by
    have := row1 W3 (.int .i64 0) 31
    rw [hz3] at this
    rw [eW4]
    exact this
  have hold : ∀ k, w.heap.size ≤ k → ¬ A k ∧ ¬ B k := fun k hk => ⟨fun ha => by have := HL.out.ltA k ha; omega, fun hb => by have := HL.out.ltB k hb; omega⟩
  have HC := w_caughtP51 #[.pointer (some ⟨w.heap.size, 0, none⟩)] 60 (fun w2 => LostAt W4 base d mb n y p dir cp A B w2) W3 (by
    rw [← eW4, hz3]
    refine (w_sync1P base d mb n x p w.heap.size dir cp segs op A B W4 hdir (HT.out.grown hgw4) (HL.out.grown hgw4) hok hop y HS0.out hq4 (hold _ (Nat.le_refl _))).mono ?_
    rintro e w2 ⟨rfl, n', A', B', sg', op', h1, h2, h3⟩
    refine ⟨rfl, ⟨n', A', B', sg', op', h1, h2, h3⟩, ?_⟩
    have hs5 := hs4.of_block (h3.kept.block _ hs4.lt (fun h => h.elim (hold _ (by omega)).1 (hold _ (by omega)).2))
    exact ⟨hs5.cell (i := 0) (by omega), hs5.frozen 0⟩)
  rw [hz3] at HC
  have HC : Hid (Calls Tryz.prog 97 #[.func (.func 102) #[] #[.pointer (some ⟨w.heap.size, 0, none⟩)]] W3 fun e w' => e = .returned (.int .i64 60) ∧ ∃ w2, LostAt W4 base d mb n y p dir cp A B w2 ∧ w' = w2.setCell ⟨w.heap.size + 1, 0, none⟩ (.int .i64 60)) := HC
  have HFIN : Hid (∀ w2, LostAt W4 base d mb n y p dir cp A B w2 → LostAt w base d mb n y p dir cp A B (w2.setCell ⟨w.heap.size + 1, 0, none⟩ (.int .i64 60))) := by
    rintro w2 ⟨n', A', B', sg', op', h1, h2, h3⟩
    exact ⟨n', A', B', sg', op', h1, (h2.cell37 (fun ha => (hold _ (by omega)).1 (h3.oldA _ (by rw [hz4]; omega) ha)) (fun hb => (hold _ (by omega)).2 (h3.oldB _ (by rw [hz4]; omega) hb))).1, ((Step2.grown A B hgw4).trans h3).cell (by omega)⟩
  clear hz3 hz4 hgw4 hq4 hs4 hold eW3 eW4 hg3 HHF
  rw [ho]
  go_wp2_with fail
  refine HC.out.mono ?_
  rintro e w3 ⟨rfl, w2, hx, rfl⟩
  have HX : Hid (LostAt w base d mb n y p dir cp A B (w2.setCell ⟨w.heap.size + 1, 0, none⟩ (.int .i64 60))) := HFIN.out w2 hx
  clear hx HC HFIN
  go_wp2
  go_ret
  exact ⟨rfl, HX.out⟩
end Go.Proofs.YtgpgkpciajajcaaGreatDoor

