/- Several texts in one: Dk24, Wg. -/
import Derived.Test.YtekejnjaiccnbaaGreatDoorMi
import Derived.Test.YtekejnjaiccnbaaGreatDoorWp
import Derived.Deep.RegionHeld3
/- Package disk as a value: Sync and Delete make no file. -/
namespace Go.Proofs.YtekejnjaiccnbaaGreatDoor
open Go.RowKit Go.Maps
set_option linter.unusedVariables false
set_option maxRecDepth 20000

/-- A call leaves the disk at that value; no file is new. -/
def LeavesN (w : World) (base d mb n : Nat) (r : Int × DSt) (B : Nat → Prop) (e : Ending) (w' : World) : Prop := e = .returned (.int .i64 r.1) ∧ ∃ n' B', n' ≤ n ∧ DS w' base d mb n' r.2 B' ∧ Step w w' B B'
theorem leavesN_same {w w' : World} {base d mb n : Nat} {c : Int} {x : DSt} {B : Nat → Prop} (h : DS w base d mb n x B) (hg : w.grownBy w' none) : LeavesN w base d mb n (c, x) B (.returned (.int .i64 c)) w' :=
  ⟨rfl, n, B, Nat.le_refl _, DV.kept h hg, Step.grown B hg⟩
theorem x_syncN (base d mb n : Nat) (x : DSt) (B : Nat → Prop) (s : ByteArray) (w : World) (h : DS w base d mb n x B) (hok : x.ok) (hnm : nameB s = true) :
    Calls Tryz.prog 53 #[.pointer (some ⟨d, 0, none⟩), .string s] w (LeavesN w base d mb n (x.sync s) B) := by
  obtain ⟨off, set, ah, kp, wn, V⟩ := x
  obtain ⟨hw, ha, hk⟩ := hok
  unfold DSt.sync
  cases off with
  | true =>
    refine (v_syncNot base d mb n true set ah kp wn V B s 60 w h hnm (.inl ⟨rfl, rfl⟩)).mono ?_
    rintro e w' ⟨rfl, hg⟩
    exact leavesN_same h hg
  | false =>
    rw [if_neg (by simp)]
    dsimp only
    cases hV : V s with
    | none =>
      refine (v_syncNot base d mb n false set ah kp wn V B s 62 w h hnm (.inr ⟨rfl, hV, rfl⟩)).mono ?_
      rintro e w' ⟨rfl, hg⟩
      exact leavesN_same h hg
    | some p =>
      obtain ⟨Z, Y⟩ := p
      dsimp only
      unfold DSt.wr
      cases set with
      | false =>
        refine (v_sync base d mb n ah kp wn V B s Z Y w h hnm hV hw).mono ?_
        rintro e w' ⟨rfl, B', hd', hst⟩
        exact ⟨rfl, n, B', Nat.le_refl _, hd', hst⟩
      | true =>
        rw [if_neg (by simp)]
        by_cases h0 : ah = 0
        · subst h0
          refine (v_syncLost base d mb n kp wn V B s Z Y w h hnm hV hw hk).mono ?_
          rintro e w' ⟨rfl, hd', hst⟩
          exact ⟨rfl, n, B, Nat.le_refl _, hd', hst⟩
        · rw [if_neg h0]
          have h1 := ha rfl
          refine (v_syncArmed base d mb n ah kp wn V B s Z Y w h hnm hV hw (by dsimp only at h1; omega)).mono ?_
          rintro e w' ⟨rfl, B', hd', hst⟩
          exact ⟨rfl, n, B', Nat.le_refl _, hd', hst⟩
theorem x_deleteN (base d mb n : Nat) (x : DSt) (B : Nat → Prop) (s : ByteArray) (w : World) (h : DS w base d mb n x B) (hok : x.ok) (hnm : nameB s = true) :
    Calls Tryz.prog 91 #[.pointer (some ⟨d, 0, none⟩), .string s] w (LeavesN w base d mb n (x.delete s) B) := by
  obtain ⟨off, set, ah, kp, wn, V⟩ := x
  obtain ⟨hw, ha, hk⟩ := hok
  unfold DSt.delete
  cases off with
  | true =>
    refine (v_deleteNot base d mb n true set ah kp wn V B s 60 w h hnm (.inl ⟨rfl, rfl⟩)).mono ?_
    rintro e w' ⟨rfl, hg⟩
    exact leavesN_same h hg
  | false =>
    rw [if_neg (by simp)]
    dsimp only
    cases hV : V s with
    | none =>
      refine (v_deleteNot base d mb n false set ah kp wn V B s 62 w h hnm (.inr ⟨rfl, hV, rfl⟩)).mono ?_
      rintro e w' ⟨rfl, hg⟩
      exact leavesN_same h hg
    | some p =>
      obtain ⟨Z, Y⟩ := p
      dsimp only
      unfold DSt.wr
      cases set with
      | false =>
        refine (v_delete base d mb n ah kp wn V B s Z Y w h hnm hV hw).mono ?_
        rintro e w' ⟨rfl, hd', hst⟩
        exact ⟨rfl, n, B, Nat.le_refl _, hd', hst⟩
      | true =>
        rw [if_neg (by simp)]
        by_cases h0 : ah = 0
        · subst h0
          refine (v_deleteLost base d mb n kp wn V B s Z Y w h hnm hV hw hk).mono ?_
          rintro e w' ⟨rfl, hd', hst⟩
          exact ⟨rfl, n, B, Nat.le_refl _, hd', hst⟩
        · rw [if_neg h0]
          have h1 := ha rfl
          refine (v_deleteArmed base d mb n ah kp wn V B s Z Y w h hnm hV hw (by dsimp only at h1; omega)).mono ?_
          rintro e w' ⟨rfl, hd', hst⟩
          exact ⟨rfl, n, B, Nat.le_refl _, hd', hst⟩
end Go.Proofs.YtekejnjaiccnbaaGreatDoor

/- Package wal: a log over its disk; roll. -/
namespace Go.Proofs.YtekejnjaiccnbaaGreatDoor
open Go.RowKit Go.Maps Go.Sort
set_option linter.unusedVariables false
set_option maxRecDepth 20000

/-- A log's struct in block p; its own blocks are among A. -/
def WalA (w : World) (p d : Nat) (dir cp : ByteArray) (segs : List Nat) (op : Nat) (A : Nat → Prop) : Prop := ∃ a c, WRow w p d dir cp (.slice a segs.length c) (op : Int) ∧ SOwn intE 3 w 0 (.slice a segs.length c) segs.length (nI segs) ∧ A p ∧ (∀ y, a = some y → A y.block ∧ y.block ≠ p)
/-- A log over its disk. -/
structure LogAt (w : World) (base d mb n : Nat) (x : DSt) (p : Nat) (dir cp : ByteArray) (segs : List Nat) (op : Nat) (A B : Nat → Prop) : Prop where
  disk : DS w base d mb n x B
  wal : WalA w p d dir cp segs op A
  apart : ∀ k, A k → ¬ B k
  ltB : ∀ k, B k → k < w.heap.size
  ltA : ∀ k, A k → k < w.heap.size
/-- From one world to another: only the log's blocks and the disk's are written. -/
structure Step2 (w w' : World) (A B A' B' : Nat → Prop) : Prop where
  kept : Kept w w' (fun k => A k ∨ B k)
  oldB : ∀ k, k < w.heap.size → B' k → B k
  oldA : ∀ k, k < w.heap.size → A' k → A k
theorem Step2.trans {w w1 w2 : World} {A B A1 B1 A2 B2 : Nat → Prop} (h : Step2 w w1 A B A1 B1) (h' : Step2 w1 w2 A1 B1 A2 B2) : Step2 w w2 A B A2 B2 :=
  ⟨h.kept.trans h'.kept (fun k hk hx => hx.elim (fun h1 => .inl (h.oldA k hk h1)) (fun h1 => .inr (h.oldB k hk h1))), fun k hk hb => h.oldB k hk (h'.oldB k (Nat.lt_of_lt_of_le hk h.kept.size) hb), fun k hk ha => h.oldA k hk (h'.oldA k (Nat.lt_of_lt_of_le hk h.kept.size) ha)⟩
theorem Step2.grown {w w' : World} (A B : Nat → Prop) (h : w.grownBy w' none) : Step2 w w' A B A B := ⟨Kept.of h (fun k hk => by cases hk), fun k _ hb => hb, fun k _ ha => ha⟩
theorem WalA.kept {w w' : World} {p d : Nat} {dir cp : ByteArray} {segs : List Nat} {op : Nat} {A X : Nat → Prop} (h : WalA w p d dir cp segs op A) (hg : Kept w w' X) (hX : ∀ k, A k → ¬ X k) : WalA w' p d dir cp segs op A := by
  obtain ⟨a, c, h1, h2, h3, h4⟩ := h
  refine ⟨a, c, h1.of_block (hg.block p h1.lt (hX p h3)), ?_, h3, h4⟩
  cases a with
  | none =>
    have e := (h2.2.resolve_right (by rintro ⟨g, cap, cur, h', _⟩; cases h')).1
    refine ⟨h2.1, .inl ?_⟩
    rcases h2.2 with h5 | ⟨g, cap, cur, h', _⟩
    · exact h5
    · cases h'
  | some y =>
    refine ⟨h2.1, ?_⟩
    rcases h2.2 with ⟨h', _⟩ | ⟨g, cap, cur, h', k1, k2, k3⟩
    · cases h'
    · have e : y = ⟨g, 0, none⟩ := by injection h' with h'; exact Option.some.inj h'
      refine .inr ⟨g, cap, cur, h', k1, ?_, k3⟩
      rw [hg.block g (by have := (Array.getElem?_eq_some_iff.1 k2).1; exact this) (by have := (h4 y rfl).1; rw [e] at this; exact hX _ this)]
      exact k2
theorem LogAt.grown {w w' : World} {base d mb n : Nat} {x : DSt} {p : Nat} {dir cp : ByteArray} {segs : List Nat} {op : Nat} {A B : Nat → Prop} (h : LogAt w base d mb n x p dir cp segs op A B) (hg : w.grownBy w' none) : LogAt w' base d mb n x p dir cp segs op A B :=
  ⟨DV.kept h.disk hg, h.wal.kept (Kept.of hg (X := fun _ => False) (fun k hk => by cases hk)) (fun _ _ h => h), h.apart, fun k hk => Nat.lt_of_lt_of_le (h.ltB k hk) hg.size, fun k hk => Nat.lt_of_lt_of_le (h.ltA k hk) hg.size⟩
theorem DS.bound {w : World} {base d mb n : Nat} {x : DSt} {B : Nat → Prop} (h : DS w base d mb n x B) : DS w base d mb n x (fun k => B k ∧ k < w.heap.size) := by
  obtain ⟨F, G, hd, hv, hb⟩ := h
  refine ⟨F, G, hd, hv, fun k hk => ⟨hb k hk, ?_⟩⟩
  rcases hk with e | e | ⟨s, b, hs, e | ⟨y, hy, e⟩⟩
  · subst e; exact hd.row.lt
  · subst e; exact hd.map.lt
  · subst e; exact (hd.lt s _ hs).1
  · subst e; exact (hd.slc hs hy).2.1
/-- The disk was written. -/
theorem LogAt.write {w w' : World} {base d mb n n' : Nat} {x x' : DSt} {p : Nat} {dir cp : ByteArray} {segs : List Nat} {op : Nat} {A B B' : Nat → Prop} (h : LogAt w base d mb n x p dir cp segs op A B) (hd : DS w' base d mb n' x' B') (hs : Step w w' B B') :
    ∃ B'', LogAt w' base d mb n' x' p dir cp segs op A B'' ∧ Step2 w w' A B A B'' := by
  refine ⟨fun k => B' k ∧ k < w'.heap.size, ⟨hd.bound, h.wal.kept hs.1 (fun k ha hb => h.apart k ha hb), fun k ha hb => ?_, fun k hb => hb.2, fun k ha => Nat.lt_of_lt_of_le (h.ltA k ha) hs.1.size⟩, ⟨hs.1.mono (fun k _ hb => .inr hb), fun k hk hb => hs.2 k hk hb.1, fun k _ ha => ha⟩⟩
  exact h.apart k ha (hs.2 k (h.ltA k ha) hb.1)
/-- The struct's number was written. -/
theorem LogAt.setOpen {w : World} {base d mb n : Nat} {x : DSt} {p : Nat} {dir cp : ByteArray} {segs : List Nat} {op : Nat} {A B : Nat → Prop} (h : LogAt w base d mb n x p dir cp segs op A B) (op' : Nat) (u : Int) (hu : u = (op' : Int)) :
    LogAt (w.setCell ⟨p, 4, none⟩ (.int .i64 u)) base d mb n x p dir cp segs op' A B ∧ Step2 w (w.setCell ⟨p, 4, none⟩ (.int .i64 u)) A B A B := by
  subst hu
  have hg : w.grownBy (w.setCell ⟨p, 4, none⟩ (.int .i64 (op' : Int))) (some p) := gb_set rfl
  obtain ⟨a, c, h1, h2, h3, h4⟩ := h.wal
  have hk : Kept w (w.setCell ⟨p, 4, none⟩ (.int .i64 (op' : Int))) (fun k => k = p) := Kept.of hg (fun k hk => by cases hk; rfl)
  refine ⟨⟨h.disk.others hk (fun k hb e => by subst e; exact h.apart _ h3 hb), ⟨a, c, (h1.set 4 (.int .i64 (op' : Int))).congr (five rfl rfl rfl rfl rfl), SOwn.kept h2 hg ?_, h3, h4⟩, h.apart, fun k hb => Nat.lt_of_lt_of_le (h.ltB k hb) hg.size, fun k ha => Nat.lt_of_lt_of_le (h.ltA k ha) hg.size⟩, ⟨hk.mono (fun k _ e => by subst e; exact .inl h3), fun k _ hb => hb, fun k _ ha => ha⟩⟩
  cases a with
  | none => exact .inl rfl
  | some y => exact .inr (fun e => (h4 y rfl).2 (Option.some.inj e))
/-- What roll makes of the disk and of the open segment. -/
def rollX (x : DSt) (dir : ByteArray) (op : Nat) : DSt × Nat := match x.V (segN dir op) with
  | none => (x, op)
  | some q => if 4096 ≤ q.1.length then ((x.sync (segN dir op)).2, op + 1) else (x, op)
set_option maxHeartbeats 8000000 in
theorem w_roll (base d mb n : Nat) (x : DSt) (p : Nat) (dir cp : ByteArray) (segs : List Nat) (op : Nat) (A B : Nat → Prop) (w : World) (hdir : dirB dir = true) (ht : Tab w) (h : LogAt w base d mb n x p dir cp segs op A B) (hon : x.off = false) (hset : x.set = false) (hok : x.ok) (hop : op < 99999999) :
    Calls Tryz.prog 48 #[.pointer (some ⟨p, 0, none⟩)] w fun e w' => e = .returned (.tuple #[]) ∧ ∃ n' B', n' ≤ n ∧ LogAt w' base d mb n' (rollX x dir op).1 p dir cp segs (rollX x dir op).2 A B' ∧ Step2 w w' A B A B' := by
  have hds : dir.size ≤ 32 := by simp only [dirB, Bool.and_eq_true, decide_eq_true_eq] at hdir; exact hdir.2
  have HL : Hid (LogAt w base d mb n x p dir cp segs op A B) := h
  have HT : Hid (Tab w) := ht
  have hnm := seg_name hdir op
  obtain ⟨a, c, hW, _⟩ := h.wal
  obtain ⟨c0, c1, c2, c3, c4⟩ := hW.cells
  have HW : Hid (WRow w p d dir cp (.slice a segs.length c) (op : Int)) := hW
  have HGD : Hid (w.grownBy w.drew none) := gb_drew (World.grownBy.refl _ _)
  have HSG : Hid (Calls Tryz.prog 54 #[.pointer (some ⟨p, 0, none⟩), .int .i64 (op : Int)] w.drew fun e w' => e = .returned (.string (segN dir op)) ∧ w.drew.grownBy w' none) := w_segment p d dir cp _ _ op (by omega) _ (by omega) (ht.grown HGD.out) (hW.kept HGD.out (by simp))
  have HRD : Hid (∀ w1, w.grownBy w1 none → Calls Tryz.prog 78 #[.pointer (some ⟨d, 0, none⟩), .string (segN dir op)] w1 fun e w' => ∃ a c, e = .returned (.tuple #[.slice a (x.read (segN dir op)).1.length c, .int .i64 (x.read (segN dir op)).2]) ∧ SOwn byteE 5 w' w1.heap.size (.slice a (x.read (segN dir op)).1.length c) (x.read (segN dir op)).1.length (x.read (segN dir op)).1 ∧ (∀ z ∈ (x.read (segN dir op)).1, 0 ≤ z ∧ z ≤ 255) ∧ (x.read (segN dir op)).1.length ≤ 4194304 ∧ w1.grownBy w' none) := fun w1 hg => x_read base d mb n x B (segN dir op) w1 (DV.kept h.disk hg) hnm
  clear h hW c1 c2 c3
  go_enter Tryz.func48, Tryz.ntmps48
  go_upto_region 0 with fail
  go_cut [2, 3] from 4 (fun t2 t3 wc => ∃ a c, t2 = .slice a (x.read (segN dir op)).1.length c ∧ t3 = .int .i64 (x.read (segN dir op)).2 ∧ w.grownBy wc none)
  case first =>
    go_region_held3 (fun W => W.cell? ⟨p, 0, none⟩ = some (.pointer (some ⟨d, 0, none⟩)) ∧ W.cell? ⟨p, 4, none⟩ = some (.int .i64 (op : Int))) (go_keep) (first
      | (go_at_call 54; refine HSG.out.mono ?_; rintro e w1 ⟨rfl, hg1⟩; have HG1 : Hid (w.grownBy w1 none) := HGD.out.trans hg1; have c0' := (HW.out.kept HG1.out (by simp)).cells.1; have c4' := (HW.out.kept HG1.out (by simp)).cells.2.2.2.2; clear hg1)
      | (go_at_call 78; refine (HRD.out _ HG1.out).mono ?_; rintro e w2 ⟨a2, k2, rfl, _, _, _, hg2⟩; have HG2 : Hid (w.grownBy w2 none) := HG1.out.trans hg2; have c0'' := (HW.out.kept HG2.out (by simp)).cells.1; have c4'' := (HW.out.kept HG2.out (by simp)).cells.2.2.2.2; clear hg2))
    all_goals (go_wp2; go_meet)
    all_goals exact ⟨a2, k2, rfl, rfl, HG2.out⟩
  case rest =>
    obtain ⟨a2, k2, rfl, rfl, hgc⟩ := hcut
    rename World => w0
    have hLc := HL.out.grown hgc
    have HGc : Hid (w.grownBy w0 none) := hgc
    have HLc : Hid (LogAt w0 base d mb n x p dir cp segs op A B) := hLc
    have HTc : Hid (Tab w0) := HT.out.grown hgc
    have HD0 := fun w => w_done0 w
    cases hV : x.V (segN dir op) with
    | none =>
      have e1 : x.read (segN dir op) = ([], 62) := by unfold DSt.read; rw [hon, hV]; rfl
      have HX : Hid (rollX x dir op = (x, op)) := by show _ = _; unfold rollX; rw [hV]
      rw [e1]
      clear hgc hLc hV e1 HSG HRD
      go_wp2
      refine bodyPost_ret (results_none rfl _ _ _) rfl ?_
      rw [HX.out]
      exact ⟨rfl, n, B, Nat.le_refl _, HLc.out, Step2.grown A B HGc.out⟩
    | some q =>
      have e1 : x.read (segN dir op) = (q.1, 0) := by unfold DSt.read; rw [hon, hV]; rfl
      rw [e1]
      obtain ⟨L, eL⟩ : ∃ L, L = q.1.length := ⟨_, rfl⟩
      rw [← eL]
      by_cases hbig : 4096 ≤ L
      · have HX : Hid (rollX x dir op = ((x.sync (segN dir op)).2, op + 1)) := by show _ = _; unfold rollX; rw [hV]; exact if_pos (by rw [← eL]; exact hbig)
        have HS1 : Hid ((x.sync (segN dir op)).1 = 0) := by show _ = _; unfold DSt.sync; rw [hon, hV]; unfold DSt.wr; simp [hset]
        have qb : decide ((4096 : Int) ≤ (L : Int)) = true := by simp; omega
        have HSY : Hid (∀ w1, w0.grownBy w1 none → Calls Tryz.prog 53 #[.pointer (some ⟨d, 0, none⟩), .string (segN dir op)] w1 fun e w' => e = .returned (.int .i64 0) ∧ ∃ n' B', n' ≤ n ∧ LogAt w' base d mb n' (x.sync (segN dir op)).2 p dir cp segs op A B' ∧ Step2 w0 w' A B A B') := fun w1 hg => by
          have h1 := HLc.out.grown hg
          refine (x_syncN base d mb n x B (segN dir op) w1 h1.disk hok hnm).mono ?_
          rintro e w' ⟨rfl, n', B', hn', hd', hst⟩
          obtain ⟨B'', h2, h3⟩ := h1.write hd' hst
          exact ⟨by rw [HS1.out], n', B'', hn', h2, (Step2.grown A B hg).trans h3⟩
        have HCELL : Hid (∀ w2, (∃ n' B', n' ≤ n ∧ LogAt w2 base d mb n' (x.sync (segN dir op)).2 p dir cp segs op A B' ∧ Step2 w0 w2 A B A B') → w2.cell? ⟨p, 0, none⟩ = some (.pointer (some ⟨d, 0, none⟩)) ∧ w2.cell? ⟨p, 4, none⟩ = some (.int .i64 (op : Int))) := by
          rintro w2 ⟨n', B', _, h2, h3⟩
          obtain ⟨a2, c2, hW2, _⟩ := h2.wal
          exact ⟨hW2.cells.1, hW2.cells.2.2.2.2⟩
        obtain ⟨a3, c3, hW3, _⟩ := HLc.out.wal
        have HGD2 : Hid (w0.grownBy w0.drew none) := gb_drew (World.grownBy.refl _ _)
        have HSG2 : Hid (Calls Tryz.prog 54 #[.pointer (some ⟨p, 0, none⟩), .int .i64 (op : Int)] w0.drew fun e w' => e = .returned (.string (segN dir op)) ∧ w0.drew.grownBy w' none) := w_segment p d dir cp _ _ op (by omega) _ (by omega) (HTc.out.grown HGD2.out) (hW3.kept HGD2.out (by simp))
        have HW3 : Hid (WRow w0 p d dir cp (.slice a3 segs.length c3) (op : Int)) := hW3
        have y0 := hW3.cells.1
        have y4 := hW3.cells.2.2.2.2
        clear hgc hLc hV e1 HSG HRD eL hW3
        go_wp2_with fail
        refine (HD0 _).mono ?_
        rintro e w1 ⟨rfl, rfl⟩
        go_upto_region 4 with fail
        go_cut [] from 25 (fun wx => ∃ n' B', n' ≤ n ∧ LogAt wx base d mb n' (x.sync (segN dir op)).2 p dir cp segs op A B' ∧ Step2 w0 wx A B A B')
        case first =>
          go_region_held3 (fun W => W.cell? ⟨p, 0, none⟩ = some (.pointer (some ⟨d, 0, none⟩)) ∧ W.cell? ⟨p, 4, none⟩ = some (.int .i64 (op : Int))) (go_keep) (first
            | (go_at_call 54; refine HSG2.out.mono ?_; rintro e w1 ⟨rfl, hg1⟩; have HG1 : Hid (w0.grownBy w1 none) := HGD2.out.trans hg1; have c0' := (HW3.out.kept HG1.out (by simp)).cells.1; have c4' := (HW3.out.kept HG1.out (by simp)).cells.2.2.2.2; clear hg1)
            | (go_at_call 53; refine (HSY.out _ HG1.out).mono ?_; rintro e w2 ⟨rfl, hx2⟩; have HX2 : Hid (∃ n' B', n' ≤ n ∧ LogAt w2 base d mb n' (x.sync (segN dir op)).2 p dir cp segs op A B' ∧ Step2 w0 w2 A B A B') := hx2; obtain ⟨c0'', c4''⟩ := HCELL.out w2 hx2; clear hx2)
            | (go_at_call 52; refine (HD0 _).mono ?_; rintro e w3 ⟨rfl, rfl⟩))
          all_goals (go_wp2; go_meet)
          all_goals exact HX2.out
        case rest =>
          obtain ⟨n', B', hn', hL', hS'⟩ := hcut
          obtain ⟨a4, c4', hW4, _⟩ := hL'.wal
          have x4 := hW4.cells.2.2.2.2
          have z4 := hW4.frozen 4
          have HFIN : Hid (LogAt (wc.setCell ⟨p, 4, none⟩ (.int .i64 ((op : Int) + 1))) base d mb n' (x.sync (segN dir op)).2 p dir cp segs (op + 1) A B' ∧ Step2 wc (wc.setCell ⟨p, 4, none⟩ (.int .i64 ((op : Int) + 1))) A B' A B') := hL'.setOpen (op + 1) _ (by omega)
          have HS' : Hid (Step2 w0 wc A B A B') := hS'
          clear hL' hS' hW4
          go_wp2
          go_end0
          rw [HX.out]
          exact ⟨rfl, n', B', hn', HFIN.out.1, ((Step2.grown A B HGc.out).trans HS'.out).trans HFIN.out.2⟩
      · have HX : Hid (rollX x dir op = (x, op)) := by show _ = _; unfold rollX; rw [hV]; exact if_neg (by rw [← eL]; exact hbig)
        have qb : decide ((4096 : Int) ≤ (L : Int)) = false := by simp; omega
        clear hgc hLc hV e1 HSG HRD eL
        go_wp2_with fail
        refine (HD0 _).mono ?_
        rintro e w1 ⟨rfl, rfl⟩
        go_wp2
        go_end0
        rw [HX.out]
        exact ⟨rfl, n, B, Nat.le_refl _, HLc.out, Step2.grown A B HGc.out⟩
end Go.Proofs.YtekejnjaiccnbaaGreatDoor

