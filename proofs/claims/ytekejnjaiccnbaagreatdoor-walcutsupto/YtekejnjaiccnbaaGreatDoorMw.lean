/- Several texts in one: Wj, Wk. -/
import Derived.Test.YtekejnjaiccnbaaGreatDoorMv
import Derived.Deep.RegionHeld3
/- Package wal: Sync, Segments. -/
namespace Go.Proofs.YtekejnjaiccnbaaGreatDoor
open Go.RowKit Go.Maps Go.Sort
set_option linter.unusedVariables false
set_option maxRecDepth 20000

theorem w_segments (w : World) (p d : Nat) (dir cp : ByteArray) (segs : List Nat) (op : Nat) (A : Nat → Prop) (h : WalA w p d dir cp segs op A) : Calls Tryz.prog 29 #[.pointer (some ⟨p, 0, none⟩)] w fun e w' => e = .returned (.int .i64 (segs.length : Int)) ∧ w = w' := by
  obtain ⟨a, c, hW, _⟩ := h
  obtain ⟨c0, c1, c2, c3, c4⟩ := hW.cells
  clear hW c0 c1 c2 c4
  go_enter Tryz.func29, Tryz.ntmps29
  go_wp2
  go_ret
  exact ⟨rfl, rfl⟩
def syncX (x : DSt) (dir : ByteArray) (segs : List Nat) (op : Nat) : DSt := if isOpen segs op = true then (x.sync (segN dir op)).2 else x
set_option maxHeartbeats 8000000 in
theorem w_sync1 (base d mb n : Nat) (x : DSt) (p q : Nat) (dir cp : ByteArray) (segs : List Nat) (op : Nat) (A B : Nat → Prop) (w : World) (hdir : dirB dir = true) (ht : Tab w) (h : LogAt w base d mb n x p dir cp segs op A B) (hok : x.ok) (hop : op < 99999999) (hs0 : (x.sync (segN dir op)).1 = 0) (hq : w.rowIs q 36 1 (fun _ => .pointer (some ⟨p, 0, none⟩))) (hqA : ¬ A q ∧ ¬ B q) :
    Calls Tryz.prog 51 #[.pointer (some ⟨q, 0, none⟩)] w fun e w' => e = .returned (.tuple #[]) ∧ ∃ n' B', n' ≤ n ∧ LogAt w' base d mb n' (x.sync (segN dir op)).2 p dir cp segs op A B' ∧ Step2 w w' A B A B' := by
  have hds : dir.size ≤ 32 := by simp only [dirB, Bool.and_eq_true, decide_eq_true_eq] at hdir; exact hdir.2
  have hnm := seg_name hdir op
  have HL : Hid (LogAt w base d mb n x p dir cp segs op A B) := h
  obtain ⟨a, c, hW, _⟩ := h.wal
  have HW : Hid (WRow w p d dir cp (.slice a segs.length c) (op : Int)) := hW
  have HQ : Hid (w.rowIs q 36 1 (fun _ => .pointer (some ⟨p, 0, none⟩))) := hq
  have HS0 : Hid ((x.sync (segN dir op)).1 = 0) := hs0
  have c0 := hW.cells.1
  have c4 := hW.cells.2.2.2.2
  have cq : w.cell? ⟨q, 0, none⟩ = some (.pointer (some ⟨p, 0, none⟩)) := hq.cell (i := 0) (by omega)
  have HD0 := fun w => w_done0 w
  have HGD : Hid (w.grownBy w.drew none) := gb_drew (World.grownBy.refl _ _)
  have HSG : Hid (Calls Tryz.prog 54 #[.pointer (some ⟨p, 0, none⟩), .int .i64 (op : Int)] w.drew fun e w' => e = .returned (.string (segN dir op)) ∧ w.drew.grownBy w' none) := w_segment p d dir cp _ _ op (by omega) _ (by omega) (ht.grown HGD.out) (hW.kept HGD.out (by simp))
  have HSY : Hid (∀ w1, w.grownBy w1 none → Calls Tryz.prog 53 #[.pointer (some ⟨d, 0, none⟩), .string (segN dir op)] w1 fun e w' => e = .returned (.int .i64 0) ∧ ∃ n' B', n' ≤ n ∧ LogAt w' base d mb n' (x.sync (segN dir op)).2 p dir cp segs op A B' ∧ Step2 w w' A B A B') := fun w1 hg => by
    have h1 := HL.out.grown hg
    refine (x_syncN base d mb n x B (segN dir op) w1 h1.disk hok hnm).mono ?_
    rintro e w' ⟨rfl, n', B', hn', hd', hst⟩
    obtain ⟨B'', h2, h3⟩ := h1.write hd' hst
    exact ⟨by rw [HS0.out], n', B'', hn', h2, (Step2.grown A B hg).trans h3⟩
  have HCELL : Hid (∀ w2, (∃ n' B', n' ≤ n ∧ LogAt w2 base d mb n' (x.sync (segN dir op)).2 p dir cp segs op A B' ∧ Step2 w w2 A B A B') → w2.cell? ⟨p, 0, none⟩ = some (.pointer (some ⟨d, 0, none⟩)) ∧ w2.cell? ⟨p, 4, none⟩ = some (.int .i64 (op : Int)) ∧ w2.cell? ⟨q, 0, none⟩ = some (.pointer (some ⟨p, 0, none⟩))) := by
    rintro w2 ⟨n', B', _, h2, h3⟩
    obtain ⟨a2, c2, hW2, _⟩ := h2.wal
    exact ⟨hW2.cells.1, hW2.cells.2.2.2.2, cell_kept h3.kept HQ.out.lt (fun h => h.elim hqA.1 hqA.2) cq⟩
  clear h hW hq hs0
  go_enter Tryz.func51, Tryz.ntmps51
  go_wp2_with fail
  go_region_held3 (fun W => W.cell? ⟨q, 0, none⟩ = some (.pointer (some ⟨p, 0, none⟩)) ∧ W.cell? ⟨p, 0, none⟩ = some (.pointer (some ⟨d, 0, none⟩)) ∧ W.cell? ⟨p, 4, none⟩ = some (.int .i64 (op : Int))) (go_keep) (first
    | (go_at_call 54; refine HSG.out.mono ?_; rintro e w1 ⟨rfl, hg1⟩; have HG1 : Hid (w.grownBy w1 none) := HGD.out.trans hg1; have c0' := (HW.out.kept HG1.out (by simp)).cells.1; have c4' := (HW.out.kept HG1.out (by simp)).cells.2.2.2.2; have cq' : w1.cell? ⟨q, 0, none⟩ = some (.pointer (some ⟨p, 0, none⟩)) := HG1.out.cell cq (by simp); clear hg1)
    | (go_at_call 53; refine (HSY.out _ HG1.out).mono ?_; rintro e w2 ⟨rfl, hx2⟩; have HX2 : Hid (∃ n' B', n' ≤ n ∧ LogAt w2 base d mb n' (x.sync (segN dir op)).2 p dir cp segs op A B' ∧ Step2 w w2 A B A B') := hx2; obtain ⟨c0'', c4'', cq''⟩ := HCELL.out w2 hx2; clear hx2)
    | (go_at_call 52; refine (HD0 _).mono ?_; rintro e w3 ⟨rfl, rfl⟩))
  all_goals go_wp2
  all_goals go_end0
  all_goals exact ⟨rfl, HX2.out⟩
def SyncOut (w : World) (base d mb n : Nat) (x : DSt) (p : Nat) (dir cp : ByteArray) (segs : List Nat) (op : Nat) (A B : Nat → Prop) (e : Ending) (w' : World) : Prop := e = .returned (.int .i64 0) ∧ ∃ n' B', n' ≤ n ∧ LogAt w' base d mb n' (syncX x dir segs op) p dir cp segs op A B' ∧ Step2 w w' A B A B'
set_option maxHeartbeats 8000000 in
theorem w_sync (base d mb n : Nat) (x : DSt) (p : Nat) (dir cp : ByteArray) (segs : List Nat) (op : Nat) (A B : Nat → Prop) (w : World) (hdir : dirB dir = true) (ht : Tab w) (h : LogAt w base d mb n x p dir cp segs op A B) (hok : x.ok) (hop : op < 99999999) (hsg : segs.length ≤ 4194304) (hs0 : isOpen segs op = true → (x.sync (segN dir op)).1 = 0) :
    Calls Tryz.prog 19 #[.pointer (some ⟨p, 0, none⟩)] w (SyncOut w base d mb n x p dir cp segs op A B) := by
  have hg0 : w.grownBy (w.alloc (.cells #[.pointer (some ⟨p, 0, none⟩)] 36)) none := World.grownBy_alloc w _ none
  have hL0 := h.grown hg0
  have HL : Hid (LogAt w base d mb n x p dir cp segs op A B) := h
  have HT : Hid (Tab w) := ht
  have HS0 : Hid (isOpen segs op = true → (x.sync (segN dir op)).1 = 0) := hs0
  have HG0 : Hid (w.grownBy (w.alloc (.cells #[.pointer (some ⟨p, 0, none⟩)] 36)) none) := hg0
  obtain ⟨a, c, hW, hso, _⟩ := hL0.wal
  have HHF : Hid (Calls Tryz.prog 50 #[.pointer (some ⟨p, 0, none⟩)] (w.alloc (.cells #[.pointer (some ⟨p, 0, none⟩)] 36)) fun e w' => e = .returned (.bool (isOpen segs op)) ∧ ∃ k, w' = (w.alloc (.cells #[.pointer (some ⟨p, 0, none⟩)] 36)).drewN k) := w_hasFile p d dir cp a c segs op _ hW hso.rd (by omega)
  have hmf : ∀ (fn : Fn) (first cap : Array Value) (w : World), (Instr.makeFunc fn first cap).run Tryz.prog w = .ok (.func fn first cap) w := fun _ _ _ _ => rfl
  have hs1 : ∀ (w : World) o, (w.alloc o).heap.size = w.heap.size + 1 := fun w o => Array.size_push _
  clear h ht hg0 hL0 hW hso hs0
  go_enter Tryz.func19, Tryz.ntmps19
  go_wp2_with fail
  refine HHF.out.mono ?_
  rintro e w1 ⟨rfl, kq, rfl⟩
  obtain ⟨W3, eW3⟩ : ∃ W3, W3 = (w.alloc (.cells #[.pointer (some ⟨p, 0, none⟩)] 36)).drewN kq := ⟨_, rfl⟩
  have hg3 : w.grownBy W3 none := by rw [eW3]; exact gb_drewR HG0.out kq
  rw [← eW3]
  cases ho : isOpen segs op with
  | false =>
    have HX : Hid (SyncOut w base d mb n x p dir cp segs op A B (.returned (.int .i64 0)) W3) := by
      refine ⟨rfl, n, B, Nat.le_refl _, ?_, Step2.grown A B hg3⟩
      unfold syncX
      rw [if_neg (by rw [ho]; simp)]
      exact HL.out.grown hg3
    clear hg3 eW3 HHF
    go_wp2
    go_ret
    exact HX.out
  | true =>
    obtain ⟨W4, eW4⟩ : ∃ W4, W4 = W3.alloc (.cells #[.int .i64 0] 37) := ⟨_, rfl⟩
    have hz3 : W3.heap.size = w.heap.size + 1 := by rw [eW3]; exact hs1 _ _
    have hz4 : W4.heap.size = w.heap.size + 2 := by rw [eW4, hs1, hz3]
    have hgw4 : w.grownBy W4 none := by rw [eW4]; exact hg3.trans (World.grownBy_alloc _ _ none)
    have hq4 : W4.rowIs w.heap.size 36 1 (fun _ => .pointer (some ⟨p, 0, none⟩)) := by
      rw [eW4, eW3]
      exact World.rowIs.alloc (w := (w.alloc (.cells #[.pointer (some ⟨p, 0, none⟩)] 36)).drewN kq) ((row1 w (.pointer (some ⟨p, 0, none⟩)) 36).of_block rfl) _
    have hs4 : W4.rowIs (w.heap.size + 1) 37 1 (fun _ => .int .i64 0) := by
      have := row1 W3 (.int .i64 0) 37
      rw [hz3] at this
      rw [eW4]
      exact this
    have hold : ∀ k, w.heap.size ≤ k → ¬ A k ∧ ¬ B k := fun k hk => ⟨fun ha => by have := HL.out.ltA k ha; omega, fun hb => by have := HL.out.ltB k hb; omega⟩
    have HC := w_caught51 #[.pointer (some ⟨w.heap.size, 0, none⟩)] (fun w2 => ∃ n' B', n' ≤ n ∧ LogAt w2 base d mb n' (x.sync (segN dir op)).2 p dir cp segs op A B' ∧ Step2 W4 w2 A B A B') W3 (by
      rw [← eW4, hz3]
      refine (w_sync1 base d mb n x p w.heap.size dir cp segs op A B W4 hdir (HT.out.grown hgw4) (HL.out.grown hgw4) hok hop (HS0.out ho) hq4 (hold _ (Nat.le_refl _))).mono ?_
      rintro e w2 ⟨rfl, n', B', h1, h2, h3⟩
      refine ⟨rfl, ⟨n', B', h1, h2, h3⟩, ?_⟩
      have hs5 := hs4.of_block (h3.kept.block _ hs4.lt (fun h => h.elim (hold _ (by omega)).1 (hold _ (by omega)).2))
      exact ⟨hs5.cell (i := 0) (by omega), hs5.frozen 0⟩)
    rw [hz3] at HC
    have HC : Hid (Calls Tryz.prog 43 #[.func (.func 51) #[] #[.pointer (some ⟨w.heap.size, 0, none⟩)]] W3 fun e w' => e = .returned (.int .i64 0) ∧ ∃ w2, (∃ n' B', n' ≤ n ∧ LogAt w2 base d mb n' (x.sync (segN dir op)).2 p dir cp segs op A B' ∧ Step2 W4 w2 A B A B') ∧ w' = w2.setCell ⟨w.heap.size + 1, 0, none⟩ (.int .i64 0)) := HC
    have HFIN : Hid (∀ w2, (∃ n' B', n' ≤ n ∧ LogAt w2 base d mb n' (x.sync (segN dir op)).2 p dir cp segs op A B' ∧ Step2 W4 w2 A B A B') → SyncOut w base d mb n x p dir cp segs op A B (.returned (.int .i64 0)) (w2.setCell ⟨w.heap.size + 1, 0, none⟩ (.int .i64 0))) := by
      rintro w2 ⟨n', B', h1, h2, h3⟩
      refine ⟨rfl, n', B', h1, ?_, ((Step2.grown A B hgw4).trans h3).cell (by omega)⟩
      unfold syncX
      rw [if_pos ho]
      exact (h2.cell37 (hold _ (by omega)).1 (fun hb => (hold _ (by omega)).2 (h3.oldB _ (by rw [hz4]; omega) hb))).1
    clear hz3 hz4 hgw4 hq4 hs4 hold eW3 eW4 hg3 HHF
    go_wp2_with fail
    refine HC.out.mono ?_
    rintro e w3 ⟨rfl, w2, hx, rfl⟩
    have HX : Hid (SyncOut w base d mb n x p dir cp segs op A B (.returned (.int .i64 0)) (w2.setCell ⟨w.heap.size + 1, 0, none⟩ (.int .i64 0))) := HFIN.out w2 hx
    clear hx HC HFIN
    go_wp2
    go_ret
    exact HX.out
end Go.Proofs.YtekejnjaiccnbaaGreatDoor

/- Package wal: put. -/
namespace Go.Proofs.YtekejnjaiccnbaaGreatDoor
open Go.RowKit Go.Maps Go.Sort
set_option linter.unusedVariables false
set_option maxRecDepth 20000

/-- What put makes of the disk. -/
def putX (x : DSt) (dir name : ByteArray) (zs : List Int) : DSt := ((((x.append (newN dir) zs).2.sync (newN dir)).2).rename (newN dir) name).2
/-- A disk that is on and not armed. -/
structure DSt.Calm (x : DSt) : Prop where
  on : x.off = false
  free : x.set = false
  ok : x.ok
theorem calm_wr (x : DSt) (h : x.Calm) (l : Bool) (V : Cont) : x.wr l V = (0, { x with wn := x.wn + 1, V := V }) := by
  unfold DSt.wr
  rw [if_pos h.free]
theorem calm_app (x : DSt) (h : x.Calm) (s : ByteArray) (zs : List Int) : x.append s zs = (0, { x with wn := x.wn + 1, V := setV x.V s (some ((oldV x.V s).1 ++ zs, (oldV x.V s).2)) }) := by
  unfold DSt.append
  rw [if_neg (by rw [h.on]; simp), calm_wr x h]
theorem calm_sync (x : DSt) (h : x.Calm) (s : ByteArray) (q : List Int × Nat) (hV : x.V s = some q) : x.sync s = (0, { x with wn := x.wn + 1, V := setV x.V s (some (q.1, q.1.length)) }) := by
  unfold DSt.sync
  rw [if_neg (by rw [h.on]; simp), hV]
  exact calm_wr x h _ _
theorem calm_ren (x : DSt) (h : x.Calm) (s t : ByteArray) (q : List Int × Nat) (hV : x.V s = some q) : x.rename s t = (0, { x with wn := x.wn + 1, V := setV (setV x.V s none) t (some q) }) := by
  unfold DSt.rename
  rw [if_neg (by rw [h.on]; simp), hV]
  exact calm_wr x h _ _
theorem calm_del (x : DSt) (h : x.Calm) (s : ByteArray) (q : List Int × Nat) (hV : x.V s = some q) : x.delete s = (0, { x with wn := x.wn + 1, V := setV x.V s none }) := by
  unfold DSt.delete
  rw [if_neg (by rw [h.on]; simp), hV]
  exact calm_wr x h _ _
theorem calm_next (x : DSt) (h : x.Calm) (hw : x.wn ≤ 999999990) (V : Cont) : ({ x with wn := x.wn + 1, V := V } : DSt).Calm := by
  obtain ⟨h1, h2, h3⟩ := h.ok
  exact ⟨h.on, h.free, ⟨by dsimp only; omega, h2, h3⟩⟩
theorem putX_eq (x : DSt) (h : x.Calm) (hw : x.wn ≤ 999999980) (dir name : ByteArray) (zs : List Int) (hnew : x.V (newN dir) = none) : putX x dir name zs = { x with wn := x.wn + 3, V := setV (setV x.V (newN dir) none) name (some (zs, zs.length)) } := by
  unfold putX
  rw [calm_app x h]
  have e0 : oldV x.V (newN dir) = ([], 0) := by unfold oldV; rw [hnew]; rfl
  rw [e0, List.nil_append]
  have h1 := calm_next x h (by omega) (setV x.V (newN dir) (some (zs, 0)))
  rw [calm_sync _ h1 (newN dir) (zs, 0) (setV_same _ _ _)]
  have h2 := calm_next _ h1 (by dsimp only; omega) (setV (setV x.V (newN dir) (some (zs, 0))) (newN dir) (some (zs, zs.length)))
  rw [calm_ren _ h2 (newN dir) name (zs, zs.length) (setV_same _ _ _)]
  dsimp only
  congr 1
  · omega
  · funext t
    unfold setV
    by_cases e : t = name
    · simp [e]
    · by_cases e2 : t = newN dir
      · simp [e2]
      · simp [e, e2]
set_option maxHeartbeats 8000000 in
theorem w_put (base d mb n : Nat) (x : DSt) (p : Nat) (dir cp name : ByteArray) (segs : List Nat) (op : Nat) (A B : Nat → Prop) (ad : Addr) (zs : List Int) (M cd : Nat) (w : World) (hdir : dirB dir = true) (h : LogAt w base d mb n x p dir cp segs op A B) (hc : x.Calm) (hw : x.wn ≤ 999999980) (hn : n < 1048574) (hnew : x.V (newN dir) = none) (hname : nameB name = true) (hr : SRd byteE w (some ad) zs) (hM : zs.length = M) (hby : ∀ z ∈ zs, 0 ≤ z ∧ z ≤ 255) (hlen : M ≤ 4194304) (hb : base ≤ w.heap.size) (had : ¬ B ad.block) :
    Calls Tryz.prog 100 #[.pointer (some ⟨p, 0, none⟩), .string name, .slice (some ad) M cd] w fun e w' => e = .returned (.tuple #[]) ∧ ∃ n' B', n' ≤ n + 2 ∧ LogAt w' base d mb n' (putX x dir name zs) p dir cp segs op A B' ∧ Step2 w w' A B A B' := by
  have hds : dir.size ≤ 32 := by simp only [dirB, Bool.and_eq_true, decide_eq_true_eq] at hdir; exact hdir.2
  have hnm := new_name hdir
  have HD0 := fun w => w_done0 w
  obtain ⟨x1, ex1⟩ : ∃ x1, x1 = (x.append (newN dir) zs).2 := ⟨_, rfl⟩
  obtain ⟨x2, ex2⟩ : ∃ x2, x2 = (x1.sync (newN dir)).2 := ⟨_, rfl⟩
  obtain ⟨x3, ex3⟩ : ∃ x3, x3 = (x2.rename (newN dir) name).2 := ⟨_, rfl⟩
  have hX3 : putX x dir name zs = x3 := by unfold putX; rw [ex3, ex2, ex1]
  have e0 : oldV x.V (newN dir) = ([], 0) := by unfold oldV; rw [hnew]; rfl
  have k1 := calm_app x hc (newN dir) zs
  have hc1 : x1.Calm := by rw [ex1, k1]; exact calm_next x hc (by omega) _
  have hV1 : x1.V (newN dir) = some (zs, 0) := by rw [ex1, k1]; dsimp only; rw [setV_same, e0]; rfl
  have hw1 : x1.wn = x.wn + 1 := by rw [ex1, k1]
  have k2 := calm_sync x1 hc1 (newN dir) _ hV1
  have hc2 : x2.Calm := by rw [ex2, k2]; exact calm_next x1 hc1 (by omega) _
  have hV2 : x2.V (newN dir) = some (zs, zs.length) := by rw [ex2, k2]; exact setV_same _ _ _
  have hw2 : x2.wn = x.wn + 2 := by rw [ex2, k2]; dsimp only; omega
  have k3 := calm_ren x2 hc2 (newN dir) name _ hV2
  have hBd : B d := by obtain ⟨F, G, _, _, hb⟩ := h.disk; exact hb d (.inl rfl)
  have hBm : B mb := by obtain ⟨F, G, _, _, hb⟩ := h.disk; exact hb mb (.inr (.inl rfl))
  have A1 : Hid (∀ w1, w.grownBy w1 none → Calls Tryz.prog 27 #[.pointer (some ⟨d, 0, none⟩), .string (newN dir), .slice (some ad) M cd] w1 fun e w' => e = .returned (.int .i64 0) ∧ ∃ n' B', n' ≤ n + 1 ∧ LogAt w' base d mb n' x1 p dir cp segs op A B' ∧ Step2 w w' A B A B') := fun w1 hg => by
    have h1 := h.grown hg
    refine (x_append base d mb n x B (newN dir) ad zs M cd w1 h1.disk hc.ok hnm (by omega) (hr.grown hg (by simp)) hM hby (by rw [e0]; simpa using hlen) (Nat.le_trans hb hg.size) (fun e => had (e ▸ hBm)) (fun e => had (e ▸ hBd))).mono ?_
    rintro e w' ⟨rfl, n', B', hn', hd', hst⟩
    rw [← ex1] at hd'
    obtain ⟨B'', h2, h3⟩ := h1.write hd' hst
    exact ⟨by rw [k1], n', B'', hn', h2, (Step2.grown A B hg).trans h3⟩
  have A2 : Hid (∀ n1 B1 w1, LogAt w1 base d mb n1 x1 p dir cp segs op A B1 → Calls Tryz.prog 53 #[.pointer (some ⟨d, 0, none⟩), .string (newN dir)] w1 fun e w' => e = .returned (.int .i64 0) ∧ ∃ n' B', n' ≤ n1 ∧ LogAt w' base d mb n' x2 p dir cp segs op A B' ∧ Step2 w1 w' A B1 A B') := fun n1 B1 w1 h1 => by
    refine (x_syncN base d mb n1 x1 B1 (newN dir) w1 h1.disk hc1.ok hnm).mono ?_
    rintro e w' ⟨rfl, n', B', hn', hd', hst⟩
    rw [← ex2] at hd'
    obtain ⟨B'', h2, h3⟩ := h1.write hd' hst
    exact ⟨by rw [k2], n', B'', hn', h2, h3⟩
  have A3 : Hid (∀ n1 B1 w1, n1 ≤ 1048576 → LogAt w1 base d mb n1 x2 p dir cp segs op A B1 → Calls Tryz.prog 127 #[.pointer (some ⟨d, 0, none⟩), .string (newN dir), .string name] w1 fun e w' => e = .returned (.int .i64 0) ∧ ∃ n' B', n' ≤ n1 + 1 ∧ LogAt w' base d mb n' x3 p dir cp segs op A B' ∧ Step2 w1 w' A B1 A B') := fun n1 B1 w1 hn1 h1 => by
    refine (x_rename base d mb n1 x2 B1 (newN dir) name w1 h1.disk hc2.ok hnm hname hn1).mono ?_
    rintro e w' ⟨rfl, n', B', hn', hd', hst⟩
    rw [← ex3] at hd'
    obtain ⟨B'', h2, h3⟩ := h1.write hd' hst
    exact ⟨by rw [k3], n', B'', hn', h2, h3⟩
  have HDR : Hid (∀ w1 n1 x' B1, LogAt w1 base d mb n1 x' p dir cp segs op A B1 → Calls Tryz.prog 92 #[.pointer (some ⟨p, 0, none⟩)] w1 fun e w' => e = .returned (.string (newN dir)) ∧ w1 = w') := fun w1 n1 x' B1 h1 => by
    obtain ⟨a1, c1, hW, _⟩ := h1.wal
    exact w_draft p d dir cp _ _ w1 (by omega) hW
  have HCL : Hid (∀ w1 n1 x' B1, LogAt w1 base d mb n1 x' p dir cp segs op A B1 → w1.cell? ⟨p, 0, none⟩ = some (.pointer (some ⟨d, 0, none⟩))) := fun w1 n1 x' B1 h1 => by
    obtain ⟨a1, c1, hW, _⟩ := h1.wal
    exact hW.cells.1
  have HGD : ∀ W : World, W.grownBy W.drew none := fun W => gb_drew (World.grownBy.refl _ _)
  have HL : Hid (LogAt w base d mb n x p dir cp segs op A B) := h
  have c0 := HCL.out _ _ _ _ h
  have HLd : Hid (LogAt w.drew base d mb n x p dir cp segs op A B) := h.grown (HGD w)
  rw [hX3]
  clear h hr hby had hBd hBm k1 k2 k3 hc1 hc2 hV1 hV2 ex1 ex2 ex3 hX3 e0 hnew
  go_enter Tryz.func100, Tryz.ntmps100
  go_wp2_with fail
  go_region_held3 (fun W => W.cell? ⟨p, 0, none⟩ = some (.pointer (some ⟨d, 0, none⟩))) (go_keep) (first
    | (go_at_call 92; refine (HDR.out _ _ _ _ HLd.out).mono ?_; rintro e w1 ⟨rfl, rfl⟩)
    | (go_at_call 27; refine (A1.out _ (HGD w)).mono ?_; rintro e w2 ⟨rfl, n1, B1, hn1, hL1, hS1⟩; have HL1 : Hid (LogAt w2 base d mb n1 x1 p dir cp segs op A B1) := hL1; have HS1 : Hid (Step2 w w2 A B A B1) := hS1; have c01 := HCL.out _ _ _ _ hL1; clear hL1 hS1)
    | (go_at_call 52; refine (HD0 _).mono ?_; rintro e w3 ⟨rfl, rfl⟩))
  have HL1d : Hid (LogAt w2.drew base d mb n1 x1 p dir cp segs op A B1) := HL1.out.grown (HGD w2)
  go_wp2_with fail
  go_region_held3 (fun W => W.cell? ⟨p, 0, none⟩ = some (.pointer (some ⟨d, 0, none⟩))) (go_keep) (first
    | (go_at_call 92; refine (HDR.out _ _ _ _ HL1d.out).mono ?_; rintro e w1 ⟨rfl, rfl⟩)
    | (go_at_call 53; refine (A2.out _ _ _ HL1d.out).mono ?_; rintro e w4 ⟨rfl, n2, B2, hn2, hL2, hS2⟩; have HL2 : Hid (LogAt w4 base d mb n2 x2 p dir cp segs op A B2) := hL2; have HS2 : Hid (Step2 w w4 A B A B2) := (HS1.out.trans (Step2.grown A B1 (HGD w2))).trans hS2; have c02 := HCL.out _ _ _ _ hL2; clear hL2 hS2)
    | (go_at_call 52; refine (HD0 _).mono ?_; rintro e w3 ⟨rfl, rfl⟩))
  have HL2d : Hid (LogAt w4.drew base d mb n2 x2 p dir cp segs op A B2) := HL2.out.grown (HGD w4)
  go_wp2_with fail
  go_region_held3 (fun W => W.cell? ⟨p, 0, none⟩ = some (.pointer (some ⟨d, 0, none⟩))) (go_keep) (first
    | (go_at_call 92; refine (HDR.out _ _ _ _ HL2d.out).mono ?_; rintro e w1 ⟨rfl, rfl⟩)
    | (go_at_call 127; refine (A3.out _ _ _ (by omega) HL2d.out).mono ?_; rintro e w6 ⟨rfl, n3, B3, hn3, hL3, hS3⟩; have HL3 : Hid (LogAt w6 base d mb n3 x3 p dir cp segs op A B3) := hL3; have HS3 : Hid (Step2 w w6 A B A B3) := (HS2.out.trans (Step2.grown A B2 (HGD w4))).trans hS3; have c03 := HCL.out _ _ _ _ hL3; clear hL3 hS3)
    | (go_at_call 52; refine (HD0 _).mono ?_; rintro e w3 ⟨rfl, rfl⟩))
  go_wp2
  go_end0
  exact ⟨rfl, n3, B3, by omega, HL3.out, HS3.out⟩
end Go.Proofs.YtekejnjaiccnbaaGreatDoor

