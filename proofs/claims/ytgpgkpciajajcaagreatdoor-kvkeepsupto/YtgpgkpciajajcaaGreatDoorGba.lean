/- Several texts in one: Qa, Qd, Qe, Lc. -/
import Derived.Test.YtgpgkpciajajcaaGreatDoorGaz
import Derived.Test.YtgpgkpciajajcaaGreatDoorGax
import Derived.Test.YtgpgkpciajajcaaGreatDoorGat
import Derived.Test.YtgpgkpciajajcaaGreatDoorGaw
/- Package wal: Cut, on a disk that may be armed. (Printed by mk_cutB.py.) -/
namespace Go.Proofs.YtgpgkpciajajcaaGreatDoor
open Go.RowKit Go.Maps Go.Sort
set_option linter.unusedVariables false
set_option maxRecDepth 20000

set_option maxHeartbeats 4000000 in
theorem w_cutPP (base d mb n : Nat) (x : DSt) (p : Nat) (dir cp : ByteArray) (segs : List Nat) (op : Nat) (A B : Nat → Prop) (fv : Value) (w : World) (hdir : dirB dir = true) (ht : Tab w) (h : LogAt w base d mb n x p dir cp segs op A B) (hop : op < 99999998) (y : DSt) (hpt : ∀ w1, w.grownBy w1 none → Calls Tryz.prog 140 #[.pointer (some ⟨p, 0, none⟩), .string (cpN dir op), fv] w1 fun e w' => e = .panicked (thrown 60) ∧ ∃ n' B', n' ≤ n + 2 ∧ LogAt w' base d mb n' y p dir cp segs op A B' ∧ Step2 w1 w' A B A B') :
    Calls Tryz.prog 107 #[.pointer (some ⟨p, 0, none⟩), fv] w fun e w' => e = .panicked (thrown 60) ∧ CutEnd w base d mb (n + 2) y A B w' := by
  have hds : dir.size ≤ 32 := by simp only [dirB, Bool.and_eq_true, decide_eq_true_eq] at hdir; exact hdir.2
  obtain ⟨a1, c, hW, _⟩ := h.wal
  have c4 := hW.cells.2.2.2.2
  have HCN : Hid (Calls Tryz.prog 139 #[.pointer (some ⟨p, 0, none⟩), .int .i64 (op : Int)] w fun e w' => e = .returned (.string (cpN dir op)) ∧ w.grownBy w' none) := w_cpoint p d dir cp _ _ op (by omega) w (by omega) ht hW
  have HPT : Hid (∀ w1, w.grownBy w1 none → Calls Tryz.prog 140 #[.pointer (some ⟨p, 0, none⟩), .string (cpN dir op), fv] w1 fun e w' => e = .panicked (thrown 60) ∧ CutEnd w base d mb (n + 2) y A B w') := fun w1 hg => by
    refine (hpt w1 hg).mono ?_
    rintro e w' ⟨rfl, n', B', h1, h2, h3⟩
    exact ⟨rfl, n', B', h1, h2.disk, (Step2.grown A B hg).trans h3, h2.apart, h2.ltB⟩
  clear h hW ht hdir hpt
  go_enter Tryz.func107, Tryz.ntmps107
  go_wp2_with fail
  refine HCN.out.mono ?_
  rintro e w1 ⟨rfl, hg1⟩
  have HG1 : Hid (w.grownBy w1 none) := hg1
  clear hg1
  go_wp2_with fail
  refine (HPT.out _ HG1.out).mono ?_
  rintro e w2 ⟨rfl, hce⟩
  have HCE : Hid (CutEnd w base d mb (n + 2) y A B w2) := hce
  clear hce
  unfold thrown
  go_wp2
  exact ⟨rfl, rfl, HCE.out⟩
set_option maxHeartbeats 4000000 in
theorem w_cut1Q (p q s : Nat) (fv : Value) (w : World) (P : World → Prop) (hq : w.cell? ⟨q, 0, none⟩ = some (.pointer (some ⟨p, 0, none⟩))) (hs : w.cell? ⟨s, 0, none⟩ = some fv) (hm : Calls Tryz.prog 107 #[.pointer (some ⟨p, 0, none⟩), fv] w fun e w' => e = .panicked (thrown 60) ∧ P w') :
    Calls Tryz.prog 106 #[.pointer (some ⟨q, 0, none⟩), .pointer (some ⟨s, 0, none⟩)] w fun e w' => e = .panicked (thrown 60) ∧ P w' := by
  have HM : Hid (Calls Tryz.prog 107 #[.pointer (some ⟨p, 0, none⟩), fv] w fun e w' => e = .panicked (thrown 60) ∧ P w') := hm
  clear hm
  go_enter Tryz.func106, Tryz.ntmps106
  go_wp2_with fail
  refine HM.out.mono ?_
  rintro e w1 ⟨rfl, hp⟩
  have HP : Hid (P w1) := hp
  clear hp HM
  unfold thrown
  go_wp2
  exact ⟨rfl, rfl, HP.out⟩
/-- Cut, by what cut does. -/
theorem w_cutCG (base d mb n : Nat) (x Z : DSt) (p : Nat) (dir cp : ByteArray) (segs : List Nat) (op : Nat) (A B : Nat → Prop) (ka : Option Addr) (kn kc : Nat) (ts : List Sl) (recs : List (List Int)) (w : World) (hdir : dirB dir = true) (h : LogAt w base d mb n x p dir cp segs op A B) (hok : x.ok) (hn : n < 1048576) (hnew : x.V (newN dir) = none) (hcut : ∀ W4 fv, w.grownBy W4 none → AppsTo W4 base d mb n x B (newN dir) fv (logB frameR recs) → Calls Tryz.prog 107 #[.pointer (some ⟨p, 0, none⟩), fv] W4 fun e w' => e = .returned (.tuple #[]) ∧ CutFin p dir op W4 base d mb (n + 2) Z A B w') (hk : KeepIs w ka ts recs) (hkn : recs.length = kn) (hk4 : kn ≤ 4194304) (hlen : (logB frameR recs).length ≤ 4194304) (hb : base ≤ w.heap.size) :
    Calls Tryz.prog 76 #[.pointer (some ⟨p, 0, none⟩), .slice ka kn kc] w fun e w' => e = .returned (.int .i64 0) ∧ CutFin p dir op w base d mb (n + 2) Z A B w' := by
  have hnm := new_name hdir
  have e0 : oldV x.V (newN dir) = ([], 0) := by unfold oldV; rw [hnew]; rfl
  have hBd : B d := by obtain ⟨F, G, _, _, hb⟩ := h.disk; exact hb d (.inl rfl)
  have hBm : B mb := by obtain ⟨F, G, _, _, hb⟩ := h.disk; exact hb mb (.inr (.inl rfl))
  have hold2 : ∀ k, w.heap.size ≤ k → ¬ A k ∧ ¬ B k := fun k hk => ⟨fun ha => by have := h.ltA k ha; omega, fun hb => by have := h.ltB k hb; omega⟩
  have key : ∀ (w1 : World) (fv : Value), w.grownBy w1 none → w1.rowIs w.heap.size 65 1 (fun _ => .pointer (some ⟨p, 0, none⟩)) → w1.rowIs (w.heap.size + 1) 37 1 (fun _ => fv) → AppsTo w1 base d mb n x B (newN dir) fv (logB frameR recs) → Calls Tryz.prog 97 #[.func (.func 106) #[] #[.pointer (some ⟨w.heap.size, 0, none⟩), .pointer (some ⟨w.heap.size + 1, 0, none⟩)]] w1 fun e w' => e = .returned (.int .i64 0) ∧ CutFin p dir op w base d mb (n + 2) Z A B w' := by
    intro w1 fv hgr hhd hrow hap
    obtain ⟨W4, eW4⟩ : ∃ W4, W4 = w1.alloc (.cells #[.int .i64 0] 31) := ⟨_, rfl⟩
    have hg14 : w1.grownBy W4 none := by rw [eW4]; exact World.grownBy_alloc _ _ none
    have hgw4 := hgr.trans hg14
    have hz4 : W4.heap.size = w1.heap.size + 1 := by rw [eW4]; exact Array.size_push _
    have hs4 : W4.rowIs w1.heap.size 31 1 (fun _ => .int .i64 0) := by rw [eW4]; exact row1 w1 (.int .i64 0) 31
    have hsl := hrow.lt
    have HC := w_caught57 #[.pointer (some ⟨w.heap.size, 0, none⟩), .pointer (some ⟨w.heap.size + 1, 0, none⟩)] (fun w2 => CutFin p dir op W4 base d mb (n + 2) Z A B w2) w1 (by
      rw [← eW4]
      refine (w_cut1 p w.heap.size (w.heap.size + 1) fv W4 (fun w2 => CutFin p dir op W4 base d mb (n + 2) Z A B w2) (hg14.cell (hhd.cell (i := 0) (by omega)) (by simp)) (hg14.cell (hrow.cell (i := 0) (by omega)) (by simp)) (hcut W4 fv hgw4 (fun w2 hg2 => hap w2 (hg14.trans hg2)))).mono ?_
      rintro e w2 ⟨rfl, hce⟩
      refine ⟨rfl, hce, ?_⟩
      obtain ⟨⟨n', B', _, _, h3, _⟩, _⟩ := hce
      have hs5 := hs4.of_block (h3.kept.block _ hs4.lt (fun h => h.elim (hold2 _ (by omega)).1 (hold2 _ (by omega)).2))
      exact ⟨hs5.cell (i := 0) (by omega), hs5.frozen 0⟩)
    refine HC.mono ?_
    rintro e w3 ⟨rfl, w2, ⟨⟨n', B', h1, h2, h3, h4, h5⟩, h6⟩, rfl⟩
    have hg : w2.grownBy (w2.setCell ⟨w1.heap.size, 0, none⟩ (.int .i64 0)) (some w1.heap.size) := gb_set rfl
    have hk2 : Kept w2 (w2.setCell ⟨w1.heap.size, 0, none⟩ (.int .i64 0)) (fun k => k = w1.heap.size) := Kept.of hg (fun k hk => by cases hk; rfl)
    refine ⟨rfl, ⟨n', B', h1, h2.others hk2 (fun k hb e => ?_), ((Step2.grown A B hgw4).trans h3).cell (by omega), h4, fun k hb => Nat.lt_of_lt_of_le (h5 k hb) hg.size⟩, h6.kept hk2 (fun k ha e => by subst e; exact (hold2 _ (by omega)).1 ha)⟩
    subst e
    exact (hold2 _ (by omega)).2 (h3.oldB _ (by rw [hz4]; omega) hb)
  by_cases hne : recs = []
  · subst hne
    have hk0 : kn = 0 := by simpa using hkn.symm
    subst hk0
    refine w_frames0 p ka kc w _ ?_ (fun e w1 hp => ⟨0, hp.1⟩)
    have hs1 : (w.alloc (.cells #[.pointer (some ⟨p, 0, none⟩)] 65)).heap.size = w.heap.size + 1 := Array.size_push _
    have hgr : w.grownBy ((w.alloc (.cells #[.pointer (some ⟨p, 0, none⟩)] 65)).alloc (.cells #[.slice none 0 0] 37)) none := (World.grownBy_alloc w _ none).trans (World.grownBy_alloc _ _ none)
    refine key _ (.slice none 0 0) hgr ((row1 w (.pointer (some ⟨p, 0, none⟩)) 65).alloc _) ?_ (fun w2 hg2 => ?_)
    · have := row1 (w.alloc (.cells #[.pointer (some ⟨p, 0, none⟩)] 65)) (.slice none 0 0) 37
      rw [hs1] at this
      exact this
    · exact x_appendN base d mb n x B (newN dir) w2 (DV.kept h.disk (hgr.trans hg2)) hok hnm hn hnew (Nat.le_trans hb (hgr.trans hg2).size)
  · refine w_frames p 0 0 ka kn kc ts recs w hk hkn hlen hk4 _ (fun w1 hF => ?_) (fun e w1 hp => ⟨0, hp.1⟩)
    obtain ⟨⟨fa, fc, hrow, hso⟩, hby, hgr, hold, hhd⟩ := hF
    have hpos : logB frameR recs ≠ [] := by
      cases recs with
      | nil => exact absurd rfl hne
      | cons r rs =>
        rw [logB_cons]
        intro e
        have h1 := framing.pos r
        have h2 := (List.append_eq_nil_iff.1 e).1
        rw [h2] at h1
        simp at h1
    obtain ⟨ad, rfl⟩ : ∃ ad, fa = some ad := by
      cases fa with
      | some ad => exact ⟨ad, rfl⟩
      | none => exact absurd hso.rd.none hpos
    have hadb := (hso.block ad.block rfl).1
    refine key w1 (.slice (some ad) (logB frameR recs).length fc) hgr hhd hrow (fun w2 hg2 => ?_)
    have had : ¬ B ad.block := (hold2 _ (by omega)).2
    exact x_append base d mb n x B (newN dir) ad (logB frameR recs) (logB frameR recs).length fc w2 (DV.kept h.disk (hgr.trans hg2)) hok hnm hn (hso.rd.grown hg2 (by simp)) rfl hby (by rw [e0]; simpa using hlen) (Nat.le_trans hb (hgr.trans hg2).size) (fun e => had (e ▸ hBm)) (fun e => had (e ▸ hBd))
/-- Cut, by what cut does. -/
theorem w_cutCQ (base d mb n : Nat) (x Z : DSt) (p : Nat) (dir cp : ByteArray) (segs : List Nat) (op : Nat) (A B : Nat → Prop) (ka : Option Addr) (kn kc : Nat) (ts : List Sl) (recs : List (List Int)) (w : World) (hdir : dirB dir = true) (h : LogAt w base d mb n x p dir cp segs op A B) (hok : x.ok) (hn : n < 1048576) (hnew : x.V (newN dir) = none) (hcut : ∀ W4 fv, w.grownBy W4 none → AppsTo W4 base d mb n x B (newN dir) fv (logB frameR recs) → Calls Tryz.prog 107 #[.pointer (some ⟨p, 0, none⟩), fv] W4 fun e w' => e = .panicked (thrown 60) ∧ CutEnd W4 base d mb (n + 2) Z A B w') (hk : KeepIs w ka ts recs) (hkn : recs.length = kn) (hk4 : kn ≤ 4194304) (hlen : (logB frameR recs).length ≤ 4194304) (hb : base ≤ w.heap.size) :
    Calls Tryz.prog 76 #[.pointer (some ⟨p, 0, none⟩), .slice ka kn kc] w fun e w' => e = .returned (.int .i64 60) ∧ CutEnd w base d mb (n + 2) Z A B w' := by
  have hnm := new_name hdir
  have e0 : oldV x.V (newN dir) = ([], 0) := by unfold oldV; rw [hnew]; rfl
  have hBd : B d := by obtain ⟨F, G, _, _, hb⟩ := h.disk; exact hb d (.inl rfl)
  have hBm : B mb := by obtain ⟨F, G, _, _, hb⟩ := h.disk; exact hb mb (.inr (.inl rfl))
  have hold2 : ∀ k, w.heap.size ≤ k → ¬ A k ∧ ¬ B k := fun k hk => ⟨fun ha => by have := h.ltA k ha; omega, fun hb => by have := h.ltB k hb; omega⟩
  have key : ∀ (w1 : World) (fv : Value), w.grownBy w1 none → w1.rowIs w.heap.size 65 1 (fun _ => .pointer (some ⟨p, 0, none⟩)) → w1.rowIs (w.heap.size + 1) 37 1 (fun _ => fv) → AppsTo w1 base d mb n x B (newN dir) fv (logB frameR recs) → Calls Tryz.prog 97 #[.func (.func 106) #[] #[.pointer (some ⟨w.heap.size, 0, none⟩), .pointer (some ⟨w.heap.size + 1, 0, none⟩)]] w1 fun e w' => e = .returned (.int .i64 60) ∧ CutEnd w base d mb (n + 2) Z A B w' := by
    intro w1 fv hgr hhd hrow hap
    obtain ⟨W4, eW4⟩ : ∃ W4, W4 = w1.alloc (.cells #[.int .i64 0] 31) := ⟨_, rfl⟩
    have hg14 : w1.grownBy W4 none := by rw [eW4]; exact World.grownBy_alloc _ _ none
    have hgw4 := hgr.trans hg14
    have hz4 : W4.heap.size = w1.heap.size + 1 := by rw [eW4]; exact Array.size_push _
    have hs4 : W4.rowIs w1.heap.size 31 1 (fun _ => .int .i64 0) := by rw [eW4]; exact row1 w1 (.int .i64 0) 31
    have hsl := hrow.lt
    have HC := w_caughtP57 #[.pointer (some ⟨w.heap.size, 0, none⟩), .pointer (some ⟨w.heap.size + 1, 0, none⟩)] 60 (fun w2 => CutEnd W4 base d mb (n + 2) Z A B w2) w1 (by
      rw [← eW4]
      refine (w_cut1Q p w.heap.size (w.heap.size + 1) fv W4 (fun w2 => CutEnd W4 base d mb (n + 2) Z A B w2) (hg14.cell (hhd.cell (i := 0) (by omega)) (by simp)) (hg14.cell (hrow.cell (i := 0) (by omega)) (by simp)) (hcut W4 fv hgw4 (fun w2 hg2 => hap w2 (hg14.trans hg2)))).mono ?_
      rintro e w2 ⟨rfl, hce⟩
      refine ⟨rfl, hce, ?_⟩
      obtain ⟨n', B', _, _, h3, _⟩ := hce
      have hs5 := hs4.of_block (h3.kept.block _ hs4.lt (fun h => h.elim (hold2 _ (by omega)).1 (hold2 _ (by omega)).2))
      exact ⟨hs5.cell (i := 0) (by omega), hs5.frozen 0⟩)
    refine HC.mono ?_
    rintro e w3 ⟨rfl, w2, ⟨n', B', h1, h2, h3, h4, h5⟩, rfl⟩
    have hg : w2.grownBy (w2.setCell ⟨w1.heap.size, 0, none⟩ (.int .i64 60)) (some w1.heap.size) := gb_set rfl
    have hk2 : Kept w2 (w2.setCell ⟨w1.heap.size, 0, none⟩ (.int .i64 60)) (fun k => k = w1.heap.size) := Kept.of hg (fun k hk => by cases hk; rfl)
    refine ⟨rfl, n', B', h1, h2.others hk2 (fun k hb e => ?_), ((Step2.grown A B hgw4).trans h3).cell (by omega), h4, fun k hb => Nat.lt_of_lt_of_le (h5 k hb) hg.size⟩
    subst e
    exact (hold2 _ (by omega)).2 (h3.oldB _ (by rw [hz4]; omega) hb)
  by_cases hne : recs = []
  · subst hne
    have hk0 : kn = 0 := by simpa using hkn.symm
    subst hk0
    refine w_frames0 p ka kc w _ ?_ (fun e w1 hp => ⟨60, hp.1⟩)
    have hs1 : (w.alloc (.cells #[.pointer (some ⟨p, 0, none⟩)] 65)).heap.size = w.heap.size + 1 := Array.size_push _
    have hgr : w.grownBy ((w.alloc (.cells #[.pointer (some ⟨p, 0, none⟩)] 65)).alloc (.cells #[.slice none 0 0] 37)) none := (World.grownBy_alloc w _ none).trans (World.grownBy_alloc _ _ none)
    refine key _ (.slice none 0 0) hgr ((row1 w (.pointer (some ⟨p, 0, none⟩)) 65).alloc _) ?_ (fun w2 hg2 => ?_)
    · have := row1 (w.alloc (.cells #[.pointer (some ⟨p, 0, none⟩)] 65)) (.slice none 0 0) 37
      rw [hs1] at this
      exact this
    · exact x_appendN base d mb n x B (newN dir) w2 (DV.kept h.disk (hgr.trans hg2)) hok hnm hn hnew (Nat.le_trans hb (hgr.trans hg2).size)
  · refine w_frames p 0 0 ka kn kc ts recs w hk hkn hlen hk4 _ (fun w1 hF => ?_) (fun e w1 hp => ⟨60, hp.1⟩)
    obtain ⟨⟨fa, fc, hrow, hso⟩, hby, hgr, hold, hhd⟩ := hF
    have hpos : logB frameR recs ≠ [] := by
      cases recs with
      | nil => exact absurd rfl hne
      | cons r rs =>
        rw [logB_cons]
        intro e
        have h1 := framing.pos r
        have h2 := (List.append_eq_nil_iff.1 e).1
        rw [h2] at h1
        simp at h1
    obtain ⟨ad, rfl⟩ : ∃ ad, fa = some ad := by
      cases fa with
      | some ad => exact ⟨ad, rfl⟩
      | none => exact absurd hso.rd.none hpos
    have hadb := (hso.block ad.block rfl).1
    refine key w1 (.slice (some ad) (logB frameR recs).length fc) hgr hhd hrow (fun w2 hg2 => ?_)
    have had : ¬ B ad.block := (hold2 _ (by omega)).2
    exact x_append base d mb n x B (newN dir) ad (logB frameR recs) (logB frameR recs).length fc w2 (DV.kept h.disk (hgr.trans hg2)) hok hnm hn (hso.rd.grown hg2 (by simp)) rfl hby (by rw [e0]; simpa using hlen) (Nat.le_trans hb (hgr.trans hg2).size) (fun e => had (e ▸ hBm)) (fun e => had (e ▸ hBd))
end Go.Proofs.YtgpgkpciajajcaaGreatDoor

/- What Cut comes to, on a disk that may be armed. (No program's numbers.) -/
namespace Go.Proofs.YtgpgkpciajajcaaGreatDoor
open Go.RowKit Go.Maps Go.Sort
set_option linter.unusedVariables false
set_option maxRecDepth 20000

theorem segs_nodup {dir : ByteArray} {segs : List Nat} (h : Rising segs) : (segs.map (segN dir)).Nodup :=
  (rising_map h (segN dir) (fun k j hj hk => seg_lt dir hj hk)).imp (fun hab => ba_ne hab)
/-- Old segments go. -/
theorem old_del {x : DSt} {dir : ByteArray} {q : Nat × List (List Int)} {segs : List Nat} (h : OldLog x.V dir q segs) (hdir : dirB dir = true) (hc : x.Calm) (hw : x.wn + segs.length ≤ 999999980) : DelOk x (segs.map (segN dir)) ∧ (delAll x (segs.map (segN dir))).Calm ∧ (delAll x (segs.map (segN dir))).wn = x.wn + segs.length ∧ Log (delAll x (segs.map (segN dir))).V dir (some q) [] := by
  have hm := h.folder.mem
  obtain ⟨d1, d2, d3, d4⟩ := del_all (segs.map (segN dir)) x hc (by rw [List.length_map]; omega) (segs_nodup h.folder.segr) (fun s hs => by
    obtain ⟨k, hk, rfl⟩ := List.mem_map.1 hs
    exact ⟨((hm _).2 (by unfold namesL; simp; exact .inr ⟨k, hk, rfl⟩)).1, seg_name hdir k⟩)
  have hncp : cpN dir q.1 ∉ segs.map (segN dir) := fun hin => by
    obtain ⟨k, _, e⟩ := List.mem_map.1 hin
    exact cp_ne_seg dir _ _ e.symm
  obtain ⟨_, ⟨syn, h2⟩, h3, h4⟩ := h.cp
  refine ⟨d1, d2, by rw [d3, List.length_map], ⟨⟨h.folder.cpr, ⟨by simp, fun k hk => by cases hk⟩, fun s => ?_⟩, ⟨rfl, ⟨syn, by rw [(d4 _).2 hncp]; exact h2⟩, h3, h4⟩, fun p hp => (by cases hp), fun p hp => (by cases hp), h4⟩⟩
  have e0 : namesL dir (cpNums (some q)) false (List.map Prod.fst ([] : Sg)) = [cpN dir q.1] := by simp [namesL, cpNums]
  have e1 : namesL dir [q.1] false segs = cpN dir q.1 :: segs.map (segN dir) := by simp [namesL]
  have hms := hm s
  rw [e1, List.mem_cons] at hms
  rw [e0, List.mem_singleton]
  constructor
  · rintro ⟨h5, h6⟩
    by_cases hin : s ∈ segs.map (segN dir)
    · rw [(d4 s).1 hin] at h5; cases h5
    · rw [(d4 s).2 hin] at h5
      exact (hms.1 ⟨h5, h6⟩).resolve_right hin
  · intro e
    subst e
    exact ⟨by rw [(d4 _).2 hncp, h2]; rfl, cp_in dir _⟩
/-- Files that go, one behind the other, on a disk that may be armed. -/
theorem del_armed : ∀ (l : List ByteArray) (x : DSt), x.off = false → x.ok → x.wn + l.length ≤ 999999980 → l.Nodup → (∀ s ∈ l, (x.V s).isSome = true ∧ nameB s = true) →
    (DelOk x l ∧ (delAll x l).off = false ∧ (delAll x l).ok ∧ (delAll x l).wn = x.wn + l.length ∧ ∀ t, (t ∈ l → (delAll x l).V t = none) ∧ (t ∉ l → (delAll x l).V t = x.V t)) ∨
    ∃ (j : Nat) (s : ByteArray) (kp wn : Int) (V : Cont), l[j]? = some s ∧ DelOk x (l.take j) ∧ (delAll x (l.take j)).ok ∧ (delAll x (l.take j)).delete s = (60, ⟨true, false, 0, 0, wn, lostV kp V⟩) ∧ x.wn ≤ wn ∧ wn ≤ x.wn + l.length ∧ ∀ t, (t ∈ l.take j → V t = none) ∧ (t ∉ l.take j → V t = x.V t)
  | [], x, hon, hok, _, _, _ => .inl ⟨trivial, hon, hok, by simp [delAll], fun t => ⟨fun h => absurd h (by simp), fun _ => rfl⟩⟩
  | s :: l, x, hon, hok, hw, hn, hs => by
    obtain ⟨h1, h2⟩ := hs s (by simp)
    obtain ⟨q, hq⟩ := Option.isSome_iff_exists.1 h1
    have hdel : x.delete s = x.wr false (setV x.V s none) := by
      unfold DSt.delete
      rw [hon, hq]
      rfl
    have hlen : ((s :: l).length : Int) = l.length + 1 := by simp
    rw [hlen] at hw ⊢
    rw [List.nodup_cons] at hn
    rcases wr_cases x hon hok (by omega) false (setV x.V s none) with ⟨y, e, y1, y2, y3, y4⟩ | e
    · have hd : x.delete s = (0, y) := hdel.trans e
      have hdA : ∀ l', delAll x (s :: l') = delAll y l' := fun l' => by show delAll (x.delete s).2 l' = _; rw [hd]
      have ih := del_armed l y y2 y3 (by omega) hn.2 (fun t ht => by
        have hne : t ≠ s := fun e => hn.1 (by rw [← e]; exact ht)
        refine ⟨?_, (hs t (by simp [ht])).2⟩
        rw [y1, setV_other _ _ hne]
        exact (hs t (by simp [ht])).1)
      rcases ih with ⟨i1, i2, i3, i4, i5⟩ | ⟨j, s', kp, wn, V, i1, i2, i3, i4, i5, i6, i7⟩
      · left
        rw [hdA]
        refine ⟨⟨by rw [hd], hok, h2, by rw [hd]; exact i1⟩, i2, i3, by omega, fun t => ⟨fun ht => ?_, fun ht => ?_⟩⟩
        · by_cases htl : t ∈ l
          · exact (i5 t).1 htl
          · have hts : t = s := by simpa [htl] using ht
            rw [(i5 t).2 htl, hts, y1]
            exact setV_same _ _ _
        · simp only [List.mem_cons, not_or] at ht
          rw [(i5 t).2 ht.2, y1]
          exact setV_other _ _ ht.1
      · right
        refine ⟨j + 1, s', kp, wn, V, by simpa using i1, ?_, ?_, ?_, by omega, by omega, fun t => ⟨fun ht => ?_, fun ht => ?_⟩⟩
        · rw [List.take_succ_cons]
          exact ⟨by rw [hd], hok, h2, by rw [hd]; exact i2⟩
        · rw [List.take_succ_cons, hdA]; exact i3
        · rw [List.take_succ_cons, hdA]; exact i4
        · rw [List.take_succ_cons] at ht
          by_cases htl : t ∈ l.take j
          · exact (i7 t).1 htl
          · have hts : t = s := by simpa [htl] using ht
            rw [(i7 t).2 htl, hts, y1]
            exact setV_same _ _ _
        · rw [List.take_succ_cons] at ht
          simp only [List.mem_cons, not_or] at ht
          rw [(i7 t).2 ht.2, y1]
          exact setV_other _ _ ht.1
    · right
      exact ⟨0, s, x.kp, x.wn + 1, x.V, rfl, trivial, hok, hdel.trans e, by omega, by omega, fun t => ⟨fun h => absurd h (by simp), fun _ => rfl⟩⟩
end Go.Proofs.YtgpgkpciajajcaaGreatDoor

/- What Cut comes to: the cases. (No program's numbers.) -/
namespace Go.Proofs.YtgpgkpciajajcaaGreatDoor
open Go.RowKit Go.Maps Go.Sort
set_option linter.unusedVariables false
set_option maxRecDepth 20000

/-- All segments are synced whole. -/
def AllSy (V : Cont) (dir : ByteArray) (Ls : Sg) : Prop := ∀ q ∈ Ls, V (segN dir q.1) = some (logB frameR q.2, (logB frameR q.2).length)
/-- What stands behind a Cut in which the power went, or behind one that was done and a power cut. -/
def CutV (V : Cont) (dir : ByteArray) (Ls : Sg) (recs : List (List Int)) : Prop := DraftLog V dir Ls ∨ ∃ segs, OldLog V dir (openN none Ls, recs) segs ∧ segs.length ≤ Ls.length
def LostCut (y : DSt) (x : DSt) (dir : ByteArray) (Ls : Sg) (recs : List (List Int)) : Prop := ∃ V wn, y = ⟨true, false, 0, 0, wn, V⟩ ∧ x.wn ≤ wn ∧ wn ≤ x.wn + 3 + Ls.length ∧ CutV V dir Ls recs
inductive CutCase (x : DSt) (dir : ByteArray) (Ls : Sg) (recs : List (List Int)) : Prop
  | p1 (y : DSt) (ey : x.append (newN dir) (logB frameR recs) = (60, y)) (hl : LostCut y x dir Ls recs) : CutCase x dir Ls recs
  | p2 (x1 : DSt) (ex1 : x.append (newN dir) (logB frameR recs) = (0, x1)) (hok1 : x1.ok) (y : DSt) (ey : x1.sync (newN dir) = (60, y)) (hl : LostCut y x dir Ls recs) : CutCase x dir Ls recs
  | p3 (x1 : DSt) (ex1 : x.append (newN dir) (logB frameR recs) = (0, x1)) (hok1 : x1.ok) (x2 : DSt) (ex2 : x1.sync (newN dir) = (0, x2)) (hok2 : x2.ok) (y : DSt) (ey : x2.rename (newN dir) (cpN dir (openN none Ls)) = (60, y)) (hl : LostCut y x dir Ls recs) : CutCase x dir Ls recs
  | del (x1 : DSt) (ex1 : x.append (newN dir) (logB frameR recs) = (0, x1)) (hok1 : x1.ok) (x2 : DSt) (ex2 : x1.sync (newN dir) = (0, x2)) (hok2 : x2.ok) (x3 : DSt) (ex3 : x2.rename (newN dir) (cpN dir (openN none Ls)) = (0, x3)) (j kj : Nat) (hj : (Ls.map Prod.fst)[j]? = some kj) (hdel : DelOk x3 (((Ls.map Prod.fst).take j).map (segN dir))) (hok3 : (delAll x3 (((Ls.map Prod.fst).take j).map (segN dir))).ok) (y : DSt) (ey : (delAll x3 (((Ls.map Prod.fst).take j).map (segN dir))).delete (segN dir kj) = (60, y)) (hl : LostCut y x dir Ls recs) : CutCase x dir Ls recs
  | done (x1 : DSt) (ex1 : x.append (newN dir) (logB frameR recs) = (0, x1)) (hok1 : x1.ok) (x2 : DSt) (ex2 : x1.sync (newN dir) = (0, x2)) (hok2 : x2.ok) (x3 : DSt) (ex3 : x2.rename (newN dir) (cpN dir (openN none Ls)) = (0, x3)) (hdel : DelOk x3 ((Ls.map Prod.fst).map (segN dir))) (hon : (delAll x3 ((Ls.map Prod.fst).map (segN dir))).off = false) (hok : (delAll x3 ((Ls.map Prod.fst).map (segN dir))).ok) (hwn : x.wn ≤ (delAll x3 ((Ls.map Prod.fst).map (segN dir))).wn ∧ (delAll x3 ((Ls.map Prod.fst).map (segN dir))).wn ≤ x.wn + 3 + Ls.length) (hl : ∀ keep, OldLog (lostV keep (delAll x3 ((Ls.map Prod.fst).map (segN dir))).V) dir (openN none Ls, recs) []) : CutCase x dir Ls recs
end Go.Proofs.YtgpgkpciajajcaaGreatDoor

/- Package wal: mend and Open, where a draft stands beside a whole log with a checkpoint. -/
namespace Go.Proofs.YtgpgkpciajajcaaGreatDoor
open Go.RowKit Go.Maps Go.Sort
set_option linter.unusedVariables false
set_option maxRecDepth 20000

/-- A folder of a whole log, and a draft. -/
structure DraftK (V : Cont) (dir : ByteArray) (K : Kp) (Ls : Sg) : Prop where
  folder : Folder V dir (cpNums K) true (Ls.map Prod.fst)
  cp : CpIs V dir (cpName dir K) K
  whole : Whole V dir Ls
  above : ∀ q ∈ Ls, lastN K < q.1
  big : lastN K < 100000000
  draft : ∃ q, V (newN dir) = some q
set_option maxHeartbeats 16000000 in
theorem w_mendAK (base d mb n : Nat) (dir : ByteArray) (x : DSt) (B : Nat → Prop) (K : Kp) (Ls : Sg) (w W0 : World) (p : Nat) (hdir : dirB dir = true) (ht : Tab W0) (hMI : MendIn w W0 p d dir) (hd : DS W0 base d mb n x B) (hlp : ∀ k, B k → k < p) (hcalm : x.Calm) (hn : n < 1048576) (hlog : DraftK x.V dir K Ls) (hfar : ∀ g, Tryz.prog.globalNamed "internal/strconv.uint64pow10" = some g → ¬ B g) (hsz : (cpRecs K ++ recsOf Ls).length ≤ 4194304) (hln : Ls.length ≤ 4194304) :
    Calls Tryz.prog 121 #[.pointer (some ⟨p, 0, none⟩)] W0 fun e w' => ∃ v : Sl, e = .returned (slV v) ∧ TornMendL base d mb (n - 2) (x.delete (newN dir)).2 dir K Ls B W0 p v w' ∧ ∀ k, p < k → k < W0.heap.size → w'.heap[k]? = W0.heap[k]? := by
  have h := hMI.row
  have hon := hcalm.on
  have hltB : ∀ k, B k → k < W0.heap.size := fun k hk => Nat.lt_trans (hlp k hk) h.lt
  have hBp : ¬ B p := fun hk => Nat.lt_irrefl _ (hlp p hk)
  have hds : dir.size ≤ 32 := by simp only [dirB, Bool.and_eq_true, decide_eq_true_eq] at hdir; exact hdir.2
  have hnm := new_name hdir
  obtain ⟨qd, hqd⟩ := hlog.draft
  have hdel := calm_del x hcalm (newN dir) qd hqd
  have HLK : Hid (Calls Tryz.prog 149 #[.pointer (some ⟨p, 0, none⟩)] W0 (LookOut W0 (cpNums K) (Ls.map Prod.fst) true)) := w_look base p d mb n dir ⟨#[]⟩ (.slice none 0 0) 0 x B (cpNums K) (Ls.map Prod.fst) true W0 hdir h hd hon hlog.folder (by omega) (fun k hk => by obtain ⟨q, hq, rfl⟩ := List.mem_map.1 hk; exact Nat.lt_of_le_of_lt (Nat.zero_le _) (hlog.above q hq))
  have HW : Hid (WRow W0 p d dir ⟨#[]⟩ (.slice none 0 0) 0) := h
  have HD : Hid (DS W0 base d mb n x B) := hd
  have HT : Hid (Tab W0) := ht
  have HB : Hid (¬ B p) := hBp
  have HLTB : Hid (∀ k, B k → k < W0.heap.size) := hltB
  have HLP : Hid (∀ k, B k → k < p) := hlp
  have HDIR : Hid (dirB dir = true) := hdir
  have HLOG : Hid (DraftK x.V dir K Ls) := hlog
  have HCALM : Hid x.Calm := hcalm
  have HDEL : Hid (x.delete (newN dir) = (0, { x with wn := x.wn + 1, V := setV x.V (newN dir) none })) := hdel
  have eLs : (Ls.map Prod.fst).length = Ls.length := List.length_map _
  have HFAR : Hid (∀ g, Tryz.prog.globalNamed "internal/strconv.uint64pow10" = some g → ¬ B g) := hfar
  have HD0 := fun w => w_done0 w
  clear hfar
  clear h hd ht hBp hdir hlog hltB hlp hcalm hdel hqd hMI
  go_enter Tryz.func121, Tryz.ntmps121
  go_wp2_with fail
  refine HLK.out.mono ?_
  rintro e w1 ⟨a0, k0, a1, k1, b1, rfl, ho0, ho1, hb0, hb1, hg1, hnil⟩
  rw [eLs] at ho1 ⊢
  obtain ⟨C, eC⟩ : ∃ C, C = (cpNums K).length := ⟨_, rfl⟩
  rw [← eC] at ho0 ⊢
  have EC : Hid (C = (cpNums K).length) := eC
  clear eC
  have hga : w1.grownBy (w1.alloc (.cells #[.slice a0 C k0, .slice a1 Ls.length k1, .bool true] 169)) none := World.grownBy_alloc w1 _ none
  have hza : (w1.alloc (.cells #[.slice a0 C k0, .slice a1 Ls.length k1, .bool true] 169)).heap.size = w1.heap.size + 1 := Array.size_push _
  have hgA := hg1.trans hga
  have hWA := HW.out.kept hgA (by simp)
  have xA0 := hWA.cells.1
  have hrowA : (w1.alloc (.cells #[.slice a0 C k0, .slice a1 Ls.length k1, .bool true] 169)).rowIs w1.heap.size 169 3 (lookF (.slice a0 C k0) (.slice a1 Ls.length k1) true) := World.rowIs_alloc w1 #[.slice a0 C k0, .slice a1 Ls.length k1, .bool true] 169 (lookF (.slice a0 C k0) (.slice a1 Ls.length k1) true) (three rfl rfl rfl)
  obtain ⟨wA, ewA⟩ : ∃ wA, wA = w1.alloc (.cells #[.slice a0 C k0, .slice a1 Ls.length k1, .bool true] 169) := ⟨_, rfl⟩
  have HEA : Hid (wA = w1.alloc (.cells #[.slice a0 C k0, .slice a1 Ls.length k1, .bool true] 169)) := ewA
  rw [← ewA] at hga hza hgA hWA xA0 hrowA
  have cA2 : wA.cell? ⟨w1.heap.size, 2, none⟩ = some (.bool true) := hrowA.cell (i := 2) (by omega)
  have HGA : Hid (W0.grownBy wA none) := hgA
  have HGD : Hid (wA.grownBy wA.drew none) := gb_drew (World.grownBy.refl _ _)
  have HDR : Hid (Calls Tryz.prog 150 #[.pointer (some ⟨p, 0, none⟩)] wA.drew fun e w' => e = .returned (.string (newN dir)) ∧ wA.drew = w') := w_draft p d dir ⟨#[]⟩ _ _ wA.drew (by omega) (hWA.kept HGD.out (by simp))
  have HDL : Hid (Calls Tryz.prog 141 #[.pointer (some ⟨d, 0, none⟩), .string (newN dir)] wA.drew fun e w' => e = .returned (.int .i64 0) ∧ ∃ n' B', n' ≤ n ∧ DS w' base d mb n' (x.delete (newN dir)).2 B' ∧ Step wA w' B B' ∧ w'.cell? ⟨p, 0, none⟩ = some (.pointer (some ⟨d, 0, none⟩))) := by
    refine (x_deleteN base d mb n x B (newN dir) wA.drew (DV.kept HD.out (hgA.trans HGD.out)) HCALM.out.ok hnm).mono ?_
    rintro e w' ⟨rfl, n', B', hn', hd', hst⟩
    have hst' : Step wA w' B B' := (Step.grown B HGD.out).trans hst
    refine ⟨by rw [HDEL.out], n', B', hn', hd', hst', ?_⟩
    have hW' : WRow w' p d dir ⟨#[]⟩ (.slice none 0 0) 0 := hWA.of_block (hst'.1.block p hWA.lt HB.out)
    exact hW'.cells.1
  have HO0 : Hid (SOwn intE 3 wA W0.heap.size (.slice a0 C k0) C (nI (cpNums K))) := SOwn.kept ho0 hga (by cases a0 <;> simp [Value.ownBlock])
  have HO1 : Hid (SOwn intE 3 wA b1 (.slice a1 Ls.length k1) Ls.length (nI (Ls.map Prod.fst))) := SOwn.kept ho1 hga (by cases a1 <;> simp [Value.ownBlock])
  have HWA : Hid (WRow wA p d dir ⟨#[]⟩ (.slice none 0 0) 0) := hWA
  have HROW : Hid (wA.rowIs w1.heap.size 169 3 (lookF (.slice a0 C k0) (.slice a1 Ls.length k1) true)) := hrowA
  have HNIL : Hid (Ls.map Prod.fst = [] → a1 = none ∧ k1 = 0) := hnil
  have HZ1 : Hid (W0.heap.size ≤ w1.heap.size ∧ wA.heap.size = w1.heap.size + 1) := ⟨hg1.size, hza⟩
  clear ho0 ho1 hb0 hg1 hnil HLK hga hgA hWA hza hrowA ewA
  unfold FolderV
  go_wp2_with fail
  rw [← HEA.out]
  go_region_held3 (fun W => W.cell? ⟨p, 0, none⟩ = some (.pointer (some ⟨d, 0, none⟩))) (go_keep) (first
    | (go_at_call 150; refine HDR.out.mono ?_; rintro e w2 ⟨rfl, rfl⟩)
    | (go_at_call 141; refine HDL.out.mono ?_; rintro e w2 ⟨rfl, n2, B2, hn2, hd2, hs2, x20⟩; have HD2 : Hid (DS w2 base d mb n2 (x.delete (newN dir)).2 B2) := hd2; have HS2 : Hid (Step wA w2 B B2) := hs2; clear hd2 hs2)
    | (go_at_call 103; refine (HD0 _).mono ?_; rintro e w3 ⟨rfl, rfl⟩))
  obtain ⟨x1, ex1⟩ : ∃ x1, x1 = (x.delete (newN dir)).2 := ⟨_, rfl⟩
  have hx1 : x1 = { x with wn := x.wn + 1, V := setV x.V (newN dir) none } := by rw [ex1, HDEL.out]
  have HX1 : Hid (x1 = (x.delete (newN dir)).2) := ex1
  rw [← ex1] at HD2
  have hnB : ∀ k, W0.heap.size ≤ k → ¬ B k := fun k hk hb => by have := HLTB.out k hb; omega
  have hz := HZ1.out
  have hW2 : WRow w2 p d dir ⟨#[]⟩ (.slice none 0 0) 0 := HWA.out.of_block (HS2.out.1.block p HWA.out.lt HB.out)
  have hrow2 := HROW.out.of_block (HS2.out.1.block _ HROW.out.lt (hnB _ hz.1))
  have l0 : w2.cell? ⟨w1.heap.size, 0, none⟩ = some (.slice a0 C k0) := hrow2.cell (i := 0) (by omega)
  have l1 : w2.cell? ⟨w1.heap.size, 1, none⟩ = some (.slice a1 Ls.length k1) := hrow2.cell (i := 1) (by omega)
  have l2 : w2.cell? ⟨w1.heap.size, 2, none⟩ = some (.bool true) := hrow2.cell (i := 2) (by omega)
  have hO0 := sown_keptK HO0.out HS2.out.1 (fun k hk => hnB k (HO0.out.block k hk).1)
  have hO1 := sown_keptK HO1.out HS2.out.1 (fun k hk => hnB k (Nat.le_trans hb1 (HO1.out.block k hk).1))
  have hT2 : Tab w2 := (HT.out.grown HGA.out).keptK HS2.out.1 HFAR.out
  have hpb : p < b1 := Nat.lt_of_lt_of_le HW.out.lt hb1
  have HDO : Hid (Calls Tryz.prog 151 #[.pointer (some ⟨p, 0, none⟩), FolderV (.slice a0 C k0) (.slice a1 Ls.length k1) true] w2 fun e w' => e = .returned (.int .i64 (lastN K : Int)) ∧ WRow w' p d dir (cpName dir K) (.slice a1 Ls.length k1) 0 ∧ w2.grownBy w' (some p)) := by
    have := w_dropOld p d dir (.slice none 0 0) 0 K (Ls.map Prod.fst) a0 a1 k0 k1 W0.heap.size b1 true w2 (by omega) hT2 HLOG.out.big hW2 (by rw [← EC.out]; exact hO0) (by rw [eLs]; exact hO1) HLOG.out.folder.segr.1 (fun k hk => by obtain ⟨q, hq, rfl⟩ := List.mem_map.1 hk; exact HLOG.out.above q hq) (by rw [eLs]; exact hln) HNIL.out hpb
    rw [eLs, ← EC.out] at this
    exact this
  have HO12 : Hid (SOwn intE 3 w2 b1 (.slice a1 Ls.length k1) Ls.length (nI (Ls.map Prod.fst))) := hO1
  have HT2 : Hid (Tab w2) := hT2
  have HW2 : Hid (WRow w2 p d dir ⟨#[]⟩ (.slice none 0 0) 0) := hW2
  have HNB : Hid (∀ k, W0.heap.size ≤ k → ¬ B k) := hnB
  clear hW2 hrow2 hO0 hO1 hT2 hnB ex1 HROW HDL HDR
  unfold FolderV at HDO
  go_wp2_with fail
  refine HDO.out.mono ?_
  rintro e w3 ⟨rfl, hW3, hg3⟩
  have hB2p : ¬ B2 p := fun hb => HB.out (HS2.out.2 p HWA.out.lt hb)
  have hO13 := SOwn.kept HO12.out hg3 (.inr (fun e => by have := (HO12.out.block _ e).1; omega))
  have hk3 : Kept w2 w3 (fun k => k = p) := Kept.of hg3 (fun k hk => by cases hk; rfl)
  have hL3 : LogAt w3 base d mb n2 x1 p dir (cpName dir K) (Ls.map Prod.fst) 0 (fun k => k = p ∨ ∃ y, a1 = some y ∧ k = y.block) (fun k => B2 k ∧ k < w2.heap.size) := by
    refine ⟨HD2.out.bound.others hk3 (fun k hb e => hB2p (e ▸ hb.1)), ⟨a1, k1, by rw [eLs]; exact hW3, by rw [eLs]; exact (IOwn.of hO13).base (Nat.zero_le _), .inl rfl, fun y hy => ⟨.inr ⟨y, hy, rfl⟩, fun e => ?_⟩⟩, ?_, fun k hb => Nat.lt_of_lt_of_le hb.2 hg3.size, ?_⟩
    · subst hy
      have := (HO1.out.block y.block rfl).1
      omega
    · rintro k (rfl | ⟨y, rfl, rfl⟩) hb
      · exact hB2p hb.1
      · have h1 := HO1.out.block y.block rfl
        exact HNB.out _ (Nat.le_trans hb1 h1.1) (HS2.out.2 _ h1.2 hb.1)
    · rintro k (rfl | ⟨y, rfl, rfl⟩)
      · exact hW3.lt
      · exact (hO13.block y.block rfl).2
  have HA : Hid (∀ k, (k = p ∨ ∃ y, a1 = some y ∧ k = y.block) → k = p ∨ W0.heap.size ≤ k) := by
    show ∀ k, _ → _
    rintro k (rfl | ⟨y, rfl, rfl⟩)
    · exact .inl rfl
    · exact .inr (Nat.le_trans hb1 (HO1.out.block y.block rfl).1)
  obtain ⟨A, eA⟩ : ∃ A : Nat → Prop, A = fun k => k = p ∨ ∃ y, a1 = some y ∧ k = y.block := ⟨_, rfl⟩
  obtain ⟨B3, eB3⟩ : ∃ B3 : Nat → Prop, B3 = fun k => B2 k ∧ k < w2.heap.size := ⟨_, rfl⟩
  rw [← eA, ← eB3] at hL3
  have HA : Hid (∀ k, A k → k = p ∨ W0.heap.size ≤ k) := by rw [eA]; exact HA.out
  have HB3 : Hid (∀ k, k < W0.heap.size → B3 k → B k) := fun k hk hb => by rw [eB3] at hb; exact HS2.out.2 k (Nat.lt_of_lt_of_le hk HGA.out.size) hb.1
  have hwhole : Whole x1.V dir Ls := by
    rw [hx1]
    intro q hq
    obtain ⟨⟨syn, h2⟩, h3, h4⟩ := HLOG.out.whole q hq
    exact ⟨⟨syn, by show setV _ _ _ _ = _; rw [setV_other _ _ (fun e => new_ne_seg dir q.1 e.symm)]; exact h2⟩, h3, h4⟩
  have hcpi : CpIs x1.V dir (cpName dir K) K := by
    have hc := HLOG.out.cp
    cases K with
    | none => exact hc
    | some q =>
      obtain ⟨_, ⟨syn, h2⟩, h3⟩ := hc
      refine ⟨rfl, ⟨syn, ?_⟩, h3⟩
      rw [hx1]
      show setV _ _ _ _ = _
      rw [setV_other _ _ (cp_ne_new dir q.1)]
      exact h2
  have HRA : Hid (Calls Tryz.prog 152 #[.pointer (some ⟨p, 0, none⟩)] w3 (AllOut w3 (cpRecs K ++ recsOf Ls))) := w_replayAll base p d mb n2 dir (cpName dir K) a1 k1 0 x1 B3 K Ls w3 HDIR.out (HT2.out.row HW2.out hg3) hW3 hO13.rd hL3.disk (by rw [hx1]; exact hon) hcpi hwhole hsz hln
  have HK3 : Hid (Kept W0 w3 (fun k => k = p ∨ B k)) := ((Kept.of HGA.out (X := fun k => k = p ∨ B k) (fun k hk => by cases hk)).trans HS2.out.1 (fun k _ hb => .inr hb)).trans hk3 (fun k _ e => .inl e)
  have HL3 : Hid (LogAt w3 base d mb n2 x1 p dir (cpName dir K) (Ls.map Prod.fst) 0 A B3) := hL3
  clear hcpi hL3 hW3 hg3 hO13 hk3 hB2p eA eB3 HDO HD2 HS2 HO0 HO1 HO12 HWA hx1 hwhole hz
  go_wp2_with fail
  refine HRA.out.mono ?_
  rintro e w4 ⟨rv, rfl, hA4⟩
  obtain ⟨m, hro⟩ := hA4.out
  have HRO : Hid (RecsOut w3 w4 (slV rv) m (cpRecs K ++ recsOf Ls)) := hro
  have hL4 := HL3.out.grown hA4.grown
  have hS4 : Step2 w3 w4 A B3 A B3 := Step2.grown A B3 hA4.grown
  obtain ⟨l0, el0⟩ : ∃ l0, l0 = lastN K := ⟨_, rfl⟩
  have HL0 : Hid (l0 = lastN K) := el0
  have hl8 : l0 < 100000000 := by rw [el0]; exact HLOG.out.big
  rw [← el0]
  clear el0
  have hLa := hL4.setOpen (l0 + 1) ((l0 : Int) + 1) (by omega)
  have HZ3 : Hid (W0.heap.size ≤ w3.heap.size) := HK3.out.size
  have HFIN : Hid (∀ w6 k, Kept w4 w6 (fun j => j = p) → LogAt w6 base d mb n2 x1 p dir (cpName dir K) (Ls.map Prod.fst) k A B3 → Step2 w3 w6 A B3 A B3 → k = openN K Ls → TornMendL base d mb (n - 2) (x.delete (newN dir)).2 dir K Ls B W0 p rv w6 ∧ ∀ j, p < j → j < W0.heap.size → w6.heap[j]? = W0.heap[j]?) := by
    intro w6 k hk46 hLb hS6 hop
    have hp3 : p < w3.heap.size := Nat.lt_of_lt_of_le HW.out.lt HZ3.out
    have hk06 : Kept W0 w6 (fun j => j = p ∨ B j) := HK3.out.trans hS6.kept (fun j hj hX => hX.elim (fun ha => (HA.out j ha).elim .inl (fun h => by omega)) (fun hb => .inr (HB3.out j hj hb)))
    obtain ⟨ts, t1, t2, t3, t4⟩ := HRO.out.keptK hk46 (fun j hj e => by omega)
    rw [HX1.out] at hLb
    exact ⟨⟨m, n2, A, B3, w3.heap.size, ⟨ts, t1, t2, t3, t4⟩, by omega, hop ▸ hLb, hk06, HA.out, fun j hj hb => HB3.out j hj (hS6.oldB j (Nat.lt_of_lt_of_le hj HZ3.out) hb), HZ3.out, fun j hj => hj.elim (HL3.out.ltA j) (HL3.out.ltB j)⟩, fun j h1 h2 => hk06.block j h2 (fun hX => hX.elim (fun e => by omega) (fun hb => by have := HLP.out j hb; omega))⟩
  obtain ⟨a4, k4, hW4, _, _, _⟩ := hL4.wal
  obtain ⟨a5, k5, hW5, hso5, _, hay5⟩ := hLa.1.wal
  rw [eLs] at hW4 hW5 hso5
  have y4 := hW4.cells.2.2.2.2
  have z4 := hW4.frozen 4
  have y5 := hW5.cells.2.2.2.1
  have x5 := hW5.cells.2.2.2.2
  have z5 := hW5.frozen 4
  have hka : Kept w4 (w4.setCell ⟨p, 4, none⟩ (.int .i64 ((l0 : Int) + 1))) (fun j => j = p) := Kept.of (gb_set rfl) (fun j hj => by cases hj; rfl)
  rcases Nat.eq_zero_or_pos Ls.length with h0 | hpos
  · have hnil : Ls = [] := List.eq_nil_of_length_eq_zero h0
    rw [h0] at y5
    have HF2 := HFIN.out _ _ hka hLa.1 (hS4.trans hLa.2) (by rw [hnil, HL0.out]; rfl)
    have HF2 : Hid (TornMendL base d mb (n - 2) (x.delete (newN dir)).2 dir K Ls B W0 p rv (w4.setCell ⟨p, 4, none⟩ (.int .i64 ((l0 : Int) + 1))) ∧ ∀ j, p < j → j < W0.heap.size → (w4.setCell ⟨p, 4, none⟩ (.int .i64 ((l0 : Int) + 1))).heap[j]? = W0.heap[j]?) := HF2
    clear hro hA4 hL4 hS4 hLa hW4 hW5 hso5 hay5 HRA HFIN hka
    go_wp2
    go_ret
    exact ⟨rv, rfl, HF2.out.1, HF2.out.2⟩
  · obtain ⟨L', eL'⟩ : ∃ L', Ls.length = L' + 1 := ⟨Ls.length - 1, by omega⟩
    obtain ⟨k, hk⟩ : ∃ k, (Ls.map Prod.fst)[Ls.length - 1]? = some k := ⟨_, List.getElem?_eq_getElem (by rw [eLs]; omega)⟩
    have HOP : Hid (k = openN K Ls) := by
      show _ = _
      unfold openN
      rw [List.getLast?_eq_getElem?, eLs, hk]
    have hLb := hLa.1.setOpen k (k : Int) rfl
    obtain ⟨b, off, rfl, hcell5⟩ := nI_cell hso5.rd hk
    rw [eL'] at y5
    rw [eL', show L' + 1 - 1 = L' from rfl] at hcell5
    have qL : (L' : Int) < (L' : Int) + 1 := by omega
    have hL4' : (L' : Int) ≤ 4194304 := by omega
    have HF2 : Hid (TornMendL base d mb (n - 2) (x.delete (newN dir)).2 dir K Ls B W0 p rv ((w4.setCell ⟨p, 4, none⟩ (.int .i64 ((l0 : Int) + 1))).setCell ⟨p, 4, none⟩ (.int .i64 (k : Int))) ∧ ∀ j, p < j → j < W0.heap.size → ((w4.setCell ⟨p, 4, none⟩ (.int .i64 ((l0 : Int) + 1))).setCell ⟨p, 4, none⟩ (.int .i64 (k : Int))).heap[j]? = W0.heap[j]?) := HFIN.out _ _ (Kept.of (gb_trans (gb_set rfl) (gb_set rfl) (fun j hj => .inr hj)) (fun j hj => by cases hj; rfl)) hLb.1 ((hS4.trans hLa.2).trans hLb.2) HOP.out
    clear hro hA4 hL4 hS4 hLa hLb hW4 hW5 hso5 hay5 hk HRA HFIN hka
    go_wp2
    go_ret
    exact ⟨rv, rfl, HF2.out.1, HF2.out.2⟩
theorem draft_names (dir : ByteArray) (cps segs : List Nat) (s : ByteArray) : s ∈ namesL dir cps true segs ↔ s = newN dir ∨ s ∈ namesL dir cps false segs := by
  unfold namesL
  simp only [if_true, Bool.false_eq_true, if_false, List.nil_append, List.mem_append, List.mem_singleton]
  constructor
  · rintro (h | h | h)
    · exact .inr (.inl h)
    · exact .inl h
    · exact .inr (.inr h)
  · rintro (h | h | h)
    · exact .inr (.inl h)
    · exact .inl h
    · exact .inr (.inr h)
theorem new_notin {dir : ByteArray} {cps segs : List Nat} (h : newN dir ∈ namesL dir cps false segs) : False := by
  unfold namesL at h
  simp only [Bool.false_eq_true, if_false, List.nil_append, List.mem_append, List.mem_map] at h
  rcases h with ⟨j, _, e⟩ | ⟨j, _, e⟩
  · exact cp_ne_new dir _ e
  · exact new_ne_seg dir _ e.symm
theorem draft_logK {x : DSt} {dir : ByteArray} {K : Kp} {Ls : Sg} (h : DraftK x.V dir K Ls) (hc : x.Calm) (hw : x.wn ≤ 999999980) : Log (x.delete (newN dir)).2.V dir K Ls ∧ (x.delete (newN dir)).2.Calm ∧ (x.delete (newN dir)).2.wn = x.wn + 1 := by
  obtain ⟨q, hq⟩ := h.draft
  rw [calm_del x hc _ q hq]
  refine ⟨?_, calm_next x hc (by omega) _, rfl⟩
  show Log (setV x.V (newN dir) none) dir K Ls
  refine ⟨⟨h.folder.cpr, h.folder.segr, fun s => ?_⟩, ?_, fun q hq => ?_, h.above, h.big⟩
  · have hm := h.folder.mem s
    rw [draft_names] at hm
    by_cases e : s = newN dir
    · subst e
      rw [setV_same]
      constructor
      · rintro ⟨h2, _⟩
        cases h2
      · intro h2
        exfalso
        exact new_notin h2
    · rw [setV_other _ _ e, hm]
      simp [e]
  · have hc := h.cp
    cases K with
    | none => exact hc
    | some q =>
      obtain ⟨_, ⟨syn, h2⟩, h3⟩ := hc
      exact ⟨rfl, ⟨syn, by rw [setV_other _ _ (cp_ne_new dir q.1)]; exact h2⟩, h3⟩
  · obtain ⟨⟨syn, h2⟩, h3, h4⟩ := h.whole q hq
    exact ⟨⟨syn, by rw [setV_other _ _ (fun e => new_ne_seg dir q.1 e.symm)]; exact h2⟩, h3, h4⟩
/-- Open, of a folder with a draft. -/
theorem s_openAK {W w : World} {d mb n : Nat} {x : DSt} {dir : ByteArray} {K : Kp} {Ls : Sg} {B : Nat → Prop} (hd : DS w W.heap.size d mb n x B) (hL : DraftK x.V dir K Ls) (hc : x.Calm) (hfrom : W.grownBy w none) (hlow : ∀ k, B k → W.heap.size ≤ k) (hltB : ∀ k, B k → k < w.heap.size) (ht : Tab W) (hdir : dirB dir = true) (hw : x.wn ≤ 999999980) (hn : n < 1048576) (hsz : (cpRecs K ++ recsOf Ls).length ≤ 4194304) (hln : Ls.length ≤ 4194304) :
    Calls Tryz.prog 80 #[.pointer (some ⟨d, 0, none⟩), .string dir] w fun e w' => ∃ (p : Nat) (v : Sl) (m lo n' : Nat) (x' : DSt) (A B' : Nat → Prop), e = .returned (.tuple #[.pointer (some ⟨p, 0, none⟩), slV v, .int .i64 0]) ∧ Se W w' d mb n' x' p dir K Ls A B' ∧ RecsLo lo w' (slV v) m (cpRecs K ++ recsOf Ls) ∧ n' ≤ n - 2 + 2 ∧ x'.wn = x.wn + 1 ∧ Kept w w' B ∧ (∀ k, k < w.heap.size → B' k → B k) ∧ w.heap.size ≤ lo ∧ (∀ k, A k ∨ B' k → k < lo) := by
  refine (w_openG d dir w hdir (fun W4 p v w5 => TornMendL W.heap.size d mb (n - 2) (x.delete (newN dir)).2 dir K Ls B W4 p v w5) (fun W4 p hMI => ?_)).mono ?_
  · exact w_mendAK W.heap.size d mb n dir x B K Ls w W4 p hdir (ht.grown (hfrom.trans hMI.grown)) hMI (DV.kept hd hMI.grown) (fun k hk => Nat.lt_of_lt_of_le (hltB k hk) hMI.new_) hc hn hL (fun g hg hb => by have h1 := hlow g hb; have h2 := ht.lt hg; omega) hsz hln
  · rintro e w' ⟨W4, p, v, w5, hMI, hT, rfl, rfl⟩
    obtain ⟨t1, t2, t3⟩ := draft_logK hL hc hw
    obtain ⟨m, lo, n', A, B', g1, g2, g3, g4, g5, g6⟩ := openG_se hMI hT t1 t2 hfrom hlow hltB ht
    exact ⟨p, v, m, lo, n', _, A, B', rfl, g1, g2, g3, t3, g4, g5, g6⟩
end Go.Proofs.YtgpgkpciajajcaaGreatDoor

