/- Several texts in one: Qa, Qb, Qc, Qd, Qe, Qf, Qg, Qh, Qi. -/
import Derived.Test.YtekejnjaiccnbaaGreatDoorNl
import Derived.Test.YtekejnjaiccnbaaGreatDoorNd
import Derived.Test.YtekejnjaiccnbaaGreatDoorNh
import Derived.Deep.RegionHeld3
/- Package wal: Cut, on a disk that may be armed. (Printed by mk_cutB.py.) -/
namespace Go.Proofs.YtekejnjaiccnbaaGreatDoor
open Go.RowKit Go.Maps Go.Sort
set_option linter.unusedVariables false
set_option maxRecDepth 20000

set_option maxHeartbeats 4000000 in
theorem w_cutPP (base d mb n : Nat) (x : DSt) (p : Nat) (dir cp : ByteArray) (segs : List Nat) (op : Nat) (A B : Nat → Prop) (fv : Value) (w : World) (hdir : dirB dir = true) (ht : Tab w) (h : LogAt w base d mb n x p dir cp segs op A B) (hop : op < 99999998) (y : DSt) (hpt : ∀ w1, w.grownBy w1 none → Calls Tryz.prog 100 #[.pointer (some ⟨p, 0, none⟩), .string (cpN dir op), fv] w1 fun e w' => e = .panicked (thrown 60) ∧ ∃ n' B', n' ≤ n + 2 ∧ LogAt w' base d mb n' y p dir cp segs op A B' ∧ Step2 w1 w' A B A B') :
    Calls Tryz.prog 58 #[.pointer (some ⟨p, 0, none⟩), fv] w fun e w' => e = .panicked (thrown 60) ∧ CutEnd w base d mb (n + 2) y A B w' := by
  have hds : dir.size ≤ 32 := by simp only [dirB, Bool.and_eq_true, decide_eq_true_eq] at hdir; exact hdir.2
  obtain ⟨a1, c, hW, _⟩ := h.wal
  have c4 := hW.cells.2.2.2.2
  have HCN : Hid (Calls Tryz.prog 99 #[.pointer (some ⟨p, 0, none⟩), .int .i64 (op : Int)] w fun e w' => e = .returned (.string (cpN dir op)) ∧ w.grownBy w' none) := w_cpoint p d dir cp _ _ op (by omega) w (by omega) ht hW
  have HPT : Hid (∀ w1, w.grownBy w1 none → Calls Tryz.prog 100 #[.pointer (some ⟨p, 0, none⟩), .string (cpN dir op), fv] w1 fun e w' => e = .panicked (thrown 60) ∧ CutEnd w base d mb (n + 2) y A B w') := fun w1 hg => by
    refine (hpt w1 hg).mono ?_
    rintro e w' ⟨rfl, n', B', h1, h2, h3⟩
    exact ⟨rfl, n', B', h1, h2.disk, (Step2.grown A B hg).trans h3, h2.apart, h2.ltB⟩
  clear h hW ht hdir hpt
  go_enter Tryz.func58, Tryz.ntmps58
  go_wp2_with fail
  refine HCN.out.mono ?_
  rintro e w1 ⟨rfl, hg1⟩
  have HG1 : Hid (w.grownBy w1 none) := hg1
  clear hg1
  go_wp2_with fail
  refine (HPT.out _ HG1.out).mono ?_
  rintro e w2 ⟨rfl, hce⟩
  have HCE : Hid (CutEnd w base d mb (n + 2) y A B w2) := hce
  clear hce
  unfold thrown
  go_wp2
  exact ⟨rfl, rfl, HCE.out⟩
set_option maxHeartbeats 4000000 in
theorem w_cut1Q (p q s : Nat) (fv : Value) (w : World) (P : World → Prop) (hq : w.cell? ⟨q, 0, none⟩ = some (.pointer (some ⟨p, 0, none⟩))) (hs : w.cell? ⟨s, 0, none⟩ = some fv) (hm : Calls Tryz.prog 58 #[.pointer (some ⟨p, 0, none⟩), fv] w fun e w' => e = .panicked (thrown 60) ∧ P w') :
    Calls Tryz.prog 57 #[.pointer (some ⟨q, 0, none⟩), .pointer (some ⟨s, 0, none⟩)] w fun e w' => e = .panicked (thrown 60) ∧ P w' := by
  have HM : Hid (Calls Tryz.prog 58 #[.pointer (some ⟨p, 0, none⟩), fv] w fun e w' => e = .panicked (thrown 60) ∧ P w') := hm
  clear hm
  go_enter Tryz.func57, Tryz.ntmps57
  go_wp2_with fail
  refine HM.out.mono ?_
  rintro e w1 ⟨rfl, hp⟩
  have HP : Hid (P w1) := hp
  clear hp HM
  unfold thrown
  go_wp2
  exact ⟨rfl, rfl, HP.out⟩
/-- Cut, by what cut does. -/
theorem w_cutCG (base d mb n : Nat) (x Z : DSt) (p : Nat) (dir cp : ByteArray) (segs : List Nat) (op : Nat) (A B : Nat → Prop) (ka : Option Addr) (kn kc : Nat) (ts : List Sl) (recs : List (List Int)) (w : World) (hdir : dirB dir = true) (h : LogAt w base d mb n x p dir cp segs op A B) (hok : x.ok) (hn : n < 1048576) (hnew : x.V (newN dir) = none) (hcut : ∀ W4 fv, w.grownBy W4 none → AppsTo W4 base d mb n x B (newN dir) fv (logB frameR recs) → Calls Tryz.prog 58 #[.pointer (some ⟨p, 0, none⟩), fv] W4 fun e w' => e = .returned (.tuple #[]) ∧ CutEnd W4 base d mb (n + 2) Z A B w') (hk : KeepIs w ka ts recs) (hkn : recs.length = kn) (hk4 : kn ≤ 4194304) (hlen : (logB frameR recs).length ≤ 4194304) (hb : base ≤ w.heap.size) :
    Calls Tryz.prog 23 #[.pointer (some ⟨p, 0, none⟩), .slice ka kn kc] w fun e w' => e = .returned (.int .i64 0) ∧ CutEnd w base d mb (n + 2) Z A B w' := by
  have hnm := new_name hdir
  have e0 : oldV x.V (newN dir) = ([], 0) := by unfold oldV; rw [hnew]; rfl
  have hBd : B d := by obtain ⟨F, G, _, _, hb⟩ := h.disk; exact hb d (.inl rfl)
  have hBm : B mb := by obtain ⟨F, G, _, _, hb⟩ := h.disk; exact hb mb (.inr (.inl rfl))
  have hold2 : ∀ k, w.heap.size ≤ k → ¬ A k ∧ ¬ B k := fun k hk => ⟨fun ha => by have := h.ltA k ha; omega, fun hb => by have := h.ltB k hb; omega⟩
  have key : ∀ (w1 : World) (fv : Value), w.grownBy w1 none → w1.rowIs w.heap.size 36 1 (fun _ => .pointer (some ⟨p, 0, none⟩)) → w1.rowIs (w.heap.size + 1) 27 1 (fun _ => fv) → AppsTo w1 base d mb n x B (newN dir) fv (logB frameR recs) → Calls Tryz.prog 43 #[.func (.func 57) #[] #[.pointer (some ⟨w.heap.size, 0, none⟩), .pointer (some ⟨w.heap.size + 1, 0, none⟩)]] w1 fun e w' => e = .returned (.int .i64 0) ∧ CutEnd w base d mb (n + 2) Z A B w' := by
    intro w1 fv hgr hhd hrow hap
    obtain ⟨W4, eW4⟩ : ∃ W4, W4 = w1.alloc (.cells #[.int .i64 0] 37) := ⟨_, rfl⟩
    have hg14 : w1.grownBy W4 none := by rw [eW4]; exact World.grownBy_alloc _ _ none
    have hgw4 := hgr.trans hg14
    have hz4 : W4.heap.size = w1.heap.size + 1 := by rw [eW4]; exact Array.size_push _
    have hs4 : W4.rowIs w1.heap.size 37 1 (fun _ => .int .i64 0) := by rw [eW4]; exact row1 w1 (.int .i64 0) 37
    have hsl := hrow.lt
    have HC := w_caught57 #[.pointer (some ⟨w.heap.size, 0, none⟩), .pointer (some ⟨w.heap.size + 1, 0, none⟩)] (fun w2 => CutEnd W4 base d mb (n + 2) Z A B w2) w1 (by
      rw [← eW4]
      refine (w_cut1 p w.heap.size (w.heap.size + 1) fv W4 (fun w2 => CutEnd W4 base d mb (n + 2) Z A B w2) (hg14.cell (hhd.cell (i := 0) (by omega)) (by simp)) (hg14.cell (hrow.cell (i := 0) (by omega)) (by simp)) (hcut W4 fv hgw4 (fun w2 hg2 => hap w2 (hg14.trans hg2)))).mono ?_
      rintro e w2 ⟨rfl, hce⟩
      refine ⟨rfl, hce, ?_⟩
      obtain ⟨n', B', _, _, h3, _⟩ := hce
      have hs5 := hs4.of_block (h3.kept.block _ hs4.lt (fun h => h.elim (hold2 _ (by omega)).1 (hold2 _ (by omega)).2))
      exact ⟨hs5.cell (i := 0) (by omega), hs5.frozen 0⟩)
    refine HC.mono ?_
    rintro e w3 ⟨rfl, w2, ⟨n', B', h1, h2, h3, h4, h5⟩, rfl⟩
    have hg : w2.grownBy (w2.setCell ⟨w1.heap.size, 0, none⟩ (.int .i64 0)) (some w1.heap.size) := gb_set rfl
    have hk2 : Kept w2 (w2.setCell ⟨w1.heap.size, 0, none⟩ (.int .i64 0)) (fun k => k = w1.heap.size) := Kept.of hg (fun k hk => by cases hk; rfl)
    refine ⟨rfl, n', B', h1, h2.others hk2 (fun k hb e => ?_), ((Step2.grown A B hgw4).trans h3).cell (by omega), h4, fun k hb => Nat.lt_of_lt_of_le (h5 k hb) hg.size⟩
    subst e
    exact (hold2 _ (by omega)).2 (h3.oldB _ (by rw [hz4]; omega) hb)
  by_cases hne : recs = []
  · subst hne
    have hk0 : kn = 0 := by simpa using hkn.symm
    subst hk0
    refine w_frames0 p ka kc w _ ?_ (fun e w1 hp => ⟨0, hp.1⟩)
    have hs1 : (w.alloc (.cells #[.pointer (some ⟨p, 0, none⟩)] 36)).heap.size = w.heap.size + 1 := Array.size_push _
    have hgr : w.grownBy ((w.alloc (.cells #[.pointer (some ⟨p, 0, none⟩)] 36)).alloc (.cells #[.slice none 0 0] 27)) none := (World.grownBy_alloc w _ none).trans (World.grownBy_alloc _ _ none)
    refine key _ (.slice none 0 0) hgr ((row1 w (.pointer (some ⟨p, 0, none⟩)) 36).alloc _) ?_ (fun w2 hg2 => ?_)
    · have := row1 (w.alloc (.cells #[.pointer (some ⟨p, 0, none⟩)] 36)) (.slice none 0 0) 27
      rw [hs1] at this
      exact this
    · exact x_appendN base d mb n x B (newN dir) w2 (DV.kept h.disk (hgr.trans hg2)) hok hnm hn hnew (Nat.le_trans hb (hgr.trans hg2).size)
  · refine w_frames p 0 0 ka kn kc ts recs w hk hkn hlen hk4 _ (fun w1 hF => ?_) (fun e w1 hp => ⟨0, hp.1⟩)
    obtain ⟨⟨fa, fc, hrow, hso⟩, hby, hgr, hold, hhd⟩ := hF
    have hpos : logB frameR recs ≠ [] := by
      cases recs with
      | nil => exact absurd rfl hne
      | cons r rs =>
        rw [logB_cons]
        intro e
        have h1 := framing.pos r
        have h2 := (List.append_eq_nil_iff.1 e).1
        rw [h2] at h1
        simp at h1
    obtain ⟨ad, rfl⟩ : ∃ ad, fa = some ad := by
      cases fa with
      | some ad => exact ⟨ad, rfl⟩
      | none => exact absurd hso.rd.none hpos
    have hadb := (hso.block ad.block rfl).1
    refine key w1 (.slice (some ad) (logB frameR recs).length fc) hgr hhd hrow (fun w2 hg2 => ?_)
    have had : ¬ B ad.block := (hold2 _ (by omega)).2
    exact x_append base d mb n x B (newN dir) ad (logB frameR recs) (logB frameR recs).length fc w2 (DV.kept h.disk (hgr.trans hg2)) hok hnm hn (hso.rd.grown hg2 (by simp)) rfl hby (by rw [e0]; simpa using hlen) (Nat.le_trans hb (hgr.trans hg2).size) (fun e => had (e ▸ hBm)) (fun e => had (e ▸ hBd))
/-- Cut, by what cut does. -/
theorem w_cutCQ (base d mb n : Nat) (x Z : DSt) (p : Nat) (dir cp : ByteArray) (segs : List Nat) (op : Nat) (A B : Nat → Prop) (ka : Option Addr) (kn kc : Nat) (ts : List Sl) (recs : List (List Int)) (w : World) (hdir : dirB dir = true) (h : LogAt w base d mb n x p dir cp segs op A B) (hok : x.ok) (hn : n < 1048576) (hnew : x.V (newN dir) = none) (hcut : ∀ W4 fv, w.grownBy W4 none → AppsTo W4 base d mb n x B (newN dir) fv (logB frameR recs) → Calls Tryz.prog 58 #[.pointer (some ⟨p, 0, none⟩), fv] W4 fun e w' => e = .panicked (thrown 60) ∧ CutEnd W4 base d mb (n + 2) Z A B w') (hk : KeepIs w ka ts recs) (hkn : recs.length = kn) (hk4 : kn ≤ 4194304) (hlen : (logB frameR recs).length ≤ 4194304) (hb : base ≤ w.heap.size) :
    Calls Tryz.prog 23 #[.pointer (some ⟨p, 0, none⟩), .slice ka kn kc] w fun e w' => e = .returned (.int .i64 60) ∧ CutEnd w base d mb (n + 2) Z A B w' := by
  have hnm := new_name hdir
  have e0 : oldV x.V (newN dir) = ([], 0) := by unfold oldV; rw [hnew]; rfl
  have hBd : B d := by obtain ⟨F, G, _, _, hb⟩ := h.disk; exact hb d (.inl rfl)
  have hBm : B mb := by obtain ⟨F, G, _, _, hb⟩ := h.disk; exact hb mb (.inr (.inl rfl))
  have hold2 : ∀ k, w.heap.size ≤ k → ¬ A k ∧ ¬ B k := fun k hk => ⟨fun ha => by have := h.ltA k ha; omega, fun hb => by have := h.ltB k hb; omega⟩
  have key : ∀ (w1 : World) (fv : Value), w.grownBy w1 none → w1.rowIs w.heap.size 36 1 (fun _ => .pointer (some ⟨p, 0, none⟩)) → w1.rowIs (w.heap.size + 1) 27 1 (fun _ => fv) → AppsTo w1 base d mb n x B (newN dir) fv (logB frameR recs) → Calls Tryz.prog 43 #[.func (.func 57) #[] #[.pointer (some ⟨w.heap.size, 0, none⟩), .pointer (some ⟨w.heap.size + 1, 0, none⟩)]] w1 fun e w' => e = .returned (.int .i64 60) ∧ CutEnd w base d mb (n + 2) Z A B w' := by
    intro w1 fv hgr hhd hrow hap
    obtain ⟨W4, eW4⟩ : ∃ W4, W4 = w1.alloc (.cells #[.int .i64 0] 37) := ⟨_, rfl⟩
    have hg14 : w1.grownBy W4 none := by rw [eW4]; exact World.grownBy_alloc _ _ none
    have hgw4 := hgr.trans hg14
    have hz4 : W4.heap.size = w1.heap.size + 1 := by rw [eW4]; exact Array.size_push _
    have hs4 : W4.rowIs w1.heap.size 37 1 (fun _ => .int .i64 0) := by rw [eW4]; exact row1 w1 (.int .i64 0) 37
    have hsl := hrow.lt
    have HC := w_caughtP57 #[.pointer (some ⟨w.heap.size, 0, none⟩), .pointer (some ⟨w.heap.size + 1, 0, none⟩)] 60 (fun w2 => CutEnd W4 base d mb (n + 2) Z A B w2) w1 (by
      rw [← eW4]
      refine (w_cut1Q p w.heap.size (w.heap.size + 1) fv W4 (fun w2 => CutEnd W4 base d mb (n + 2) Z A B w2) (hg14.cell (hhd.cell (i := 0) (by omega)) (by simp)) (hg14.cell (hrow.cell (i := 0) (by omega)) (by simp)) (hcut W4 fv hgw4 (fun w2 hg2 => hap w2 (hg14.trans hg2)))).mono ?_
      rintro e w2 ⟨rfl, hce⟩
      refine ⟨rfl, hce, ?_⟩
      obtain ⟨n', B', _, _, h3, _⟩ := hce
      have hs5 := hs4.of_block (h3.kept.block _ hs4.lt (fun h => h.elim (hold2 _ (by omega)).1 (hold2 _ (by omega)).2))
      exact ⟨hs5.cell (i := 0) (by omega), hs5.frozen 0⟩)
    refine HC.mono ?_
    rintro e w3 ⟨rfl, w2, ⟨n', B', h1, h2, h3, h4, h5⟩, rfl⟩
    have hg : w2.grownBy (w2.setCell ⟨w1.heap.size, 0, none⟩ (.int .i64 60)) (some w1.heap.size) := gb_set rfl
    have hk2 : Kept w2 (w2.setCell ⟨w1.heap.size, 0, none⟩ (.int .i64 60)) (fun k => k = w1.heap.size) := Kept.of hg (fun k hk => by cases hk; rfl)
    refine ⟨rfl, n', B', h1, h2.others hk2 (fun k hb e => ?_), ((Step2.grown A B hgw4).trans h3).cell (by omega), h4, fun k hb => Nat.lt_of_lt_of_le (h5 k hb) hg.size⟩
    subst e
    exact (hold2 _ (by omega)).2 (h3.oldB _ (by rw [hz4]; omega) hb)
  by_cases hne : recs = []
  · subst hne
    have hk0 : kn = 0 := by simpa using hkn.symm
    subst hk0
    refine w_frames0 p ka kc w _ ?_ (fun e w1 hp => ⟨60, hp.1⟩)
    have hs1 : (w.alloc (.cells #[.pointer (some ⟨p, 0, none⟩)] 36)).heap.size = w.heap.size + 1 := Array.size_push _
    have hgr : w.grownBy ((w.alloc (.cells #[.pointer (some ⟨p, 0, none⟩)] 36)).alloc (.cells #[.slice none 0 0] 27)) none := (World.grownBy_alloc w _ none).trans (World.grownBy_alloc _ _ none)
    refine key _ (.slice none 0 0) hgr ((row1 w (.pointer (some ⟨p, 0, none⟩)) 36).alloc _) ?_ (fun w2 hg2 => ?_)
    · have := row1 (w.alloc (.cells #[.pointer (some ⟨p, 0, none⟩)] 36)) (.slice none 0 0) 27
      rw [hs1] at this
      exact this
    · exact x_appendN base d mb n x B (newN dir) w2 (DV.kept h.disk (hgr.trans hg2)) hok hnm hn hnew (Nat.le_trans hb (hgr.trans hg2).size)
  · refine w_frames p 0 0 ka kn kc ts recs w hk hkn hlen hk4 _ (fun w1 hF => ?_) (fun e w1 hp => ⟨60, hp.1⟩)
    obtain ⟨⟨fa, fc, hrow, hso⟩, hby, hgr, hold, hhd⟩ := hF
    have hpos : logB frameR recs ≠ [] := by
      cases recs with
      | nil => exact absurd rfl hne
      | cons r rs =>
        rw [logB_cons]
        intro e
        have h1 := framing.pos r
        have h2 := (List.append_eq_nil_iff.1 e).1
        rw [h2] at h1
        simp at h1
    obtain ⟨ad, rfl⟩ : ∃ ad, fa = some ad := by
      cases fa with
      | some ad => exact ⟨ad, rfl⟩
      | none => exact absurd hso.rd.none hpos
    have hadb := (hso.block ad.block rfl).1
    refine key w1 (.slice (some ad) (logB frameR recs).length fc) hgr hhd hrow (fun w2 hg2 => ?_)
    have had : ¬ B ad.block := (hold2 _ (by omega)).2
    exact x_append base d mb n x B (newN dir) ad (logB frameR recs) (logB frameR recs).length fc w2 (DV.kept h.disk (hgr.trans hg2)) hok hnm hn (hso.rd.grown hg2 (by simp)) rfl hby (by rw [e0]; simpa using hlen) (Nat.le_trans hb (hgr.trans hg2).size) (fun e => had (e ▸ hBm)) (fun e => had (e ▸ hBd))
end Go.Proofs.YtekejnjaiccnbaaGreatDoor

/- Package wal: dropOld, where all segments are old. (Printed by mk_drop.py.) -/
namespace Go.Proofs.YtekejnjaiccnbaaGreatDoor
open Go.RowKit Go.Maps Go.Sort
set_option linter.unusedVariables false
set_option maxRecDepth 20000

set_option maxHeartbeats 4000000 in
theorem w_searchAll (base n c : Nat) (a : Option Addr) (segs : List Nat) (x : Nat) (w : World) (h : SOwn intE 3 w base (.slice a n c) n (nI segs)) (hs : segs.Pairwise (· < ·)) (hx : ∀ k ∈ segs, k < x) (hn : n ≤ 4194304) (h0 : n = 0 → a = none ∧ c = 0) :
    Calls Tryz.prog 121 #[.slice a n c, .int .i64 (x : Int)] w fun e w' => ∃ b, e = .returned (.tuple #[.int .i64 (n : Int), .bool b]) ∧ ∃ q, w' = w.drewN q := by
  have hlen := h.len
  rw [nI_len] at hlen
  rcases Nat.eq_zero_or_pos n with hz | hz
  · subst hz
    obtain ⟨rfl, rfl⟩ := h0 rfl
    exact w_searchNil x w
  · obtain ⟨b, off, rfl, hc⟩ := h.rd.at (by rw [nI_len]; omega)
    refine (Tryz.slices_BinarySearch_int b off n c (nI segs) (x : Int) w (by rw [nI_len]; omega) (by omega) (fun j hj => ?_) ?_).mono ?_
    · have := hc j _ 0 _ (List.getElem?_eq_getElem hj) rfl
      rw [show j * intE.size + 0 = j from Nat.mul_one j] at this
      rw [this, List.getD_eq_getElem?_getD, List.getElem?_eq_getElem hj]
      rfl
    · rw [List.take_of_length_le (by rw [nI_len]; omega)]
      unfold nI
      rw [List.pairwise_map]
      exact hs.imp (fun hab => by show (Int.ofNat _) ≤ Int.ofNat _; exact Int.ofNat_le.2 (Nat.le_of_lt hab))
    · rintro e w' ⟨rfl, q, rfl⟩
      refine ⟨(nI segs).contains (x : Int), ?_, q, rfl⟩
      rw [List.take_of_length_le (by rw [nI_len]; omega)]
      have : (nI segs).countP (fun z => decide (z < (x : Int))) = n := by
        rw [← hlen, ← nI_len segs, List.countP_eq_length]
        intro z hz
        obtain ⟨k, hk, rfl⟩ := List.mem_map.1 hz
        have := hx k hk
        simp
        omega
      rw [this]
theorem tail75e (w : World) (a : Option Addr) (M C : Nat) (h : M ≤ C) (hC : C ≤ 9223372036854775807) : ∃ a', (Instr.slice 75 (.slice a M C) (some (.int .i64 (M : Int))) none none).run Tryz.prog w = .ok (.slice a' 0 (C - M)) w ∧ (a' = a ∨ a' = a.map (·.add M)) := by
  rw [run_slice_l w 75 _ M C (by rw [elem75]; exact Tryz.underlying75) .i64 (M : Int) (by omega) (by omega), elem75, Tryz.sizeOf3]
  by_cases hC : C = M
  · subst hC
    exact ⟨a, by simp [sliced, Result.andThen], .inl rfl⟩
  · exact ⟨a.map (·.add M), by cases a <;> simp [sliced, Result.andThen, hC], .inr rfl⟩
set_option maxHeartbeats 8000000 in
theorem w_dropAll (base p d mb n : Nat) (dir : ByteArray) (v : Value) (op : Int) (x : DSt) (B : Nat → Prop) (q : Nat × List (List Int)) (segs : List Nat) (a0 a1 : Option Addr) (k0 k1 base0 b1 : Nat) (dr : Bool) (w : World) (hdir : dirB dir = true) (hds : dir.size ≤ 64) (ht : Tab w) (hk8 : lastN (some q) < 100000000) (h : WRow w p d dir ⟨#[]⟩ v op) (ho0 : SOwn intE 3 w base0 (.slice a0 (cpNums (some q)).length k0) (cpNums (some q)).length (nI (cpNums (some q)))) (ho1 : SOwn intE 3 w b1 (.slice a1 segs.length k1) segs.length (nI segs)) (hsg : segs.Pairwise (· < ·)) (hle : ∀ k ∈ segs, k ≤ q.1) (hn : segs.length ≤ 4194304) (h0 : segs = [] → a1 = none ∧ k1 = 0) (hpb : p < b1) (hd : DS w base d mb n x B) (hok : x.ok) (hdel : DelOk x (segs.map (segN dir))) (hBp : ¬ B p) (lb : Nat) (hBb : ∀ k, lb ≤ k → ¬ B k) (hlb : lb ≤ b1) (hbw : lb ≤ w.heap.size) (hfar : ∀ g, Tryz.prog.globalNamed "internal/strconv.uint64pow10" = some g → ¬ B g) :
    Calls Tryz.prog 93 #[.pointer (some ⟨p, 0, none⟩), FolderV (.slice a0 (cpNums (some q)).length k0) (.slice a1 segs.length k1) dr] w fun e w' => e = .returned (.int .i64 (lastN (some q) : Int)) ∧ ∃ a' n' B', WRow w' p d dir (cpName dir (some q)) (.slice a' 0 (k1 - segs.length)) op ∧ (a' = a1 ∨ a' = a1.map (·.add segs.length)) ∧ n' ≤ n ∧ DS w' base d mb n' (delAll x (segs.map (segN dir))) B' ∧ Kept w w' (fun k => k = p ∨ B k) ∧ (∀ k, k < w.heap.size → B' k → B k) := by
  obtain ⟨L, eL⟩ : ∃ L, L = segs.length := ⟨_, rfl⟩
  have EL : Hid (L = segs.length) := eL
  have hgB : w.grownBy (w.alloc (.cells #[.slice a0 (cpNums (some q)).length k0, .slice a1 L k1, .bool dr] 115)) none := World.grownBy_alloc w _ none
  have HGB : Hid (w.grownBy (w.alloc (.cells #[.slice a0 (cpNums (some q)).length k0, .slice a1 L k1, .bool dr] 115)) none) := hgB
  have hrow := World.rowIs_alloc w #[.slice a0 (cpNums (some q)).length k0, .slice a1 L k1, .bool dr] 115 (lookF (.slice a0 (cpNums (some q)).length k0) (.slice a1 L k1) dr) (three rfl rfl rfl)
  have HROW : Hid ((w.alloc (.cells #[.slice a0 (cpNums (some q)).length k0, .slice a1 L k1, .bool dr] 115)).rowIs w.heap.size 115 3 (lookF (.slice a0 (cpNums (some q)).length k0) (.slice a1 L k1) dr)) := hrow
  have f0 : (w.alloc (.cells #[.slice a0 (cpNums (some q)).length k0, .slice a1 L k1, .bool dr] 115)).cell? ⟨w.heap.size, 0, none⟩ = some (.slice a0 (cpNums (some q)).length k0) := HROW.out.cell (i := 0) (by omega)
  have f1 : (w.alloc (.cells #[.slice a0 (cpNums (some q)).length k0, .slice a1 L k1, .bool dr] 115)).cell? ⟨w.heap.size, 1, none⟩ = some (.slice a1 L k1) := HROW.out.cell (i := 1) (by omega)
  have HW : Hid (WRow (w.alloc (.cells #[.slice a0 (cpNums (some q)).length k0, .slice a1 L k1, .bool dr] 115)) p d dir ⟨#[]⟩ v op) := h.kept hgB (by simp)
  have HPW : Hid (p < w.heap.size) := h.lt
  rw [← eL] at ho1 hn
  have HO1 : Hid (SOwn intE 3 w b1 (.slice a1 L k1) L (nI segs)) := ho1
  have HLK : Hid (L ≤ k1) := (sown_cap ho1).1
  have HCM : Hid (k1 ≤ 9223372036854775807) := by
    show _ ≤ _
    rcases ho1.2 with ⟨h', _⟩ | ⟨g, cap, cur, h', _, _, _, k4, _⟩
    · injection h' with _ _ e
      omega
    · injection h' with _ _ e
      unfold maxLen at k4
      omega
  have HS : Hid (∀ W : World, w.grownBy W (some p) → Calls Tryz.prog 121 #[.slice a1 L k1, .int .i64 ((lastN (some q) : Int) + 1)] W fun e w' => ∃ b, e = .returned (.tuple #[.int .i64 (L : Int), .bool b]) ∧ ∃ q, w' = W.drewN q) := fun W hg => by
    have := w_searchAll b1 L k1 a1 segs (lastN (some q) + 1) W (SOwn.kept ho1 hg (.inr (fun e => by have := (ho1.block _ e).1; omega))) hsg (fun k hk => Nat.lt_succ_of_le (hle k hk)) hn (fun e => h0 (List.eq_nil_of_length_eq_zero (by rw [← eL]; exact e)))
    exact this
  have hsl0 : ∀ W : World, (Instr.slice 75 (.slice a1 L k1) none (some (.int .i64 (L : Int))) none).run Tryz.prog W = .ok (.slice a1 L k1) W := fun W => head75n W a1 L k1 L HLK.out HCM.out
  have HD : Hid (DS w base d mb n x B) := hd
  have HDEL : Hid (DelOk x (segs.map (segN dir))) := hdel
  have HBP : Hid (¬ B p) := hBp
  have HBB : Hid (∀ k, lb ≤ k → ¬ B k) := hBb
  have HFAR : Hid (∀ g, Tryz.prog.globalNamed "internal/strconv.uint64pow10" = some g → ¬ B g) := hfar
  have HT : Hid (Tab w) := ht
  have HWW : Hid (WRow w p d dir ⟨#[]⟩ v op) := h
  have HDIR : Hid (dirB dir = true) := hdir
  have HD0 := fun w => w_done0 w
  have HS8 : Hid (∀ k ∈ segs, k < 100000000) := fun k hk => Nat.lt_of_le_of_lt (hle k hk) hk8
  clear hd hdel hBp hBb hfar hdir
  rw [← eL]
  unfold FolderV
  clear h ho1 hsg hle h0 eL hgB hrow
  go_enter Tryz.func93, Tryz.ntmps93
  go_upto_if 17 with fail
  go_cut [5] from 6 (fun t5 wc => t5 = .int .i64 (lastN (some q) : Int) ∧ WRow wc p d dir (cpName dir (some q)) v op ∧ wc.cell? ⟨w.heap.size, 1, none⟩ = some (.slice a1 L k1) ∧ w.grownBy wc (some p))
  case first =>
    obtain ⟨b, off, rfl, hcell⟩ := nI_cell ho0.rd (l := cpNums (some q)) (i := 0) (k := q.1) rfl
    have hcell' := HGB.out.cell hcell (by simp)
    have hslc : ∀ W : World, (Instr.slice 75 (.slice (some ⟨b, off, none⟩) (cpNums (some q)).length k0) none (some (.int .i64 0)) none).run Tryz.prog W = .ok (.slice (some ⟨b, off, none⟩) 0 k0) W := fun W => head75 W _ _ k0
    rw [show (cpNums (some q)).length = 1 from rfl] at *
    rw [show decide (0 < 1) = true from rfl]
    have HCN : Hid (Calls Tryz.prog 99 #[.pointer (some ⟨p, 0, none⟩), .int .i64 (q.1 : Int)] (w.alloc (.cells #[.slice (some ⟨b, off, none⟩) 1 k0, .slice a1 L k1, .bool dr] 115)) fun e w' => e = .returned (.string (cpN dir q.1)) ∧ (w.alloc (.cells #[.slice (some ⟨b, off, none⟩) 1 k0, .slice a1 L k1, .bool dr] 115)).grownBy w' none) := w_cpoint p d dir ⟨#[]⟩ v op q.1 hk8 _ hds (ht.grown HGB.out) HW.out
    simp only [Nat.add_zero] at hcell'
    go_wp2_with fail
    refine HCN.out.mono ?_
    rintro e w2 ⟨rfl, hg2⟩
    have hW2 := HW.out.kept hg2 (by simp)
    have z2 := hW2.frozen 2
    have y2 : w2.cell? ⟨p, 2, none⟩ = some (.string ⟨#[]⟩) := hW2.cells.2.2.1
    have hr2 := HROW.out.of_block (hg2.block _ HROW.out.lt (by simp))
    have hr3 := hr2.setOther (a := ⟨p, 2, none⟩) (by have := HPW.out; show w.heap.size ≠ p; omega) (.string (cpN dir q.1))
    have g0 : (w2.setCell ⟨p, 2, none⟩ (.string (cpN dir q.1))).cell? ⟨w.heap.size, 0, none⟩ = some (.slice (some ⟨b, off, none⟩) 1 k0) := hr3.cell (i := 0) (by omega)
    have g1 : (w2.setCell ⟨p, 2, none⟩ (.string (cpN dir q.1))).cell? ⟨w.heap.size, 1, none⟩ = some (.slice a1 L k1) := hr3.cell (i := 1) (by omega)
    have HW3 : Hid (WRow (w2.setCell ⟨p, 2, none⟩ (.string (cpN dir q.1))) p d dir (cpN dir q.1) v op) := (hW2.set 2 (.string (cpN dir q.1))).congr (five rfl rfl rfl rfl rfl)
    have HG3 : Hid (w.grownBy (w2.setCell ⟨p, 2, none⟩ (.string (cpN dir q.1))) (some p)) := gb_trans (gb_any (HGB.out.trans hg2) _) (gb_set rfl) (fun k hk => .inr hk)
    clear hg2 hW2 hr2 hr3
    go_wp2_with fail
    go_loopw [36] (fun t36 wr => t36 = .int .i64 0 ∧ wr = w2.setCell ⟨p, 2, none⟩ (.string (cpN dir q.1))) (fun _ _ => 0)
    case atStart => exact ⟨rfl, rfl⟩
    case round =>
      obtain ⟨rfl, rfl⟩ := hrel
      go_wp2_with fail
      go_meet
      exact ⟨rfl, HW3.out, g1, HG3.out⟩
  case rest =>
    obtain ⟨rfl, hW, f1c, hgc⟩ := hcut
    have HS2 := HS.out wc hgc
    have HWc : Hid (WRow wc p d dir (cpName dir (some q)) v op) := hW
    have HGc : Hid (w.grownBy wc (some p)) := hgc
    clear hW hgc f0 f1
    go_wp2_with fail
    refine HS2.mono ?_
    rintro e w2 ⟨b, rfl, q2, rfl⟩
    obtain ⟨wd, ewd⟩ : ∃ wd, wd = wc.drewN q2 := ⟨_, rfl⟩
    have hgd : wc.grownBy wd none := by rw [ewd]; exact gb_drewN wc q2
    rw [← ewd]
    have f1d : wd.cell? ⟨w.heap.size, 1, none⟩ = some (.slice a1 L k1) := by rw [ewd]; exact f1c
    have hgwd : w.grownBy wd (some p) := gb_trans HGc.out (gb_any hgd _) (fun k hk => .inr hk)
    have HWD : Hid (WRow wd p d dir (cpName dir (some q)) v op) := HWc.out.kept hgd (by simp)
    have HKW : Hid (Kept w wd (fun k => k = p ∨ B k)) := Kept.of hgwd (fun k hk => by cases hk; exact .inl rfl)
    have HOD : Hid (SOwn intE 3 wd b1 (.slice a1 L k1) L (nI segs)) := SOwn.kept HO1.out hgwd (.inr (fun e => by have := (HO1.out.block _ e).1; omega))
    have HDD : Hid (DS wd base d mb n x B) := HD.out.others (Kept.of hgwd (X := fun k => k = p) (fun k hk => by cases hk; rfl)) (fun k hb e => HBP.out (e ▸ hb))
    have HTD : Hid (Tab wd) := HT.out.row HWW.out hgwd
    have HWZ : Hid (w.heap.size < wd.heap.size) := by
      rcases Nat.lt_or_ge w.heap.size wd.heap.size with h2 | h2
      · exact h2
      · exfalso
        unfold World.cell? at f1d
        simp only at f1d
        rw [Array.getElem?_eq_none h2] at f1d
        cases f1d
    clear ewd hgd hgwd
    go_wp2_with fail
    go_loopw [63] (fun t63 wr => ∃ (i n6 : Nat) (B6 : Nat → Prop), i ≤ L ∧ t63 = .int .i64 i ∧ n6 ≤ n ∧ DS wr base d mb n6 (delAll x ((segs.take i).map (segN dir))) B6 ∧ Kept wd wr B ∧ (∀ k, k < wd.heap.size → B6 k → B k)) (fun t63 _ => L - (intOf t63).toNat)
    case atStart => exact ⟨0, n, B, Nat.zero_le _, rfl, Nat.le_refl _, by simpa [delAll] using HDD.out, Kept.refl _ _, fun k _ hb => hb⟩
    case round =>
      obtain ⟨i, n6, B6, hi, rfl, hn6, hd6, hk6, hb6⟩ := hrel
      have HD6 : Hid (DS wr base d mb n6 (delAll x ((segs.take i).map (segN dir))) B6) := hd6
      have HK6 : Hid (Kept wd wr B) := hk6
      have HB6 : Hid (∀ k, k < wd.heap.size → B6 k → B k) := hb6
      have hW6 : WRow wr p d dir (cpName dir (some q)) v op := HWD.out.of_block (hk6.block p HWD.out.lt HBP.out)
      have HW6 : Hid (WRow wr p d dir (cpName dir (some q)) v op) := hW6
      have hO6 := sown_keptK HOD.out hk6 (fun k hk => HBB.out k (Nat.le_trans hlb (HOD.out.block k hk).1))
      have hT6 := HTD.out.keptK hk6 HFAR.out
      have f16 : wr.cell? ⟨w.heap.size, 1, none⟩ = some (.slice a1 L k1) := by
        unfold World.cell? at f1d ⊢
        simp only at f1d ⊢
        rw [hk6.block w.heap.size HWZ.out (HBB.out _ hbw)]
        exact f1d
      clear hd6 hk6 hb6
      by_cases hlt : i < L
      · have hii : (i : Int) < (L : Int) := by omega
        obtain ⟨k, hk⟩ : ∃ k, segs[i]? = some k := ⟨_, List.getElem?_eq_getElem (by rw [← EL.out]; exact hlt)⟩
        have hk8' := HS8.out k (List.mem_of_getElem? hk)
        have htk : (segs.take (i + 1)).map (segN dir) = (segs.take i).map (segN dir) ++ [segN dir k] := by rw [List.take_add_one, hk]; simp
        have HTK : Hid (delAll x ((segs.take (i + 1)).map (segN dir)) = ((delAll x ((segs.take i).map (segN dir))).delete (segN dir k)).2) := by show _ = _; rw [htk, delAll_snoc]
        have hdo : DelOk (delAll x ((segs.take i).map (segN dir))) ((segs.drop i).map (segN dir)) := by
          refine DelOk.app _ _ _ ?_
          rw [← List.map_append, List.take_append_drop]
          exact HDEL.out
        have hdrop : segs.drop i = k :: segs.drop (i + 1) := by
          have h1 : i < segs.length := by rw [← EL.out]; exact hlt
          rw [List.drop_eq_getElem_cons h1]
          congr 1
          rw [List.getElem?_eq_getElem h1] at hk
          exact Option.some.inj hk
        rw [hdrop] at hdo
        obtain ⟨d1, d2, d3, _⟩ := hdo
        obtain ⟨b7, off7, rfl, hcell⟩ := nI_cell hO6.rd (l := segs) (i := i) (k := k) hk
        have x0 := hW6.cells.1
        have HGD : Hid (wr.grownBy wr.drew none) := gb_drew (World.grownBy.refl _ _)
        have HSG : Hid (Calls Tryz.prog 54 #[.pointer (some ⟨p, 0, none⟩), .int .i64 (k : Int)] wr.drew fun e w' => e = .returned (.string (segN dir k)) ∧ wr.drew.grownBy w' none) := w_segment p d dir (cpName dir (some q)) _ _ k hk8' _ hds (hT6.grown HGD.out) (hW6.kept HGD.out (by simp))
        have HDL : Hid (∀ w1, wr.grownBy w1 none → Calls Tryz.prog 91 #[.pointer (some ⟨d, 0, none⟩), .string (segN dir k)] w1 fun e w' => e = .returned (.int .i64 0) ∧ ∃ n' B', n' ≤ n6 ∧ DS w' base d mb n' (delAll x ((segs.take (i + 1)).map (segN dir))) B' ∧ Step wr w' B6 B' ∧ w'.cell? ⟨p, 0, none⟩ = some (.pointer (some ⟨d, 0, none⟩))) := fun w1 hg => by
          rw [HTK.out]
          refine (x_deleteN base d mb n6 _ B6 (segN dir k) w1 (DV.kept HD6.out hg) d2 d3).mono ?_
          rintro e w' ⟨rfl, n', B', hn', hd', hst⟩
          have hst' : Step wr w' B6 B' := (Step.grown B6 hg).trans hst
          refine ⟨by rw [d1], n', B', hn', hd', hst', ?_⟩
          have hW' : WRow w' p d dir (cpName dir (some q)) v op := HW6.out.of_block (hst'.1.block p HW6.out.lt (fun hb => HBP.out (HB6.out p HWD.out.lt hb)))
          exact hW'.cells.1
        clear hW6 hO6 hT6 htk hdrop d1 d2 d3 hk8' hk HTK
        go_wp2_with fail
        go_region_held3 (fun W => W.cell? ⟨p, 0, none⟩ = some (.pointer (some ⟨d, 0, none⟩))) (go_keep) (first
          | (go_at_call 54; refine HSG.out.mono ?_; rintro e w1 ⟨rfl, hg1⟩; have HG1 : Hid (wr.grownBy w1 none) := HGD.out.trans hg1; have x0' : w1.cell? ⟨p, 0, none⟩ = some (.pointer (some ⟨d, 0, none⟩)) := HG1.out.cell x0 (by simp); clear hg1)
          | (go_at_call 91; refine (HDL.out _ HG1.out).mono ?_; rintro e w5 ⟨rfl, n5, B5, hn5, hd5, hs5, x05⟩; have HD5 : Hid (DS w5 base d mb n5 (delAll x ((segs.take (i + 1)).map (segN dir))) B5) := hd5; have HS5 : Hid (Step wr w5 B6 B5) := hs5; clear hd5 hs5)
          | (go_at_call 52; refine (HD0 _).mono ?_; rintro e w6 ⟨rfl, rfl⟩))
        go_wp2
        go_roundw
        case rel => exact ⟨i + 1, n5, B5, by omega, by go_num, by omega, HD5.out, HK6.out.trans HS5.out.1 (fun k hk hb => HB6.out k hk hb), fun k hk hb => HB6.out k hk (HS5.out.2 k (Nat.lt_of_lt_of_le hk HK6.out.size) hb)⟩
        case measure => simp [intOf]; omega
      · have hii : ¬ (i : Int) < (L : Int) := by omega
        have hiL : i = L := by omega
        obtain ⟨a', hsl1, ha'⟩ := tail75e wr a1 L k1 HLK.out HCM.out
        have y3 := hW6.cells.2.2.2.1
        have z3 := hW6.frozen 3
        have hg3 : wr.grownBy (wr.setCell ⟨p, 3, none⟩ (.slice a' 0 (k1 - L))) (some p) := gb_set rfl
        have hk3 : Kept wr (wr.setCell ⟨p, 3, none⟩ (.slice a' 0 (k1 - L))) (fun k => k = p) := Kept.of hg3 (fun k hk => by cases hk; rfl)
        have HFIN : Hid (∃ a'' n' B', WRow (wr.setCell ⟨p, 3, none⟩ (.slice a' 0 (k1 - L))) p d dir (cpName dir (some q)) (.slice a'' 0 (k1 - L)) op ∧ (a'' = a1 ∨ a'' = a1.map (·.add L)) ∧ n' ≤ n ∧ DS (wr.setCell ⟨p, 3, none⟩ (.slice a' 0 (k1 - L))) base d mb n' (delAll x (segs.map (segN dir))) B' ∧ Kept w (wr.setCell ⟨p, 3, none⟩ (.slice a' 0 (k1 - L))) (fun k => k = p ∨ B k) ∧ (∀ k, k < w.heap.size → B' k → B k)) := by
          have hd := HD6.out
          rw [hiL, List.take_of_length_le (by rw [← EL.out]; exact Nat.le_refl _)] at hd
          exact ⟨a', n6, B6, (hW6.set 3 (.slice a' 0 (k1 - L))).congr (five rfl rfl rfl rfl rfl), ha', hn6, hd.others hk3 (fun k hb e => HBP.out (e ▸ HB6.out k (e ▸ HWD.out.lt) hb)), (HKW.out.trans HK6.out (fun k _ hb => .inr hb)).trans hk3 (fun k _ e => .inl e), fun k hk hb => HB6.out k (Nat.lt_of_lt_of_le hk HKW.out.size) hb⟩
        clear hW6 hO6 hT6 hg3 hk3 ha'
        go_wp2
        go_ret
        obtain ⟨a2, n2, B2, g1, g2, g3, g4, g5, g6⟩ := HFIN.out
        exact ⟨rfl, a2, g1, g2, n2, g3, B2, g4, g5, g6⟩
end Go.Proofs.YtekejnjaiccnbaaGreatDoor

/- Package wal: mend, where a checkpoint stands with old segments. -/
namespace Go.Proofs.YtekejnjaiccnbaaGreatDoor
open Go.RowKit Go.Maps Go.Sort
set_option linter.unusedVariables false
set_option maxRecDepth 20000

/-- A folder with a whole checkpoint, and segments of numbers up to its own. -/
structure OldLog (V : Cont) (dir : ByteArray) (q : Nat × List (List Int)) (segs : List Nat) : Prop where
  folder : Folder V dir [q.1] false segs
  cp : CpIs V dir (cpN dir q.1) (some q)
  pos : ∀ k ∈ segs, 0 < k
  le : ∀ k ∈ segs, k ≤ q.1
/-- What mend has made of it: no segment is left; the slice of their numbers is empty. -/
def OldMend (base d mb n : Nat) (x' : DSt) (dir : ByteArray) (q : Nat × List (List Int)) (B : Nat → Prop) (W : World) (p : Nat) (v : Sl) (w' : World) : Prop := ∃ (m n' : Nat) (B' : Nat → Prop) (lo : Nat) (a' : Option Addr) (c' : Nat), RecsLo lo w' (slV v) m q.2 ∧ n' ≤ n ∧ DS w' base d mb n' x' B' ∧ WRow w' p d dir (cpN dir q.1) (.slice a' 0 c') ((q.1 + 1 : Nat) : Int) ∧ (∀ y, a' = some y → W.heap.size ≤ y.block ∧ y.block < lo ∧ ¬ B' y.block ∧ y.spot = none ∧ ∃ cur, w'.heap[y.block]? = some (.cells cur 3 (0, 0)) ∧ y.off + c' ≤ cur.size) ∧ (a' = none → c' = 0) ∧ c' ≤ 9223372036854775807 ∧ Kept W w' (fun k => k = p ∨ B k) ∧ (∀ k, k < W.heap.size → B' k → B k) ∧ W.heap.size ≤ lo ∧ ∀ k, B' k → k < lo
theorem tail_facts {w : World} {b1 L k1 : Nat} {a1 : Option Addr} {l : List Int} (h : SOwn intE 3 w b1 (.slice a1 L k1) L l) {a' : Option Addr} (ha : a' = a1 ∨ a' = a1.map (·.add L)) : (∀ y, a' = some y → b1 ≤ y.block ∧ y.block < w.heap.size ∧ y.spot = none ∧ ∃ cur, w.heap[y.block]? = some (.cells cur 3 (0, 0)) ∧ y.off + (k1 - L) ≤ cur.size) ∧ (a' = none → k1 - L = 0) ∧ k1 - L ≤ 9223372036854775807 := by
  rcases h.2 with ⟨h', h0⟩ | ⟨g, cap, cur, h', g1, g2, g3, g4, g5, g6⟩
  · injection h' with e1 e2 e3
    subst e1 e3
    have e : a' = none := by rcases ha with e | e <;> exact e
    subst e
    exact ⟨fun y hy => (by cases hy), fun _ => by omega, by omega⟩
  · injection h' with e1 e2 e3
    subst e1 e3
    have hlt : g < w.heap.size := (Array.getElem?_eq_some_iff.1 g2).1
    unfold maxLen at g4
    have hsz : cur.size = k1 := by rw [g5]; exact Nat.mul_one _
    refine ⟨fun y hy => ?_, fun e => ?_, by omega⟩
    · rcases ha with e | e
      · rw [e] at hy
        cases hy
        exact ⟨g1, hlt, rfl, cur, g2, by show 0 + _ ≤ _; omega⟩
      · rw [e] at hy
        have e2 : y = ⟨g, L, none⟩ := by
          have h3 := Option.some.inj hy
          rw [← h3]
          simp [Addr.add]
          intro h
          exact h.symm
        subst e2
        exact ⟨g1, hlt, rfl, cur, g2, by show L + _ ≤ _; omega⟩
    · rcases ha with e' | e' <;> rw [e'] at e <;> cases e
set_option maxHeartbeats 16000000 in
theorem w_mendB (base d mb n : Nat) (dir : ByteArray) (x : DSt) (B : Nat → Prop) (q : Nat × List (List Int)) (segs : List Nat) (w W0 : World) (p : Nat) (hdir : dirB dir = true) (ht : Tab W0) (hMI : MendIn w W0 p d dir) (hd : DS W0 base d mb n x B) (hlp : ∀ k, B k → k < p) (hcalm : x.Calm) (hn : n < 1048576) (hlog : OldLog x.V dir q segs) (hdel : DelOk x (segs.map (segN dir))) (hcp2 : CpIs (delAll x (segs.map (segN dir))).V dir (cpN dir q.1) (some q)) (hon2 : (delAll x (segs.map (segN dir))).off = false) (hfar : ∀ g, Tryz.prog.globalNamed "internal/strconv.uint64pow10" = some g → ¬ B g ∧ g ≠ p) (hsz : q.2.length ≤ 4194304) (hln : segs.length ≤ 4194304) :
    Calls Tryz.prog 45 #[.pointer (some ⟨p, 0, none⟩)] W0 fun e w' => ∃ v : Sl, e = .returned (slV v) ∧ OldMend base d mb n (delAll x (segs.map (segN dir))) dir q B W0 p v w' ∧ ∀ k, p < k → k < W0.heap.size → w'.heap[k]? = W0.heap[k]? := by
  have h := hMI.row
  have hon := hcalm.on
  have hltB : ∀ k, B k → k < W0.heap.size := fun k hk => Nat.lt_trans (hlp k hk) h.lt
  have hBp : ¬ B p := fun hk => Nat.lt_irrefl _ (hlp p hk)
  have hds : dir.size ≤ 32 := by simp only [dirB, Bool.and_eq_true, decide_eq_true_eq] at hdir; exact hdir.2
  have hq8 : q.1 < 100000000 := hlog.cp.2.2.2
  have HLK : Hid (Calls Tryz.prog 90 #[.pointer (some ⟨p, 0, none⟩)] W0 (LookOut W0 [q.1] segs false)) := w_look base p d mb n dir ⟨#[]⟩ (.slice none 0 0) 0 x B [q.1] segs false W0 hdir h hd hon hlog.folder (by omega) hlog.pos
  have HW : Hid (WRow W0 p d dir ⟨#[]⟩ (.slice none 0 0) 0) := h
  have HD : Hid (DS W0 base d mb n x B) := hd
  have HT : Hid (Tab W0) := ht
  have HB : Hid (¬ B p) := hBp
  have HLTB : Hid (∀ k, B k → k < W0.heap.size) := hltB
  have HLP : Hid (∀ k, B k → k < p) := hlp
  have HDIR : Hid (dirB dir = true) := hdir
  have HLOG : Hid (OldLog x.V dir q segs) := hlog
  have HCALM : Hid x.Calm := hcalm
  have HDEL : Hid (DelOk x (segs.map (segN dir))) := hdel
  have HCP2 : Hid (CpIs (delAll x (segs.map (segN dir))).V dir (cpN dir q.1) (some q)) := hcp2
  have HFAR : Hid (∀ g, Tryz.prog.globalNamed "internal/strconv.uint64pow10" = some g → ¬ B g ∧ g ≠ p) := hfar
  clear h hd ht hBp hdir hlog hltB hlp hcalm hdel hcp2 hfar hMI
  go_enter Tryz.func45, Tryz.ntmps45
  go_wp2_with fail
  refine HLK.out.mono ?_
  rintro e w1 ⟨a0, k0, a1, k1, b1, rfl, ho0, ho1, hb0, hb1, hg1, hnil⟩
  have hga : w1.grownBy (w1.alloc (.cells #[.slice a0 1 k0, .slice a1 segs.length k1, .bool false] 115)) none := World.grownBy_alloc w1 _ none
  have hgw := hg1.trans hga
  have HGW : Hid (W0.grownBy (w1.alloc (.cells #[.slice a0 1 k0, .slice a1 segs.length k1, .bool false] 115)) none) := hgw
  have hpb : p < b1 := Nat.lt_of_lt_of_le HW.out.lt hb1
  have hs1 : SOwn intE 3 (w1.alloc (.cells #[.slice a0 1 k0, .slice a1 segs.length k1, .bool false] 115)) b1 (.slice a1 segs.length k1) segs.length (nI segs) := SOwn.kept ho1 hga (by cases a1 <;> simp [Value.ownBlock])
  have hs0 : SOwn intE 3 (w1.alloc (.cells #[.slice a0 1 k0, .slice a1 segs.length k1, .bool false] 115)) W0.heap.size (.slice a0 1 k0) 1 (nI [q.1]) := SOwn.kept ho0 hga (by cases a0 <;> simp [Value.ownBlock])
  obtain ⟨wA, ewA⟩ : ∃ wA, wA = w1.alloc (.cells #[.slice a0 1 k0, .slice a1 segs.length k1, .bool false] 115) := ⟨_, rfl⟩
  have HEA : Hid (wA = w1.alloc (.cells #[.slice a0 1 k0, .slice a1 segs.length k1, .bool false] 115)) := ewA
  have hza : wA.heap.size = w1.heap.size + 1 := by rw [ewA]; exact Array.size_push _
  rw [← ewA] at hga hgw hs1 hs0 HGW
  have hdo := w_dropAll base p d mb n dir (.slice none 0 0) 0 x B q segs a0 a1 k0 k1 W0.heap.size b1 false wA HDIR.out (by omega) (HT.out.grown hgw) hq8 (HW.out.kept hgw (by simp)) hs0 hs1 HLOG.out.folder.segr.1 HLOG.out.le hln hnil hpb (DV.kept HD.out hgw) HCALM.out.ok HDEL.out HB.out W0.heap.size (fun k hk hb => by have := HLTB.out k hb; omega) hb1 hgw.size (fun g hg => (HFAR.out g hg).1)
  have HO1 : Hid (SOwn intE 3 wA b1 (.slice a1 segs.length k1) segs.length (nI segs)) := hs1
  have HWW : Hid (WRow wA p d dir ⟨#[]⟩ (.slice none 0 0) 0) := HW.out.kept hgw (by simp)
  clear ho0 ho1 hb0 hg1 hnil HLK hga hgw hs1 hs0 ewA
  unfold FolderV at hdo ⊢
  go_wp2_with fail
  rw [← HEA.out]
  refine hdo.mono ?_
  rintro e w3 ⟨rfl, a', n3, B3, hW3, ha', hn3, hd3, hk3, hb3⟩
  have hnB : ∀ k, W0.heap.size ≤ k → ¬ B k := fun k hk hb => by have := HLTB.out k hb; omega
  have hnX : ∀ k, b1 ≤ k → ¬ (k = p ∨ B k) := fun k hk hX => hX.elim (fun e => by omega) (hnB k (Nat.le_trans hb1 hk))
  obtain ⟨t1, t2, t3⟩ := tail_facts (sown_keptK HO1.out hk3 (fun k hk => hnX k (HO1.out.block k hk).1)) ha'
  have hT3 : Tab w3 := (HT.out.grown HGW.out).keptK hk3 (fun g hg hX => hX.elim (HFAR.out g hg).2 (HFAR.out g hg).1)
  have HRA : Hid (Calls Tryz.prog 94 #[.pointer (some ⟨p, 0, none⟩)] w3 (AllOut w3 (cpRecs (some q) ++ recsOf []))) := w_replayAll base p d mb n3 dir (cpName dir (some q)) a' (k1 - segs.length) 0 (delAll x (segs.map (segN dir))) B3 (some q) [] w3 HDIR.out hT3 hW3 (.inl rfl) hd3 hon2 HCP2.out (fun q hq => by cases hq) (by show (q.2 ++ ([] : List (List Int))).length ≤ _; rw [List.append_nil]; exact hsz) (by decide)
  have HW3 : Hid (WRow w3 p d dir (cpName dir (some q)) (.slice a' 0 (k1 - segs.length)) 0) := hW3
  have hd3 := DS.bound hd3
  have hb3 : ∀ k, k < wA.heap.size → (B3 k ∧ k < w3.heap.size) → B k := fun k hk hb => hb3 k hk hb.1
  obtain ⟨B4, eB4⟩ : ∃ B4 : Nat → Prop, B4 = fun k => B3 k ∧ k < w3.heap.size := ⟨_, rfl⟩
  have HLT4 : Hid (∀ k, B4 k → k < w3.heap.size) := by show ∀ k, _; rw [eB4]; exact fun k hk => hk.2
  rw [← eB4] at hd3
  have hb3 : ∀ k, k < wA.heap.size → B4 k → B k := by rw [eB4]; exact hb3
  clear eB4
  have HD3 : Hid (DS w3 base d mb n3 (delAll x (segs.map (segN dir))) B4) := hd3
  have HK3 : Hid (Kept W0 w3 (fun k => k = p ∨ B k)) := (Kept.of HGW.out (X := fun k => k = p ∨ B k) (fun k hk => by cases hk)).trans hk3 (fun k _ hX => hX)
  have HB4 : Hid (∀ k, k < W0.heap.size → B4 k → B k) := fun k hk hb => hb3 k (Nat.lt_of_lt_of_le hk HGW.out.size) hb
  have HT1 : Hid (∀ y, a' = some y → b1 ≤ y.block ∧ y.block < w3.heap.size ∧ y.spot = none ∧ ∃ cur, w3.heap[y.block]? = some (.cells cur 3 (0, 0)) ∧ y.off + (k1 - segs.length) ≤ cur.size) := t1
  have HTB : Hid (∀ y, a' = some y → ¬ B4 y.block) := fun y hy hb => by
    obtain ⟨u1, u2, _⟩ := (tail_facts HO1.out ha').1 y hy
    exact hnB y.block (Nat.le_trans hb1 u1) (hb3 y.block u2 hb)
  have HT2 : Hid (a' = none → k1 - segs.length = 0) := t2
  obtain ⟨C, eC⟩ : ∃ C, C = k1 - segs.length := ⟨_, rfl⟩
  rw [← eC] at HW3 HT1 HT2 t3
  clear hdo hW3 hd3 hk3 hb3 t1 t2 hT3 hnX hnB ha' HO1 HWW eC
  go_wp2_with fail
  refine HRA.out.mono ?_
  rintro e w4 ⟨rv, rfl, hA4⟩
  obtain ⟨m, hro⟩ := hA4.out
  have hg4 := hA4.grown
  have hW4 := HW3.out.kept hg4 (by simp)
  have y4 := hW4.cells.2.2.2.2
  have z4 := hW4.frozen 4
  have y3 := hW4.cells.2.2.2.1
  have q5 : -9223372036854775808 ≤ (q.1 : Int) + 1 ∧ (q.1 : Int) + 1 ≤ 9223372036854775807 := by omega
  have hg5 : w4.grownBy (w4.setCell ⟨p, 4, none⟩ (.int .i64 ((q.1 : Int) + 1))) (some p) := gb_set rfl
  have hk5 : Kept w4 (w4.setCell ⟨p, 4, none⟩ (.int .i64 ((q.1 : Int) + 1))) (fun k => k = p) := Kept.of hg5 (fun k hk => by cases hk; rfl)
  have hW5 : WRow (w4.setCell ⟨p, 4, none⟩ (.int .i64 ((q.1 : Int) + 1))) p d dir (cpN dir q.1) (.slice a' 0 C) ((q.1 + 1 : Nat) : Int) := (hW4.set 4 (.int .i64 ((q.1 : Int) + 1))).congr (five rfl rfl rfl rfl rfl)
  have y5 := hW5.cells.2.2.2.1
  have hp3 : p < w3.heap.size := HW3.out.lt
  have HFIN : Hid (OldMend base d mb n (delAll x (segs.map (segN dir))) dir q B W0 p rv (w4.setCell ⟨p, 4, none⟩ (.int .i64 ((q.1 : Int) + 1))) ∧ ∀ j, p < j → j < W0.heap.size → (w4.setCell ⟨p, 4, none⟩ (.int .i64 ((q.1 : Int) + 1))).heap[j]? = W0.heap[j]?) := by
    have hk35 : Kept w3 (w4.setCell ⟨p, 4, none⟩ (.int .i64 ((q.1 : Int) + 1))) (fun k => k = p) := (Kept.of hg4 (X := fun k => k = p) (fun k hk => by cases hk)).trans hk5 (fun k _ e => e)
    have hd4 : DS w4 base d mb n3 (delAll x (segs.map (segN dir))) B4 := DV.kept HD3.out hg4
    have hk05 := HK3.out.trans hk35 (fun k _ e => .inl e)
    have hro' : RecsOut w3 w4 (slV rv) m q.2 := by
      have e : cpRecs (some q) ++ recsOf [] = q.2 := List.append_nil _
      rw [e] at hro
      exact hro
    obtain ⟨ts, r1, r2, r3, r4⟩ := hro'.keptK hk5 (fun j hj e => by omega)
    refine ⟨⟨m, n3, B4, w3.heap.size, a', C, ⟨ts, r1, r2, r3, r4⟩, hn3, hd4.others hk5 (fun k hb e => HB.out (HB4.out k (by rw [e]; exact HW.out.lt) hb |> fun h => e ▸ h)), hW5, fun y hy => ?_, HT2.out, t3, hk05, HB4.out, HK3.out.size, HLT4.out⟩, fun j h1 h2 => hk05.block j h2 (fun hX => hX.elim (fun e => by omega) (fun hb => by have := HLP.out j hb; omega))⟩
    obtain ⟨u1, u2, u3, cur, u4, u5⟩ := HT1.out y hy
    exact ⟨Nat.le_trans hb1 u1, u2, HTB.out y hy, u3, cur, by rw [hk35.block y.block u2 (fun e => by omega)]; exact u4, u5⟩
  have e0 : (lastN (some q) : Int) = (q.1 : Int) := rfl
  rw [e0]
  clear hro hA4 hg4 hW4 hg5 hk5 hW5 HRA
  go_wp2
  go_ret
  exact ⟨rv, rfl, HFIN.out.1, HFIN.out.2⟩
end Go.Proofs.YtekejnjaiccnbaaGreatDoor

/- What Cut comes to, on a disk that may be armed. (No program's numbers.) -/
namespace Go.Proofs.YtekejnjaiccnbaaGreatDoor
open Go.RowKit Go.Maps Go.Sort
set_option linter.unusedVariables false
set_option maxRecDepth 20000

theorem segs_nodup {dir : ByteArray} {segs : List Nat} (h : Rising segs) : (segs.map (segN dir)).Nodup :=
  (rising_map h (segN dir) (fun k j hj hk => seg_lt dir hj hk)).imp (fun hab => ba_ne hab)
/-- Old segments go. -/
theorem old_del {x : DSt} {dir : ByteArray} {q : Nat × List (List Int)} {segs : List Nat} (h : OldLog x.V dir q segs) (hdir : dirB dir = true) (hc : x.Calm) (hw : x.wn + segs.length ≤ 999999980) : DelOk x (segs.map (segN dir)) ∧ (delAll x (segs.map (segN dir))).Calm ∧ (delAll x (segs.map (segN dir))).wn = x.wn + segs.length ∧ Log (delAll x (segs.map (segN dir))).V dir (some q) [] := by
  have hm := h.folder.mem
  obtain ⟨d1, d2, d3, d4⟩ := del_all (segs.map (segN dir)) x hc (by rw [List.length_map]; omega) (segs_nodup h.folder.segr) (fun s hs => by
    obtain ⟨k, hk, rfl⟩ := List.mem_map.1 hs
    exact ⟨((hm _).2 (by unfold namesL; simp; exact .inr ⟨k, hk, rfl⟩)).1, seg_name hdir k⟩)
  have hncp : cpN dir q.1 ∉ segs.map (segN dir) := fun hin => by
    obtain ⟨k, _, e⟩ := List.mem_map.1 hin
    exact cp_ne_seg dir _ _ e.symm
  obtain ⟨_, ⟨syn, h2⟩, h3, h4⟩ := h.cp
  refine ⟨d1, d2, by rw [d3, List.length_map], ⟨⟨h.folder.cpr, ⟨by simp, fun k hk => by cases hk⟩, fun s => ?_⟩, ⟨rfl, ⟨syn, by rw [(d4 _).2 hncp]; exact h2⟩, h3, h4⟩, fun p hp => (by cases hp), fun p hp => (by cases hp), h4⟩⟩
  have e0 : namesL dir (cpNums (some q)) false (List.map Prod.fst ([] : Sg)) = [cpN dir q.1] := by simp [namesL, cpNums]
  have e1 : namesL dir [q.1] false segs = cpN dir q.1 :: segs.map (segN dir) := by simp [namesL]
  have hms := hm s
  rw [e1, List.mem_cons] at hms
  rw [e0, List.mem_singleton]
  constructor
  · rintro ⟨h5, h6⟩
    by_cases hin : s ∈ segs.map (segN dir)
    · rw [(d4 s).1 hin] at h5; cases h5
    · rw [(d4 s).2 hin] at h5
      exact (hms.1 ⟨h5, h6⟩).resolve_right hin
  · intro e
    subst e
    exact ⟨by rw [(d4 _).2 hncp, h2]; rfl, cp_in dir _⟩
/-- Files that go, one behind the other, on a disk that may be armed. -/
theorem del_armed : ∀ (l : List ByteArray) (x : DSt), x.off = false → x.ok → x.wn + l.length ≤ 999999980 → l.Nodup → (∀ s ∈ l, (x.V s).isSome = true ∧ nameB s = true) →
    (DelOk x l ∧ (delAll x l).off = false ∧ (delAll x l).ok ∧ (delAll x l).wn = x.wn + l.length ∧ ∀ t, (t ∈ l → (delAll x l).V t = none) ∧ (t ∉ l → (delAll x l).V t = x.V t)) ∨
    ∃ (j : Nat) (s : ByteArray) (kp wn : Int) (V : Cont), l[j]? = some s ∧ DelOk x (l.take j) ∧ (delAll x (l.take j)).ok ∧ (delAll x (l.take j)).delete s = (60, ⟨true, false, 0, 0, wn, lostV kp V⟩) ∧ x.wn ≤ wn ∧ wn ≤ x.wn + l.length ∧ ∀ t, (t ∈ l.take j → V t = none) ∧ (t ∉ l.take j → V t = x.V t)
  | [], x, hon, hok, _, _, _ => .inl ⟨trivial, hon, hok, by simp [delAll], fun t => ⟨fun h => absurd h (by simp), fun _ => rfl⟩⟩
  | s :: l, x, hon, hok, hw, hn, hs => by
    obtain ⟨h1, h2⟩ := hs s (by simp)
    obtain ⟨q, hq⟩ := Option.isSome_iff_exists.1 h1
    have hdel : x.delete s = x.wr false (setV x.V s none) := by
      unfold DSt.delete
      rw [hon, hq]
      rfl
    have hlen : ((s :: l).length : Int) = l.length + 1 := by simp
    rw [hlen] at hw ⊢
    rw [List.nodup_cons] at hn
    rcases wr_cases x hon hok (by omega) false (setV x.V s none) with ⟨y, e, y1, y2, y3, y4⟩ | e
    · have hd : x.delete s = (0, y) := hdel.trans e
      have hdA : ∀ l', delAll x (s :: l') = delAll y l' := fun l' => by show delAll (x.delete s).2 l' = _; rw [hd]
      have ih := del_armed l y y2 y3 (by omega) hn.2 (fun t ht => by
        have hne : t ≠ s := fun e => hn.1 (by rw [← e]; exact ht)
        refine ⟨?_, (hs t (by simp [ht])).2⟩
        rw [y1, setV_other _ _ hne]
        exact (hs t (by simp [ht])).1)
      rcases ih with ⟨i1, i2, i3, i4, i5⟩ | ⟨j, s', kp, wn, V, i1, i2, i3, i4, i5, i6, i7⟩
      · left
        rw [hdA]
        refine ⟨⟨by rw [hd], hok, h2, by rw [hd]; exact i1⟩, i2, i3, by omega, fun t => ⟨fun ht => ?_, fun ht => ?_⟩⟩
        · by_cases htl : t ∈ l
          · exact (i5 t).1 htl
          · have hts : t = s := by simpa [htl] using ht
            rw [(i5 t).2 htl, hts, y1]
            exact setV_same _ _ _
        · simp only [List.mem_cons, not_or] at ht
          rw [(i5 t).2 ht.2, y1]
          exact setV_other _ _ ht.1
      · right
        refine ⟨j + 1, s', kp, wn, V, by simpa using i1, ?_, ?_, ?_, by omega, by omega, fun t => ⟨fun ht => ?_, fun ht => ?_⟩⟩
        · rw [List.take_succ_cons]
          exact ⟨by rw [hd], hok, h2, by rw [hd]; exact i2⟩
        · rw [List.take_succ_cons, hdA]; exact i3
        · rw [List.take_succ_cons, hdA]; exact i4
        · rw [List.take_succ_cons] at ht
          by_cases htl : t ∈ l.take j
          · exact (i7 t).1 htl
          · have hts : t = s := by simpa [htl] using ht
            rw [(i7 t).2 htl, hts, y1]
            exact setV_same _ _ _
        · rw [List.take_succ_cons] at ht
          simp only [List.mem_cons, not_or] at ht
          rw [(i7 t).2 ht.2, y1]
          exact setV_other _ _ ht.1
    · right
      exact ⟨0, s, x.kp, x.wn + 1, x.V, rfl, trivial, hok, hdel.trans e, by omega, by omega, fun t => ⟨fun h => absurd h (by simp), fun _ => rfl⟩⟩
end Go.Proofs.YtekejnjaiccnbaaGreatDoor

/- What Cut comes to: the cases. (No program's numbers.) -/
namespace Go.Proofs.YtekejnjaiccnbaaGreatDoor
open Go.RowKit Go.Maps Go.Sort
set_option linter.unusedVariables false
set_option maxRecDepth 20000

theorem openN_le {V : Cont} {dir : ByteArray} {Ls : Sg} (h : Log V dir none Ls) : ∀ k ∈ Ls.map Prod.fst, k ≤ openN none Ls := by
  rcases List.eq_nil_or_concat Ls with rfl | ⟨L0, q, rfl⟩
  · intro k hk
    cases hk
  · rw [List.concat_eq_append] at *
    intro k hk
    obtain ⟨p, hp, rfl⟩ := List.mem_map.1 hk
    rw [openN_snoc]
    rcases List.mem_append.1 hp with hp | hp
    · exact Nat.le_of_lt (h.rise p hp)
    · simp only [List.mem_singleton] at hp
      subst hp
      exact Nat.le_refl _
/-- All segments are synced whole. -/
def AllSy (V : Cont) (dir : ByteArray) (Ls : Sg) : Prop := ∀ q ∈ Ls, V (segN dir q.1) = some (logB frameR q.2, (logB frameR q.2).length)
theorem draft_of {V V1 : Cont} {dir : ByteArray} {Ls : Sg} (kp : Int) (h : Log V dir none Ls) (hs : AllSy V dir Ls) (h1 : ∀ t, t ≠ newN dir → V1 t = V t) (h2 : ∃ q, V1 (newN dir) = some q) : DraftLog (lostV kp V1) dir Ls := by
  obtain ⟨q, hq⟩ := h2
  have hseg : ∀ p ∈ Ls, lostV kp V1 (segN dir p.1) = some (logB frameR p.2, (logB frameR p.2).length) := fun p hp => lost_synced kp (by rw [h1 _ (fun e => new_ne_seg dir p.1 e.symm)]; exact hs p hp)
  refine ⟨⟨⟨by simp, fun k hk => by cases hk⟩, h.folder.segr, fun s => ?_⟩, fun p hp => ⟨⟨_, hseg p hp⟩, (h.whole p hp).2⟩, fun p hp => h.above p hp, ⟨cutV kp q, by unfold lostV; rw [hq]; rfl⟩⟩
  rw [lost_isSome]
  have e0 : namesL dir [] true (Ls.map Prod.fst) = newN dir :: namesL dir (cpNums none) false (Ls.map Prod.fst) := by
    simp [namesL, cpNums]
  rw [e0, List.mem_cons, ← h.folder.mem s]
  by_cases e : s = newN dir
  · subst e
    simp [hq, new_in]
  · rw [h1 s e]
    simp [e]
theorem old_of {V V3 V4 : Cont} {dir : ByteArray} {Ls : Sg} {recs : List (List Int)} (kp : Int) (j : Nat) (h : Log V dir none Ls) (hs : AllSy V dir Ls) (hr : ∀ r ∈ recs, r.length ≤ 65536) (hop : openN none Ls < 100000000) (h1 : V3 (newN dir) = none) (h2 : V3 (cpN dir (openN none Ls)) = some (logB frameR recs, (logB frameR recs).length)) (h3 : ∀ t, t ≠ newN dir → t ≠ cpN dir (openN none Ls) → V3 t = V t) (h4 : ∀ t, (t ∈ ((Ls.map Prod.fst).map (segN dir)).take j → V4 t = none) ∧ (t ∉ ((Ls.map Prod.fst).map (segN dir)).take j → V4 t = V3 t)) : OldLog (lostV kp V4) dir (openN none Ls, recs) ((Ls.map Prod.fst).drop j) := by
  have hnd := segs_nodup (dir := dir) h.folder.segr
  have hsplit : (Ls.map Prod.fst).map (segN dir) = ((Ls.map Prod.fst).map (segN dir)).take j ++ ((Ls.map Prod.fst).drop j).map (segN dir) := by
    rw [List.map_drop, List.take_append_drop]
  have hdis : ∀ s ∈ ((Ls.map Prod.fst).drop j).map (segN dir), s ∉ ((Ls.map Prod.fst).map (segN dir)).take j := fun s hs1 hs2 => by
    rw [hsplit] at hnd
    exact (List.nodup_append.1 hnd).2.2 s hs2 s hs1 rfl
  have hsub : ∀ s ∈ ((Ls.map Prod.fst).map (segN dir)).take j, ∃ k, s = segN dir k := fun s hs => by
    obtain ⟨k, _, e⟩ := List.mem_map.1 (List.mem_of_mem_take hs)
    exact ⟨k, e.symm⟩
  have hcp : cpN dir (openN none Ls) ∉ ((Ls.map Prod.fst).map (segN dir)).take j := fun hin => by
    obtain ⟨k, e⟩ := hsub _ hin
    exact cp_ne_seg dir _ _ e
  have hnw : newN dir ∉ ((Ls.map Prod.fst).map (segN dir)).take j := fun hin => by
    obtain ⟨k, e⟩ := hsub _ hin
    exact new_ne_seg dir _ e
  have hcpV : lostV kp V4 (cpN dir (openN none Ls)) = some (logB frameR recs, (logB frameR recs).length) := lost_synced kp (by rw [(h4 _).2 hcp]; exact h2)
  have hrise : Rising ((Ls.map Prod.fst).drop j) := ⟨h.folder.segr.1.sublist (List.drop_sublist j _), fun k hk => h.folder.segr.2 k (List.mem_of_mem_drop hk)⟩
  refine ⟨⟨⟨by simp, fun k hk => by simp at hk; omega⟩, hrise, fun s => ?_⟩, ⟨rfl, ⟨_, hcpV⟩, hr, hop⟩, fun k hk => ?_, fun k hk => openN_le h k (List.mem_of_mem_drop hk)⟩
  · have e1 : namesL dir [openN none Ls] false ((Ls.map Prod.fst).drop j) = cpN dir (openN none Ls) :: ((Ls.map Prod.fst).drop j).map (segN dir) := by simp [namesL]
    have hm := h.folder.mem s
    have e2 : namesL dir (cpNums none) false (Ls.map Prod.fst) = (Ls.map Prod.fst).map (segN dir) := by simp [namesL, cpNums]
    rw [e2] at hm
    rw [lost_isSome]
    show _ ↔ s ∈ namesL dir [openN none Ls] false ((Ls.map Prod.fst).drop j)
    rw [e1, List.mem_cons]
    by_cases es : s = cpN dir (openN none Ls)
    · subst es
      rw [(h4 _).2 hcp, h2]
      simp [cp_in]
    · by_cases en : s = newN dir
      · subst en
        rw [(h4 _).2 hnw, h1]
        constructor
        · rintro ⟨h5, _⟩
          cases h5
        · rintro (h5 | h5)
          · exact absurd h5 es
          · obtain ⟨k, _, e⟩ := List.mem_map.1 h5
            exact absurd e.symm (new_ne_seg dir k)
      · by_cases hin : s ∈ ((Ls.map Prod.fst).map (segN dir)).take j
        · rw [(h4 s).1 hin]
          constructor
          · rintro ⟨h5, _⟩
            cases h5
          · rintro (h5 | h5)
            · exact absurd h5 es
            · exact absurd hin (hdis s h5)
        · rw [(h4 s).2 hin, h3 s en es, hm, hsplit, List.mem_append]
          constructor
          · rintro (h5 | h5)
            · exact absurd h5 hin
            · exact .inr h5
          · rintro (h5 | h5)
            · exact absurd h5 es
            · exact .inr h5
  · obtain ⟨p, hp, rfl⟩ := List.mem_map.1 (List.mem_of_mem_drop hk)
    exact h.above p hp
/-- What stands behind a Cut in which the power went, or behind one that was done and a power cut. -/
def CutV (V : Cont) (dir : ByteArray) (Ls : Sg) (recs : List (List Int)) : Prop := DraftLog V dir Ls ∨ ∃ segs, OldLog V dir (openN none Ls, recs) segs ∧ segs.length ≤ Ls.length
def LostCut (y : DSt) (x : DSt) (dir : ByteArray) (Ls : Sg) (recs : List (List Int)) : Prop := ∃ V wn, y = ⟨true, false, 0, 0, wn, V⟩ ∧ x.wn ≤ wn ∧ wn ≤ x.wn + 3 + Ls.length ∧ CutV V dir Ls recs
inductive CutCase (x : DSt) (dir : ByteArray) (Ls : Sg) (recs : List (List Int)) : Prop
  | p1 (y : DSt) (ey : x.append (newN dir) (logB frameR recs) = (60, y)) (hl : LostCut y x dir Ls recs) : CutCase x dir Ls recs
  | p2 (x1 : DSt) (ex1 : x.append (newN dir) (logB frameR recs) = (0, x1)) (hok1 : x1.ok) (y : DSt) (ey : x1.sync (newN dir) = (60, y)) (hl : LostCut y x dir Ls recs) : CutCase x dir Ls recs
  | p3 (x1 : DSt) (ex1 : x.append (newN dir) (logB frameR recs) = (0, x1)) (hok1 : x1.ok) (x2 : DSt) (ex2 : x1.sync (newN dir) = (0, x2)) (hok2 : x2.ok) (y : DSt) (ey : x2.rename (newN dir) (cpN dir (openN none Ls)) = (60, y)) (hl : LostCut y x dir Ls recs) : CutCase x dir Ls recs
  | del (x1 : DSt) (ex1 : x.append (newN dir) (logB frameR recs) = (0, x1)) (hok1 : x1.ok) (x2 : DSt) (ex2 : x1.sync (newN dir) = (0, x2)) (hok2 : x2.ok) (x3 : DSt) (ex3 : x2.rename (newN dir) (cpN dir (openN none Ls)) = (0, x3)) (j kj : Nat) (hj : (Ls.map Prod.fst)[j]? = some kj) (hdel : DelOk x3 (((Ls.map Prod.fst).take j).map (segN dir))) (hok3 : (delAll x3 (((Ls.map Prod.fst).take j).map (segN dir))).ok) (y : DSt) (ey : (delAll x3 (((Ls.map Prod.fst).take j).map (segN dir))).delete (segN dir kj) = (60, y)) (hl : LostCut y x dir Ls recs) : CutCase x dir Ls recs
  | done (x1 : DSt) (ex1 : x.append (newN dir) (logB frameR recs) = (0, x1)) (hok1 : x1.ok) (x2 : DSt) (ex2 : x1.sync (newN dir) = (0, x2)) (hok2 : x2.ok) (x3 : DSt) (ex3 : x2.rename (newN dir) (cpN dir (openN none Ls)) = (0, x3)) (hdel : DelOk x3 ((Ls.map Prod.fst).map (segN dir))) (hon : (delAll x3 ((Ls.map Prod.fst).map (segN dir))).off = false) (hok : (delAll x3 ((Ls.map Prod.fst).map (segN dir))).ok) (hwn : x.wn ≤ (delAll x3 ((Ls.map Prod.fst).map (segN dir))).wn ∧ (delAll x3 ((Ls.map Prod.fst).map (segN dir))).wn ≤ x.wn + 3 + Ls.length) (hl : ∀ keep, OldLog (lostV keep (delAll x3 ((Ls.map Prod.fst).map (segN dir))).V) dir (openN none Ls, recs) []) : CutCase x dir Ls recs
theorem cut_case {x : DSt} {dir : ByteArray} {Ls : Sg} {recs : List (List Int)} (h : Log x.V dir none Ls) (hs : AllSy x.V dir Ls) (hdir : dirB dir = true) (hon : x.off = false) (hok : x.ok) (hw : x.wn + Ls.length ≤ 999999900) (hr : ∀ r ∈ recs, r.length ≤ 65536) (hop : openN none Ls < 99999998) : CutCase x dir Ls recs := by
  have hnew := h.noNew
  have e0 : oldV x.V (newN dir) = ([], 0) := by unfold oldV; rw [hnew]; rfl
  have ha : x.append (newN dir) (logB frameR recs) = x.wr true (setV x.V (newN dir) (some (logB frameR recs, 0))) := by
    unfold DSt.append
    rw [hon, e0, List.nil_append]
    rfl
  have hd1 : ∀ kp q, DraftLog (lostV kp (setV x.V (newN dir) (some q))) dir Ls := fun kp q => draft_of kp h hs (fun t ht => setV_other _ _ ht) ⟨q, setV_same _ _ _⟩
  rcases wr_cases x hon hok (by omega) true (setV x.V (newN dir) (some (logB frameR recs, 0))) with ⟨x1, e1, a1, a2, a3, a4⟩ | e1
  case inr => exact .p1 _ (ha.trans e1) ⟨_, _, rfl, by omega, by omega, .inl (hd1 _ _)⟩
  have hsy : x1.sync (newN dir) = x1.wr false (setV x1.V (newN dir) (some (logB frameR recs, (logB frameR recs).length))) := by
    unfold DSt.sync
    rw [a2, a1, setV_same]
    rfl
  have eV2 : setV x1.V (newN dir) (some (logB frameR recs, (logB frameR recs).length)) = setV x.V (newN dir) (some (logB frameR recs, (logB frameR recs).length)) := by
    rw [a1]
    funext t
    unfold setV
    split <;> rfl
  rcases wr_cases x1 a2 a3 (by omega) false (setV x1.V (newN dir) (some (logB frameR recs, (logB frameR recs).length))) with ⟨x2, e2, b1, b2, b3, b4⟩ | e2
  case inr => exact .p2 x1 (ha.trans e1) a3 _ (hsy.trans e2) ⟨_, _, rfl, by omega, by omega, .inl (by rw [if_neg (by simp), a1]; exact hd1 _ _)⟩
  rw [eV2] at b1
  have hrn : x2.rename (newN dir) (cpN dir (openN none Ls)) = x2.wr false (setV (setV x2.V (newN dir) none) (cpN dir (openN none Ls)) (some (logB frameR recs, (logB frameR recs).length))) := by
    unfold DSt.rename
    rw [b2, b1, setV_same]
    rfl
  rcases wr_cases x2 b2 b3 (by omega) false (setV (setV x2.V (newN dir) none) (cpN dir (openN none Ls)) (some (logB frameR recs, (logB frameR recs).length))) with ⟨x3, e3, c1, c2, c3, c4⟩ | e3
  case inr => exact .p3 x1 (ha.trans e1) a3 x2 (hsy.trans e2) b3 _ (hrn.trans e3) ⟨_, _, rfl, by omega, by omega, .inl (by rw [if_neg (by simp), b1]; exact hd1 _ _)⟩
  have v1 : x3.V (newN dir) = none := by
    rw [c1, setV_other _ _ (fun e => cp_ne_new dir _ e.symm), setV_same]
  have v2 : x3.V (cpN dir (openN none Ls)) = some (logB frameR recs, (logB frameR recs).length) := by rw [c1, setV_same]
  have v3 : ∀ t, t ≠ newN dir → t ≠ cpN dir (openN none Ls) → x3.V t = x.V t := fun t ht1 ht2 => by
    rw [c1, setV_other _ _ ht2, setV_other _ _ ht1, b1, setV_other _ _ ht1]
  have hlen : (((Ls.map Prod.fst).map (segN dir)).length : Int) = Ls.length := by simp
  have hda := del_armed ((Ls.map Prod.fst).map (segN dir)) x3 c2 c3 (by omega) (segs_nodup h.folder.segr) (fun s hs1 => by
    obtain ⟨k, hk, rfl⟩ := List.mem_map.1 hs1
    refine ⟨?_, seg_name hdir k⟩
    rw [v3 _ (fun e => new_ne_seg dir k e.symm) (fun e => cp_ne_seg dir _ _ e.symm)]
    refine h.seen ?_
    unfold namesL
    exact List.mem_append.2 (.inr (List.mem_append.2 (.inr (List.mem_map.2 ⟨k, hk, rfl⟩)))))
  rcases hda with ⟨i1, i2, i3, i4, i5⟩ | ⟨j, s, kp, wn, V, i1, i2, i3, i4, i5, i6, i7⟩
  · refine .done x1 (ha.trans e1) a3 x2 (hsy.trans e2) b3 x3 (hrn.trans e3) i1 i2 i3 (by rw [i4, hlen]; omega) (fun keep => ?_)
    have := old_of (V4 := (delAll x3 ((Ls.map Prod.fst).map (segN dir))).V) keep ((Ls.map Prod.fst).map (segN dir)).length h hs hr (by omega) v1 v2 v3 (fun t => by rw [List.take_length]; exact i5 t)
    rw [List.length_map, List.drop_length] at this
    exact this
  · rw [List.getElem?_map] at i1
    obtain ⟨kj, hkj, rfl⟩ := Option.map_eq_some_iff.1 i1
    have et : ((Ls.map Prod.fst).map (segN dir)).take j = ((Ls.map Prod.fst).take j).map (segN dir) := by rw [List.map_take]
    have hol := old_of (V4 := V) kp j h hs hr (by omega) v1 v2 v3 i7
    rw [et] at i2 i3 i4
    exact .del x1 (ha.trans e1) a3 x2 (hsy.trans e2) b3 x3 (hrn.trans e3) j kj hkj i2 i3 _ i4 ⟨_, _, rfl, by omega, by rw [hlen] at i6; omega, .inr ⟨_, hol, by simp⟩⟩
end Go.Proofs.YtekejnjaiccnbaaGreatDoor

/- Cut, of a log over a disk that may be armed. -/
namespace Go.Proofs.YtekejnjaiccnbaaGreatDoor
open Go.RowKit Go.Maps Go.Sort
set_option linter.unusedVariables false
set_option maxRecDepth 20000

/-- Behind a Cut: the disk. -/
structure Cd (W w' : World) (d mb n' : Nat) (y : DSt) (B' : Nat → Prop) : Prop where
  disk : DS w' W.heap.size d mb n' y B'
  from_ : W.grownBy w' none
  low : ∀ k, B' k → W.heap.size ≤ k
  ltB : ∀ k, B' k → k < w'.heap.size
theorem cut_cd {W w w' : World} {d mb n : Nat} {x y : DSt} {p : Nat} {Ls : Sg} {safe : Nat} {A B : Nat → Prop} (h : Sb W w d mb n x p Ls safe A B) (hc : CutEnd w W.heap.size d mb (n + 2) y A B w') : ∃ n' B', n' ≤ n + 2 ∧ Cd W w' d mb n' y B' := by
  obtain ⟨n', B', h1, h2, h3, h4, h5⟩ := hc
  exact ⟨n', B', h1, h2, h3.from_ h.from_ h.low, fun k hk => h3.low h.from_ h.low k (.inr hk), h5⟩
theorem cpEmpty {l : List ByteArray} : (if cpName dirX none = (⟨#[]⟩ : ByteArray) then [] else [cpName dirX none]) ++ l = l := by
  rw [if_pos (show cpName dirX none = (⟨#[]⟩ : ByteArray) from rfl), List.nil_append]
theorem sb_cut {W w : World} {d mb n : Nat} {x : DSt} {p : Nat} {Ls : Sg} {safe : Nat} {A B : Nat → Prop} (h : Sb W w d mb n x p Ls safe A B) (hsy : AllSy x.V dirX Ls) (ka : Option Addr) (kn kc : Nat) (ts : List Sl) (recs : List (List Int)) (hw : x.wn + Ls.length ≤ 999999900) (hop : openN none Ls < 99999998) (hn : n < 1048576) (hsg : Ls.length ≤ 4194304) (hk : KeepIs w ka ts recs) (hkn : recs.length = kn) (hk4 : kn ≤ 4194304) (hlen : (logB frameR recs).length ≤ 4194304) (hr : ∀ r ∈ recs, r.length ≤ 65536) :
    Calls Tryz.prog 23 #[.pointer (some ⟨p, 0, none⟩), .slice ka kn kc] w fun e w' => ∃ n' y B', n' ≤ n + 2 ∧ Cd W w' d mb n' y B' ∧ y.wn ≤ x.wn + 3 + Ls.length ∧ 0 ≤ y.wn ∧
      ((e = .returned (.int .i64 0) ∧ y.off = false ∧ y.ok ∧ ∀ keep, OldLog (lostV keep y.V) dirX (openN none Ls, recs) []) ∨ (e = .returned (.int .i64 60) ∧ (∃ V, y = ⟨true, false, 0, 0, y.wn, V⟩) ∧ CutV y.V dirX Ls recs)) := by
  have hfar := h.far
  have hw0 := h.ok.1.1
  have hnew := h.log.noNew
  have hcpn : nameB (cpN dirX (openN none Ls)) = true := cp_name dirX_ok _
  have hsg' : (Ls.map Prod.fst).length ≤ 4194304 := by rw [List.length_map]; exact hsg
  have hs8 : ∀ k ∈ Ls.map Prod.fst, k < 100000000 := h.log.folder.segr.2
  have hcp : (cpName dirX none).size ≤ 64 := show (0 : Nat) ≤ 64 by omega
  have lost : ∀ (y : DSt) (hl : LostCut y x dirX Ls recs) (e : Ending) (w' : World), e = .returned (.int .i64 60) ∧ CutEnd w W.heap.size d mb (n + 2) y A B w' → ∃ n' y B', n' ≤ n + 2 ∧ Cd W w' d mb n' y B' ∧ y.wn ≤ x.wn + 3 + Ls.length ∧ 0 ≤ y.wn ∧ ((e = .returned (.int .i64 0) ∧ y.off = false ∧ y.ok ∧ ∀ keep, OldLog (lostV keep y.V) dirX (openN none Ls, recs) []) ∨ (e = .returned (.int .i64 60) ∧ (∃ V, y = ⟨true, false, 0, 0, y.wn, V⟩) ∧ CutV y.V dirX Ls recs)) := by
    rintro y ⟨V, wn, rfl, l1, l2, l3⟩ e w' ⟨rfl, hc⟩
    obtain ⟨n', B', h1, h2⟩ := cut_cd h hc
    exact ⟨n', _, B', h1, h2, l2, by dsimp only; omega, .inr ⟨rfl, ⟨V, rfl⟩, l3⟩⟩
  have putP : ∀ y, LostCut y x dirX Ls recs → (∀ W4 fv, w.grownBy W4 none → AppsTo W4 W.heap.size d mb n x B (newN dirX) fv (logB frameR recs) → ∀ w1, W4.grownBy w1 none → Calls Tryz.prog 100 #[.pointer (some ⟨p, 0, none⟩), .string (cpN dirX (openN none Ls)), fv] w1 fun e w' => e = .panicked (thrown 60) ∧ ∃ n' B', n' ≤ n + 2 ∧ LogAt w' W.heap.size d mb n' y p dirX (cpName dirX none) (Ls.map Prod.fst) (openN none Ls) A B' ∧ Step2 w1 w' A B A B') → Calls Tryz.prog 23 #[.pointer (some ⟨p, 0, none⟩), .slice ka kn kc] w fun e w' => ∃ n' y B', n' ≤ n + 2 ∧ Cd W w' d mb n' y B' ∧ y.wn ≤ x.wn + 3 + Ls.length ∧ 0 ≤ y.wn ∧ ((e = .returned (.int .i64 0) ∧ y.off = false ∧ y.ok ∧ ∀ keep, OldLog (lostV keep y.V) dirX (openN none Ls, recs) []) ∨ (e = .returned (.int .i64 60) ∧ (∃ V, y = ⟨true, false, 0, 0, y.wn, V⟩) ∧ CutV y.V dirX Ls recs)) := fun y hl hp =>
    (w_cutCQ W.heap.size d mb n x y p dirX (cpName dirX none) (Ls.map Prod.fst) (openN none Ls) A B ka kn kc ts recs w dirX_ok h.at_ h.ok hn hnew (fun W4 fv hg hap => w_cutPP W.heap.size d mb n x p dirX (cpName dirX none) (Ls.map Prod.fst) (openN none Ls) A B fv W4 dirX_ok (hfar.1.grown hg) (h.at_.grown hg) hop y (hp W4 fv hg hap)) hk hkn hk4 hlen h.from_.size).mono (lost y hl)
  cases cut_case h.log hsy dirX_ok h.on h.ok hw hr hop with
  | p1 y ey hl => exact putP y hl (fun W4 fv hg hap w1 hg1 => w_putP1 W.heap.size d mb n x p dirX (cpName dirX none) (cpN dirX (openN none Ls)) (Ls.map Prod.fst) (openN none Ls) A B fv (logB frameR recs) w1 dirX_ok (h.at_.grown (hg.trans hg1)) (fun w2 hg2 => hap w2 (hg1.trans hg2)) h.ok hn hcpn y ey)
  | p2 x1 ex1 hok1 y ey hl => exact putP y hl (fun W4 fv hg hap w1 hg1 => w_putP2 W.heap.size d mb n x p dirX (cpName dirX none) (cpN dirX (openN none Ls)) (Ls.map Prod.fst) (openN none Ls) A B fv (logB frameR recs) w1 dirX_ok (h.at_.grown (hg.trans hg1)) (fun w2 hg2 => hap w2 (hg1.trans hg2)) h.ok hn hcpn x1 ex1 hok1 y ey)
  | p3 x1 ex1 hok1 x2 ex2 hok2 y ey hl => exact putP y hl (fun W4 fv hg hap w1 hg1 => w_putP3 W.heap.size d mb n x p dirX (cpName dirX none) (cpN dirX (openN none Ls)) (Ls.map Prod.fst) (openN none Ls) A B fv (logB frameR recs) w1 dirX_ok (h.at_.grown (hg.trans hg1)) (fun w2 hg2 => hap w2 (hg1.trans hg2)) h.ok hn hcpn x1 ex1 hok1 x2 ex2 hok2 y ey)
  | del x1 ex1 hok1 x2 ex2 hok2 x3 ex3 j kj hj hdel hok3 y ey hl =>
    refine (w_cutCQ W.heap.size d mb n x y p dirX (cpName dirX none) (Ls.map Prod.fst) (openN none Ls) A B ka kn kc ts recs w dirX_ok h.at_ h.ok hn hnew (fun W4 fv hg hap => ?_) hk hkn hk4 hlen h.from_.size).mono (lost y hl)
    exact w_cutPD W.heap.size d mb n x p dirX (cpName dirX none) (Ls.map Prod.fst) (openN none Ls) A B fv W4 dirX_ok (hfar.1.grown hg) hfar.2 (h.at_.grown hg) hop x3 (fun w1 hg1 => w_putG W.heap.size d mb n x p dirX (cpName dirX none) (cpN dirX (openN none Ls)) (Ls.map Prod.fst) (openN none Ls) A B fv (logB frameR recs) w1 dirX_ok (h.at_.grown (hg.trans hg1)) (fun w2 hg2 => hap w2 (hg1.trans hg2)) h.ok hn hcpn x1 ex1 hok1 x2 ex2 hok2 x3 ex3) hsg' hs8 hcp j kj hj (by rw [cpEmpty]; exact hdel) y (by rw [cpEmpty]; exact ey) (by rw [cpEmpty]; exact hok3) (seg_name dirX_ok kj) (Nat.le_trans h.from_.size hg.size)
  | done x1 ex1 hok1 x2 ex2 hok2 x3 ex3 hdel hon hok hwn hl =>
    refine (w_cutCG W.heap.size d mb n x (delAll x3 ((Ls.map Prod.fst).map (segN dirX))) p dirX (cpName dirX none) (Ls.map Prod.fst) (openN none Ls) A B ka kn kc ts recs w dirX_ok h.at_ h.ok hn hnew (fun W4 fv hg hap => ?_) hk hkn hk4 hlen h.from_.size).mono ?_
    · exact w_cutG W.heap.size d mb n x p dirX (cpName dirX none) (Ls.map Prod.fst) (openN none Ls) A B fv W4 dirX_ok (hfar.1.grown hg) hfar.2 (h.at_.grown hg) hop x3 _ (by rw [cpEmpty]) (fun w1 hg1 => w_putG W.heap.size d mb n x p dirX (cpName dirX none) (cpN dirX (openN none Ls)) (Ls.map Prod.fst) (openN none Ls) A B fv (logB frameR recs) w1 dirX_ok (h.at_.grown (hg.trans hg1)) (fun w2 hg2 => hap w2 (hg1.trans hg2)) h.ok hn hcpn x1 ex1 hok1 x2 ex2 hok2 x3 ex3) hsg' hs8 hcp (by rw [cpEmpty]; exact hdel) (Nat.le_trans h.from_.size hg.size)
    · rintro e w' ⟨rfl, hc⟩
      obtain ⟨n', B', h1, h2⟩ := cut_cd h hc
      exact ⟨n', _, B', h1, h2, hwn.2, by omega, .inl ⟨rfl, hon, hok, hl⟩⟩
end Go.Proofs.YtekejnjaiccnbaaGreatDoor

/- A log whose slice of numbers is the empty end of another one: append. -/
namespace Go.Proofs.YtekejnjaiccnbaaGreatDoor
open Go.RowKit Go.Maps Go.Sort
set_option linter.unusedVariables false
set_option maxRecDepth 20000

/-- An empty slice of numbers that may be appended to. -/
def TailOk (w : World) (a : Option Addr) (c : Nat) : Prop := (∀ y, a = some y → y.spot = none ∧ ∃ cur, w.heap[y.block]? = some (.cells cur 3 (0, 0)) ∧ y.off + c ≤ cur.size) ∧ (a = none → c = 0) ∧ c ≤ 9223372036854775807
theorem TailOk.kept {w w' : World} {a : Option Addr} {c : Nat} (h : TailOk w a c) (hb : ∀ y, a = some y → w'.heap[y.block]? = w.heap[y.block]?) : TailOk w' a c :=
  ⟨fun y hy => ⟨(h.1 y hy).1, (h.1 y hy).2.elim fun cur hc => ⟨cur, by rw [hb y hy]; exact hc.1, hc.2⟩⟩, h.2⟩
theorem step_append_tail {ops : Array Oper} {o : Oper} {a : Act} {w : World} {K : Act → World → Prop} {Q : Exit → Act → World → Prop} {E : Prop} (hgd : o.guard = none) (s x : Operand)
    (ho : o.op = .call { callee := .builtin .append, args := #[s, x], argTypes := #[75, 75] }) (a0 : Option Addr) (c : Nat) (hs : a.eval s = .slice a0 0 c) (ht : TailOk w a0 c)
    (ad : Addr) (k : Int) (hx : a.eval x = .slice (some ad) 1 1) (hr : SRd intE w (some ad) [k])
    (h : ∀ a' c' w', SRd intE w' a' [k] → w.grownBy w' (a0.map (·.block)) → (∀ y, a' = some y → (a0.map (·.block) = some y.block ∨ w.heap.size ≤ y.block) ∧ y.block < w'.heap.size) → (a' = none → c' = 0) → K (a.put o.dst (.slice a' 1 c')) w') : if Region.wanted o (yielded ops a.tmps) = true then Oper.wp Tryz.prog o a w K Q else E := by
  have hw : Region.wanted o (yielded ops a.tmps) = true := by simp [Region.wanted, hgd]
  rw [if_pos hw]
  obtain ⟨i0, z, hi, hz0, hz1, hz2, hz3⟩ := intET.info
  have hone : ∀ u ∈ intE.flat [k], u.oneCell' = true := intE.flat_one [k]
  have done : ∀ v' w', (Builtin.append_ #[75, 75] o.type #[.slice a0 0 c, .slice (some ad) 1 1]).run Tryz.prog w = .ok v' w' → (∃ a' c', v' = .slice a' 1 c' ∧ SRd intE w' a' [k] ∧ w.grownBy w' (a0.map (·.block)) ∧ (∀ y, a' = some y → (a0.map (·.block) = some y.block ∨ w.heap.size ≤ y.block) ∧ y.block < w'.heap.size) ∧ (a' = none → c' = 0)) → Oper.wp Tryz.prog o a w K Q := by
    rintro v' w' hrun ⟨a', c', rfl, g1, g2, g3, g4⟩
    unfold Oper.wp
    simp [execOp, ho, resolve, invoke, builtin, hs, hx, hrun, Result.andThen]
    exact h a' c' w' g1 g2 g3 g4
  have own : ∀ v' w' base, SOwn intE 3 w' base v' 1 [k] → w.grownBy w' none → w.heap.size ≤ base ∨ base = 0 ∧ a0 = none → (∀ g, v'.ownBlock = some g → w.heap.size ≤ g) → ∃ a' c', v' = .slice a' 1 c' ∧ SRd intE w' a' [k] ∧ w.grownBy w' (a0.map (·.block)) ∧ (∀ y, a' = some y → (a0.map (·.block) = some y.block ∨ w.heap.size ≤ y.block) ∧ y.block < w'.heap.size) ∧ (a' = none → c' = 0) := by
    intro v' w' base hown hg _ hge
    obtain ⟨a', c', rfl⟩ : ∃ a' c', v' = .slice a' 1 c' := by
      rcases hown.2 with ⟨h', h0⟩ | ⟨g, cap, cur, h', _⟩
      · cases h0
      · exact ⟨_, _, h'⟩
    refine ⟨a', c', rfl, SOwn.rd hown, gb_any hg _, fun y hy => ?_, fun e => (sown_cap hown).2 e⟩
    subst hy
    exact ⟨.inr (hge y.block rfl), (hown.block y.block rfl).2⟩
  cases a0 with
  | none =>
    have hc0 := ht.2.1 rfl
    subst hc0
    obtain ⟨v', w', hrun, hown', hg, _, hwh⟩ := run_append_own_at (P := Tryz.prog) w 0 75 o.type 3 i0 z intE.size 8 intET.under hi hz0 hz1 hz2 hz3 intE.pos (.slice none 0 0) 0 [] (World.ownsRow_nil w 0 3 intE.size) ad 1 1 (intE.flat [k]) (intE.flat_len [k]) hr.news hone (by unfold maxLen; omega) (by omega) (Nat.zero_le _)
    refine done v' w' hrun (own v' w' 0 (by have h9 := hown'; simp only [Nat.zero_add, List.nil_append] at h9; exact h9) hg (.inr ⟨rfl, rfl⟩) (fun g hgg => ?_))
    rcases hwh with e | e
    · rw [e] at hgg; cases hgg
    · rw [e] at hgg; exact Nat.le_of_eq (Option.some.inj hgg)
  | some y0 =>
    obtain ⟨hsp, cur, hcur, hle⟩ := ht.1 y0 rfl
    obtain ⟨b, off, sp⟩ := y0
    dsimp only at hsp hcur hle
    subst hsp
    by_cases hroom : 1 ≤ c
    · have hlt : off < cur.size := by omega
      have hcell : ∀ j, j < (intE.flat [k]).length → (w.cell? ⟨b, off + 0 * i0.size + j, none⟩).isSome = true := fun j hj => by
        have hj0 : j = 0 := by simp [intE, Elem.flat] at hj; exact hj
        subst hj0
        unfold World.cell?
        simp only [Nat.zero_mul, Nat.add_zero, hcur]
        simp [hlt]
      have hfr : ∀ j, j < (intE.flat [k]).length → w.frozen? ⟨b, off + 0 * i0.size + j, none⟩ = false := fun j hj => by
        unfold World.frozen?
        simp only [hcur]
        simp
      have hrun := run_append_room_cells (P := Tryz.prog) w 75 o.type 3 i0 intET.under hi b off 0 c ad 1 1 (intE.flat [k]) (by rw [hz1]; exact intE.flat_len [k]) hr.news hone (by omega) hcell hfr
      have hwe : w.setCells b (off + 0 * i0.size) (intE.flat [k]) = w.setCell ⟨b, off, none⟩ (.int .i64 k) := by
        rw [Nat.zero_mul, Nat.add_zero]
        rfl
      rw [hwe, Nat.zero_add] at hrun
      refine done _ _ hrun ⟨_, _, rfl, .inr ⟨b, off, rfl, fun j v hj => ?_⟩, gb_set rfl, fun y hy => ?_, fun e => nomatch e⟩
      · have hj0 : j = 0 := by
          have := (List.getElem?_eq_some_iff.1 hj).1
          simp [intE, Elem.flat] at this
          exact this
        subst hj0
        have hv : v = .int .i64 k := by
          simp [intE, Elem.flat] at hj
          exact hj.symm
        subst hv
        have hsome : (w.cell? ⟨b, off, none⟩).isSome = true := by have := hcell 0 (by simp [intE, Elem.flat]); simpa using this
        exact World.cell?_setCell_same' w _ _ hsome
      · cases hy
        refine ⟨.inl rfl, ?_⟩
        have h8 : b < w.heap.size := (Array.getElem?_eq_some_iff.1 hcur).1
        simpa [World.setCell] using h8
    · have hc0 : c = 0 := by omega
      subst hc0
      obtain ⟨v', w', hrun, hown', hg⟩ := run_append_arg_grows (P := Tryz.prog) w 75 o.type 3 i0 z intE.size 8 intET.under hi hz0 hz1 hz2 hz3 intE.pos ⟨b, off, none⟩ 0 0 [] rfl (fun j u hj => by cases hj) ad 1 1 (intE.flat [k]) (intE.flat_len [k]) hr.news (by omega) (by unfold maxLen; omega) (by omega)
      have hso : SOwn intE 3 w' w.heap.size v' 1 [k] := by have h9 := hown'; simp only [Nat.zero_add, List.nil_append] at h9; exact h9
      refine done v' w' hrun (own v' w' w.heap.size hso hg (.inl (Nat.le_refl _)) (fun g hgg => ?_))
      exact (hso.block g hgg).1
end Go.Proofs.YtekejnjaiccnbaaGreatDoor

/- A log whose slice of numbers may be the empty end of another one: roll, write. -/
namespace Go.Proofs.YtekejnjaiccnbaaGreatDoor
open Go.RowKit Go.Maps Go.Sort
set_option linter.unusedVariables false
set_option maxRecDepth 20000

/-- A log's struct in block p, read alone; with no segments it may still be appended to. -/
def WalR (w : World) (p d : Nat) (dir cp : ByteArray) (segs : List Nat) (op : Nat) (A : Nat → Prop) : Prop := ∃ a c, WRow w p d dir cp (.slice a segs.length c) (op : Int) ∧ (SRd intE w a (nI segs) ∧ (segs = [] → TailOk w a c)) ∧ A p ∧ (∀ y, a = some y → A y.block ∧ y.block ≠ p)
structure LogR (w : World) (base d mb n : Nat) (x : DSt) (p : Nat) (dir cp : ByteArray) (segs : List Nat) (op : Nat) (A B : Nat → Prop) : Prop where
  disk : DS w base d mb n x B
  wal : WalR w p d dir cp segs op A
  apart : ∀ k, A k → ¬ B k
  ltB : ∀ k, B k → k < w.heap.size
  ltA : ∀ k, A k → k < w.heap.size
theorem srd_keptE {w w' : World} {X : Nat → Prop} {a : Option Addr} {l : List Int} (h : SRd intE w a l) (hk : Kept w w' X) (hb : ∀ y, a = some y → y.block < w.heap.size ∧ ¬ X y.block) : SRd intE w' a l := by
  rcases h with h | ⟨b, off, e, h⟩
  · exact .inl h
  · refine .inr ⟨b, off, e, fun j v hj => ?_⟩
    exact cell_kept hk (hb _ e).1 (hb _ e).2 (h j v hj)
theorem tail_kept {w w' : World} {X : Nat → Prop} {a : Option Addr} {l : List Int} {c : Nat} {P : Prop} (h : SRd intE w a l ∧ (P → TailOk w a c)) (hk : Kept w w' X) (hb : ∀ y, a = some y → y.block < w.heap.size ∧ ¬ X y.block) : SRd intE w' a l ∧ (P → TailOk w' a c) :=
  ⟨srd_keptE h.1 hk hb, fun hp => (h.2 hp).kept (fun y hy => hk.block _ (hb y hy).1 (hb y hy).2)⟩
theorem WalR.kept {w w' : World} {p d : Nat} {dir cp : ByteArray} {segs : List Nat} {op : Nat} {A X : Nat → Prop} (h : WalR w p d dir cp segs op A) (hlt : ∀ k, A k → k < w.heap.size) (hg : Kept w w' X) (hX : ∀ k, A k → ¬ X k) : WalR w' p d dir cp segs op A := by
  obtain ⟨a, c, h1, h2, h3, h4⟩ := h
  exact ⟨a, c, h1.of_block (hg.block p h1.lt (hX p h3)), tail_kept h2 hg (fun y hy => ⟨hlt _ (h4 y hy).1, hX _ (h4 y hy).1⟩), h3, h4⟩
theorem TailOk.grown {w w' : World} {a : Option Addr} {c : Nat} (h : TailOk w a c) (hg : w.grownBy w' none) : TailOk w' a c :=
  h.kept (fun y hy => by obtain ⟨_, cur, h1, _⟩ := h.1 y hy; exact hg.block _ (Array.getElem?_eq_some_iff.1 h1).1 (by simp))
theorem LogR.grown {w w' : World} {base d mb n : Nat} {x : DSt} {p : Nat} {dir cp : ByteArray} {segs : List Nat} {op : Nat} {A B : Nat → Prop} (h : LogR w base d mb n x p dir cp segs op A B) (hg : w.grownBy w' none) : LogR w' base d mb n x p dir cp segs op A B :=
  ⟨DV.kept h.disk hg, h.wal.kept h.ltA (Kept.of hg (X := fun _ => False) (fun k hk => by cases hk)) (fun _ _ h => h), h.apart, fun k hk => Nat.lt_of_lt_of_le (h.ltB k hk) hg.size, fun k hk => Nat.lt_of_lt_of_le (h.ltA k hk) hg.size⟩
theorem LogR.write {w w' : World} {base d mb n n' : Nat} {x x' : DSt} {p : Nat} {dir cp : ByteArray} {segs : List Nat} {op : Nat} {A B B' : Nat → Prop} (h : LogR w base d mb n x p dir cp segs op A B) (hd : DS w' base d mb n' x' B') (hs : Step w w' B B') :
    ∃ B'', LogR w' base d mb n' x' p dir cp segs op A B'' ∧ Step2 w w' A B A B'' := by
  refine ⟨fun k => B' k ∧ k < w'.heap.size, ⟨hd.bound, h.wal.kept h.ltA hs.1 (fun k ha hb => h.apart k ha hb), fun k ha hb => ?_, fun k hb => hb.2, fun k ha => Nat.lt_of_lt_of_le (h.ltA k ha) hs.1.size⟩, ⟨hs.1.mono (fun k _ hb => .inr hb), fun k hk hb => hs.2 k hk hb.1, fun k _ ha => ha⟩⟩
  exact h.apart k ha (hs.2 k (h.ltA k ha) hb.1)
theorem LogR.setOpen {w : World} {base d mb n : Nat} {x : DSt} {p : Nat} {dir cp : ByteArray} {segs : List Nat} {op : Nat} {A B : Nat → Prop} (h : LogR w base d mb n x p dir cp segs op A B) (op' : Nat) (u : Int) (hu : u = (op' : Int)) :
    LogR (w.setCell ⟨p, 4, none⟩ (.int .i64 u)) base d mb n x p dir cp segs op' A B ∧ Step2 w (w.setCell ⟨p, 4, none⟩ (.int .i64 u)) A B A B := by
  subst hu
  have hg : w.grownBy (w.setCell ⟨p, 4, none⟩ (.int .i64 (op' : Int))) (some p) := gb_set rfl
  obtain ⟨a, c, h1, h2, h3, h4⟩ := h.wal
  have hk : Kept w (w.setCell ⟨p, 4, none⟩ (.int .i64 (op' : Int))) (fun k => k = p) := Kept.of hg (fun k hk => by cases hk; rfl)
  refine ⟨⟨h.disk.others hk (fun k hb e => by subst e; exact h.apart _ h3 hb), ⟨a, c, (h1.set 4 (.int .i64 (op' : Int))).congr (five rfl rfl rfl rfl rfl), tail_kept h2 hk (fun y hy => ⟨h.ltA _ (h4 y hy).1, (h4 y hy).2⟩), h3, h4⟩, h.apart, fun k hb => Nat.lt_of_lt_of_le (h.ltB k hb) hg.size, fun k ha => Nat.lt_of_lt_of_le (h.ltA k ha) hg.size⟩, ⟨hk.mono (fun k _ e => by subst e; exact .inl h3), fun k _ hb => hb, fun k _ ha => ha⟩⟩
set_option maxHeartbeats 8000000 in
theorem w_rollR (base d mb n : Nat) (x : DSt) (p : Nat) (dir cp : ByteArray) (segs : List Nat) (op : Nat) (A B : Nat → Prop) (w : World) (hdir : dirB dir = true) (ht : Tab w) (h : LogR w base d mb n x p dir cp segs op A B) (hon : x.off = false) (hset : x.set = false) (hok : x.ok) (hop : op < 99999999) :
    Calls Tryz.prog 48 #[.pointer (some ⟨p, 0, none⟩)] w fun e w' => e = .returned (.tuple #[]) ∧ ∃ n' B', n' ≤ n ∧ LogR w' base d mb n' (rollX x dir op).1 p dir cp segs (rollX x dir op).2 A B' ∧ Step2 w w' A B A B' := by
  have hds : dir.size ≤ 32 := by simp only [dirB, Bool.and_eq_true, decide_eq_true_eq] at hdir; exact hdir.2
  have HL : Hid (LogR w base d mb n x p dir cp segs op A B) := h
  have HT : Hid (Tab w) := ht
  have hnm := seg_name hdir op
  obtain ⟨a, c, hW, _⟩ := h.wal
  obtain ⟨c0, c1, c2, c3, c4⟩ := hW.cells
  have HW : Hid (WRow w p d dir cp (.slice a segs.length c) (op : Int)) := hW
  have HGD : Hid (w.grownBy w.drew none) := gb_drew (World.grownBy.refl _ _)
  have HSG : Hid (Calls Tryz.prog 54 #[.pointer (some ⟨p, 0, none⟩), .int .i64 (op : Int)] w.drew fun e w' => e = .returned (.string (segN dir op)) ∧ w.drew.grownBy w' none) := w_segment p d dir cp _ _ op (by omega) _ (by omega) (ht.grown HGD.out) (hW.kept HGD.out (by simp))
  have HRD : Hid (∀ w1, w.grownBy w1 none → Calls Tryz.prog 78 #[.pointer (some ⟨d, 0, none⟩), .string (segN dir op)] w1 fun e w' => ∃ a c, e = .returned (.tuple #[.slice a (x.read (segN dir op)).1.length c, .int .i64 (x.read (segN dir op)).2]) ∧ SOwn byteE 5 w' w1.heap.size (.slice a (x.read (segN dir op)).1.length c) (x.read (segN dir op)).1.length (x.read (segN dir op)).1 ∧ (∀ z ∈ (x.read (segN dir op)).1, 0 ≤ z ∧ z ≤ 255) ∧ (x.read (segN dir op)).1.length ≤ 4194304 ∧ w1.grownBy w' none) := fun w1 hg => x_read base d mb n x B (segN dir op) w1 (DV.kept h.disk hg) hnm
  clear h hW c1 c2 c3
  go_enter Tryz.func48, Tryz.ntmps48
  go_upto_region 0 with fail
  go_cut [2, 3] from 4 (fun t2 t3 wc => ∃ a c, t2 = .slice a (x.read (segN dir op)).1.length c ∧ t3 = .int .i64 (x.read (segN dir op)).2 ∧ w.grownBy wc none)
  case first =>
    go_region_held3 (fun W => W.cell? ⟨p, 0, none⟩ = some (.pointer (some ⟨d, 0, none⟩)) ∧ W.cell? ⟨p, 4, none⟩ = some (.int .i64 (op : Int))) (go_keep) (first
      | (go_at_call 54; refine HSG.out.mono ?_; rintro e w1 ⟨rfl, hg1⟩; have HG1 : Hid (w.grownBy w1 none) := HGD.out.trans hg1; have c0' := (HW.out.kept HG1.out (by simp)).cells.1; have c4' := (HW.out.kept HG1.out (by simp)).cells.2.2.2.2; clear hg1)
      | (go_at_call 78; refine (HRD.out _ HG1.out).mono ?_; rintro e w2 ⟨a2, k2, rfl, _, _, _, hg2⟩; have HG2 : Hid (w.grownBy w2 none) := HG1.out.trans hg2; have c0'' := (HW.out.kept HG2.out (by simp)).cells.1; have c4'' := (HW.out.kept HG2.out (by simp)).cells.2.2.2.2; clear hg2))
    all_goals (go_wp2; go_meet)
    all_goals exact ⟨a2, k2, rfl, rfl, HG2.out⟩
  case rest =>
    obtain ⟨a2, k2, rfl, rfl, hgc⟩ := hcut
    rename World => w0
    have hLc := HL.out.grown hgc
    have HGc : Hid (w.grownBy w0 none) := hgc
    have HLc : Hid (LogR w0 base d mb n x p dir cp segs op A B) := hLc
    have HTc : Hid (Tab w0) := HT.out.grown hgc
    have HD0 := fun w => w_done0 w
    cases hV : x.V (segN dir op) with
    | none =>
      have e1 : x.read (segN dir op) = ([], 62) := by unfold DSt.read; rw [hon, hV]; rfl
      have HX : Hid (rollX x dir op = (x, op)) := by show _ = _; unfold rollX; rw [hV]
      rw [e1]
      clear hgc hLc hV e1 HSG HRD
      go_wp2
      refine bodyPost_ret (results_none rfl _ _ _) rfl ?_
      rw [HX.out]
      exact ⟨rfl, n, B, Nat.le_refl _, HLc.out, Step2.grown A B HGc.out⟩
    | some q =>
      have e1 : x.read (segN dir op) = (q.1, 0) := by unfold DSt.read; rw [hon, hV]; rfl
      rw [e1]
      obtain ⟨L, eL⟩ : ∃ L, L = q.1.length := ⟨_, rfl⟩
      rw [← eL]
      by_cases hbig : 4096 ≤ L
      · have HX : Hid (rollX x dir op = ((x.sync (segN dir op)).2, op + 1)) := by show _ = _; unfold rollX; rw [hV]; exact if_pos (by rw [← eL]; exact hbig)
        have HS1 : Hid ((x.sync (segN dir op)).1 = 0) := by show _ = _; unfold DSt.sync; rw [hon, hV]; unfold DSt.wr; simp [hset]
        have qb : decide ((4096 : Int) ≤ (L : Int)) = true := by simp; omega
        have HSY : Hid (∀ w1, w0.grownBy w1 none → Calls Tryz.prog 53 #[.pointer (some ⟨d, 0, none⟩), .string (segN dir op)] w1 fun e w' => e = .returned (.int .i64 0) ∧ ∃ n' B', n' ≤ n ∧ LogR w' base d mb n' (x.sync (segN dir op)).2 p dir cp segs op A B' ∧ Step2 w0 w' A B A B') := fun w1 hg => by
          have h1 := HLc.out.grown hg
          refine (x_syncN base d mb n x B (segN dir op) w1 h1.disk hok hnm).mono ?_
          rintro e w' ⟨rfl, n', B', hn', hd', hst⟩
          obtain ⟨B'', h2, h3⟩ := h1.write hd' hst
          exact ⟨by rw [HS1.out], n', B'', hn', h2, (Step2.grown A B hg).trans h3⟩
        have HCELL : Hid (∀ w2, (∃ n' B', n' ≤ n ∧ LogR w2 base d mb n' (x.sync (segN dir op)).2 p dir cp segs op A B' ∧ Step2 w0 w2 A B A B') → w2.cell? ⟨p, 0, none⟩ = some (.pointer (some ⟨d, 0, none⟩)) ∧ w2.cell? ⟨p, 4, none⟩ = some (.int .i64 (op : Int))) := by
          rintro w2 ⟨n', B', _, h2, h3⟩
          obtain ⟨a2, c2, hW2, _⟩ := h2.wal
          exact ⟨hW2.cells.1, hW2.cells.2.2.2.2⟩
        obtain ⟨a3, c3, hW3, _⟩ := HLc.out.wal
        have HGD2 : Hid (w0.grownBy w0.drew none) := gb_drew (World.grownBy.refl _ _)
        have HSG2 : Hid (Calls Tryz.prog 54 #[.pointer (some ⟨p, 0, none⟩), .int .i64 (op : Int)] w0.drew fun e w' => e = .returned (.string (segN dir op)) ∧ w0.drew.grownBy w' none) := w_segment p d dir cp _ _ op (by omega) _ (by omega) (HTc.out.grown HGD2.out) (hW3.kept HGD2.out (by simp))
        have HW3 : Hid (WRow w0 p d dir cp (.slice a3 segs.length c3) (op : Int)) := hW3
        have y0 := hW3.cells.1
        have y4 := hW3.cells.2.2.2.2
        clear hgc hLc hV e1 HSG HRD eL hW3
        go_wp2_with fail
        refine (HD0 _).mono ?_
        rintro e w1 ⟨rfl, rfl⟩
        go_upto_region 4 with fail
        go_cut [] from 25 (fun wx => ∃ n' B', n' ≤ n ∧ LogR wx base d mb n' (x.sync (segN dir op)).2 p dir cp segs op A B' ∧ Step2 w0 wx A B A B')
        case first =>
          go_region_held3 (fun W => W.cell? ⟨p, 0, none⟩ = some (.pointer (some ⟨d, 0, none⟩)) ∧ W.cell? ⟨p, 4, none⟩ = some (.int .i64 (op : Int))) (go_keep) (first
            | (go_at_call 54; refine HSG2.out.mono ?_; rintro e w1 ⟨rfl, hg1⟩; have HG1 : Hid (w0.grownBy w1 none) := HGD2.out.trans hg1; have c0' := (HW3.out.kept HG1.out (by simp)).cells.1; have c4' := (HW3.out.kept HG1.out (by simp)).cells.2.2.2.2; clear hg1)
            | (go_at_call 53; refine (HSY.out _ HG1.out).mono ?_; rintro e w2 ⟨rfl, hx2⟩; have HX2 : Hid (∃ n' B', n' ≤ n ∧ LogR w2 base d mb n' (x.sync (segN dir op)).2 p dir cp segs op A B' ∧ Step2 w0 w2 A B A B') := hx2; obtain ⟨c0'', c4''⟩ := HCELL.out w2 hx2; clear hx2)
            | (go_at_call 52; refine (HD0 _).mono ?_; rintro e w3 ⟨rfl, rfl⟩))
          all_goals (go_wp2; go_meet)
          all_goals exact HX2.out
        case rest =>
          obtain ⟨n', B', hn', hL', hS'⟩ := hcut
          obtain ⟨a4, c4', hW4, _⟩ := hL'.wal
          have x4 := hW4.cells.2.2.2.2
          have z4 := hW4.frozen 4
          have HFIN : Hid (LogR (wc.setCell ⟨p, 4, none⟩ (.int .i64 ((op : Int) + 1))) base d mb n' (x.sync (segN dir op)).2 p dir cp segs (op + 1) A B' ∧ Step2 wc (wc.setCell ⟨p, 4, none⟩ (.int .i64 ((op : Int) + 1))) A B' A B') := hL'.setOpen (op + 1) _ (by omega)
          have HS' : Hid (Step2 w0 wc A B A B') := hS'
          clear hL' hS' hW4
          go_wp2
          go_end0
          rw [HX.out]
          exact ⟨rfl, n', B', hn', HFIN.out.1, ((Step2.grown A B HGc.out).trans HS'.out).trans HFIN.out.2⟩
      · have HX : Hid (rollX x dir op = (x, op)) := by show _ = _; unfold rollX; rw [hV]; exact if_neg (by rw [← eL]; exact hbig)
        have qb : decide ((4096 : Int) ≤ (L : Int)) = false := by simp; omega
        clear hgc hLc hV e1 HSG HRD eL
        go_wp2_with fail
        refine (HD0 _).mono ?_
        rintro e w1 ⟨rfl, rfl⟩
        go_wp2
        go_end0
        rw [HX.out]
        exact ⟨rfl, n, B, Nat.le_refl _, HLc.out, Step2.grown A B HGc.out⟩
/-- The struct's segments were written. -/
theorem LogR.addSeg {w w2 : World} {base d mb n : Nat} {x : DSt} {p : Nat} {dir cp : ByteArray} {op c2 : Nat} {A B : Nat → Prop} {a a2 : Option Addr} {c : Nat} {o : Obj} (h : LogR w base d mb n x p dir cp [] op A B) (hW : WRow w p d dir cp (.slice a 0 c) (op : Int)) (hA : ∀ y, a = some y → A y.block ∧ y.block ≠ p) (hAp : A p) (ho2 : SRd intE w2 a2 [(op : Int)]) (hg2 : (w.drew.alloc o).grownBy w2 (a.map (·.block))) (hgg : ∀ y, a2 = some y → (a.map (·.block) = some y.block ∨ (w.drew.alloc o).heap.size ≤ y.block) ∧ y.block < w2.heap.size) :
    ∃ A', LogR (w2.setCell ⟨p, 3, none⟩ (.slice a2 1 c2)) base d mb n x p dir cp [op] op A' B ∧ Step2 w (w2.setCell ⟨p, 3, none⟩ (.slice a2 1 c2)) A B A' B := by
  obtain ⟨g, off, ea2, _⟩ := ho2.at (by simp)
  have hgg := hgg _ ea2
  dsimp only at hgg
  have hza : (w.drew.alloc o).heap.size = w.heap.size + 1 := Array.size_push _
  have hgs : w2.grownBy (w2.setCell ⟨p, 3, none⟩ (.slice a2 1 c2)) (some p) := gb_set rfl
  have hg0 : w.grownBy (w.drew.alloc o) none := (gb_drew (World.grownBy.refl w none)).trans (World.grownBy_alloc _ o none)
  have hown : ∀ k, a.map (·.block) = some k → A k ∧ k ≠ p := fun k hk => by
    cases a with
    | none => cases hk
    | some y => have e : y.block = k := Option.some.inj hk; subst e; exact hA y rfl
  have hpne : some p ≠ a.map (·.block) := fun e => (hown p e.symm).2 rfl
  have hW2 : WRow w2 p d dir cp (.slice a 0 c) (op : Int) := (hW.kept hg0 (by simp)).kept hg2 hpne
  have hgp : g ≠ p := by
    rcases hgg.1 with h1 | h1
    · exact (hown g h1).2
    · have := hW.lt; omega
  have hgl : g < w2.heap.size := hgg.2
  have hk : Kept w (w2.setCell ⟨p, 3, none⟩ (.slice a2 1 c2)) A := by
    refine ((Kept.of hg0 (fun k hk => by cases hk)).trans (Kept.of hg2 (X := A) (fun k hk => (hown k hk).1)) (fun k _ hk => hk)).trans (Kept.of hgs (X := A) (fun k hk => by cases hk; exact hAp)) (fun k _ hk => hk)
  refine ⟨fun k => A k ∨ k = g, ⟨?_, ⟨a2, c2, ?_, ⟨?_, fun e => by cases e⟩, .inl hAp, fun y hy => by rw [ea2] at hy; cases hy; exact ⟨.inr rfl, hgp⟩⟩, ?_, fun k hb => Nat.lt_of_lt_of_le (h.ltB k hb) hk.size, fun k ha => ?_⟩, ⟨hk.mono (fun k _ ha => .inl ha), fun k _ hb => hb, fun k hlt ha => ?_⟩⟩
  · exact h.disk.others hk (fun k hb ha => h.apart k ha hb)
  · exact (hW2.set 3 _).congr (five rfl rfl rfl rfl rfl)
  · exact SRd.grown ho2 hgs (fun y hy => by rw [ea2] at hy; cases hy; exact fun e => hgp (Option.some.inj e))
  · rintro k (ha | rfl) hb
    · exact h.apart k ha hb
    · rcases hgg.1 with h1 | h1
      · exact h.apart k (hown k h1).1 hb
      · have := h.ltB k hb; omega
  · rcases ha with ha | rfl
    · exact Nat.lt_of_lt_of_le (h.ltA k ha) hk.size
    · exact Nat.lt_of_lt_of_le hgl hgs.size
  · rcases ha with ha | rfl
    · exact ha
    · rcases hgg.1 with h1 | h1
      · exact (hown k h1).1
      · omega
set_option maxHeartbeats 8000000 in
theorem w_writeR (base d mb n : Nat) (x : DSt) (p : Nat) (dir cp : ByteArray) (op : Nat) (A B : Nat → Prop) (ad : Addr) (zs : List Int) (M cd : Nat) (w : World) (hdir : dirB dir = true) (ht : Tab w) (h : LogR w base d mb n x p dir cp [] op A B) (hon : x.off = false) (hset : x.set = false) (hok : x.ok) (hop : op < 99999999) (hn : n < 1048576) (hr : SRd byteE w (some ad) zs) (hM : zs.length = M) (hby : ∀ z ∈ zs, 0 ≤ z ∧ z ≤ 255) (hlen : (oldV x.V (segN dir op)).1.length + M ≤ 4194304) (hb : base ≤ w.heap.size) (had : ¬ B ad.block) (hadl : ad.block < w.heap.size) :
    Calls Tryz.prog 49 #[.pointer (some ⟨p, 0, none⟩), .slice (some ad) M cd] w fun e w' => e = .returned (.tuple #[]) ∧ ∃ n' A' B', n' ≤ n + 1 ∧ LogR w' base d mb n' (x.append (segN dir op) zs).2 p dir cp ([op]) op A' B' ∧ Step2 w w' A B A' B' := by
  have hds : dir.size ≤ 32 := by simp only [dirB, Bool.and_eq_true, decide_eq_true_eq] at hdir; exact hdir.2
  have HL : Hid (LogR w base d mb n x p dir cp [] op A B) := h
  have hnm := seg_name hdir op
  obtain ⟨a, c, hW, _⟩ := h.wal
  obtain ⟨c0, c1, c2, c3, c4⟩ := hW.cells
  have HW : Hid (WRow w p d dir cp (.slice a 0 c) (op : Int)) := hW
  have HGD : Hid (w.grownBy w.drew none) := gb_drew (World.grownBy.refl _ _)
  have HSG : Hid (Calls Tryz.prog 54 #[.pointer (some ⟨p, 0, none⟩), .int .i64 (op : Int)] w.drew fun e w' => e = .returned (.string (segN dir op)) ∧ w.drew.grownBy w' none) := w_segment p d dir cp _ _ op (by omega) _ (by omega) (ht.grown HGD.out) (hW.kept HGD.out (by simp))
  have HA1 : Hid ((x.append (segN dir op) zs).1 = 0) := by show _ = _; unfold DSt.append; rw [hon]; unfold DSt.wr; simp [hset]
  have hBd : B d := by obtain ⟨F, G, _, _, hb⟩ := h.disk; exact hb d (.inl rfl)
  have hBm : B mb := by obtain ⟨F, G, _, _, hb⟩ := h.disk; exact hb mb (.inr (.inl rfl))
  have HAP : Hid (∀ w1, w.grownBy w1 none → Calls Tryz.prog 27 #[.pointer (some ⟨d, 0, none⟩), .string (segN dir op), .slice (some ad) M cd] w1 fun e w' => e = .returned (.int .i64 0) ∧ ∃ n' B', n' ≤ n + 1 ∧ LogR w' base d mb n' (x.append (segN dir op) zs).2 p dir cp [] op A B' ∧ Step2 w w' A B A B') := fun w1 hg => by
    have h1 := HL.out.grown hg
    refine (x_append base d mb n x B (segN dir op) ad zs M cd w1 h1.disk hok hnm hn (hr.grown hg (by simp)) hM hby hlen (Nat.le_trans hb hg.size) (fun e => had (e ▸ hBm)) (fun e => had (e ▸ hBd))).mono ?_
    rintro e w' ⟨rfl, n', B', hn', hd', hst⟩
    obtain ⟨B'', h2, h3⟩ := h1.write hd' hst
    exact ⟨by rw [HA1.out], n', B'', hn', h2, (Step2.grown A B hg).trans h3⟩
  have HCELL : Hid (∀ w2, (∃ n' B', n' ≤ n + 1 ∧ LogR w2 base d mb n' (x.append (segN dir op) zs).2 p dir cp [] op A B' ∧ Step2 w w2 A B A B') → w2.cell? ⟨p, 0, none⟩ = some (.pointer (some ⟨d, 0, none⟩)) ∧ w2.cell? ⟨p, 4, none⟩ = some (.int .i64 (op : Int))) := by
    rintro w2 ⟨n', B', _, h2, h3⟩
    obtain ⟨a2, c2, hW2, _⟩ := h2.wal
    exact ⟨hW2.cells.1, hW2.cells.2.2.2.2⟩
  clear h hW c1 c2 c3 hr hby hlen had hadl hBd hBm hM
  go_enter Tryz.func49, Tryz.ntmps49
  go_upto_region 0 with fail
  go_cut [4] from 5 (fun t4 wc => t4 = .int .i64 0 ∧ ∃ n' B', n' ≤ n + 1 ∧ LogR wc base d mb n' (x.append (segN dir op) zs).2 p dir cp [] op A B' ∧ Step2 w wc A B A B')
  case first =>
    go_region_held3 (fun W => W.cell? ⟨p, 0, none⟩ = some (.pointer (some ⟨d, 0, none⟩)) ∧ W.cell? ⟨p, 4, none⟩ = some (.int .i64 (op : Int))) (go_keep) (first
      | (go_at_call 54; refine HSG.out.mono ?_; rintro e w1 ⟨rfl, hg1⟩; have HG1 : Hid (w.grownBy w1 none) := HGD.out.trans hg1; have c0' := (HW.out.kept HG1.out (by simp)).cells.1; have c4' := (HW.out.kept HG1.out (by simp)).cells.2.2.2.2; clear hg1)
      | (go_at_call 27; refine (HAP.out _ HG1.out).mono ?_; rintro e w2 ⟨rfl, hx2⟩; have HX2 : Hid (∃ n' B', n' ≤ n + 1 ∧ LogR w2 base d mb n' (x.append (segN dir op) zs).2 p dir cp [] op A B' ∧ Step2 w w2 A B A B') := hx2; obtain ⟨c0'', c4''⟩ := HCELL.out w2 hx2; clear hx2))
    all_goals (go_wp2; go_meet)
    all_goals exact ⟨rfl, HX2.out⟩
  case rest =>
    obtain ⟨rfl, n', B', hn', hL', hS'⟩ := hcut
    have HL' : Hid (LogR wc base d mb n' (x.append (segN dir op) zs).2 p dir cp [] op A B') := hL'
    have HS' : Hid (Step2 w wc A B A B') := hS'
    obtain ⟨a4, k4, hW4, hso4, hA4, hB4⟩ := hL'.wal
    have HD0 := fun w => w_done0 w
    have HHF : Hid (Calls Tryz.prog 50 #[.pointer (some ⟨p, 0, none⟩)] wc fun e w' => e = .returned (.bool (isOpen [] op)) ∧ ∃ k, w' = wc.drewN k) := w_hasFile p d dir cp a4 k4 [] op wc hW4 hso4.1 (by simp)
    have HW4 : Hid (WRow wc p d dir cp (.slice a4 0 k4) (op : Int)) := hW4
    have HSO4 : Hid (TailOk wc a4 k4) := hso4.2 rfl
    have HA4 : Hid (A p ∧ ∀ y, a4 = some y → A y.block ∧ y.block ≠ p) := ⟨hA4, hB4⟩
    clear hL' hS' hW4 hso4 hA4 hB4 HSG HAP
    go_wp2_with fail
    refine HHF.out.mono ?_
    rintro e w5 ⟨rfl, kq, rfl⟩
    obtain ⟨wk, ewk⟩ : ∃ wk, wk = wc.drewN kq := ⟨_, rfl⟩
    have hgk : wc.grownBy wk none := by rw [ewk]; exact gb_drewN wc kq
    have HLk : Hid (LogR wk base d mb n' (x.append (segN dir op) zs).2 p dir cp [] op A B') := HL'.out.grown hgk
    have HSk : Hid (Step2 w wk A B A B') := HS'.out.trans (Step2.grown A B' hgk)
    have HWk : Hid (WRow wk p d dir cp (.slice a4 0 k4) (op : Int)) := HW4.out.kept hgk (by simp)
    have HSOk : Hid (TailOk wk a4 k4) := TailOk.grown HSO4.out hgk
    rw [← ewk]
    clear ewk hgk HHF HL' HS' HW4 HSO4
    have ho : isOpen [] op = false := rfl
    rw [ho]
    have hWd : WRow (wk.alloc (.cells #[.int .i64 (op : Int)] 3)).drew p d dir cp (.slice a4 0 k4) (op : Int) := (HWk.out.alloc _).drew
    have x3 := HWk.out.cells.2.2.2.1
    have x4 := HWk.out.cells.2.2.2.2
    have y3 : (wk.alloc (.cells #[.int .i64 (op : Int)] 3)).cell? ⟨p, 3, none⟩ = some (.slice a4 0 k4) := hWd.cells.2.2.2.1
    have y4 : (wk.alloc (.cells #[.int .i64 (op : Int)] 3)).cell? ⟨p, 4, none⟩ = some (.int .i64 (op : Int)) := hWd.cells.2.2.2.2
    have HWd : Hid (WRow (wk.alloc (.cells #[.int .i64 (op : Int)] 3)).drew p d dir cp (.slice a4 0 k4) (op : Int)) := hWd
    have HOW : Hid (TailOk (wk.alloc (.cells #[.int .i64 (op : Int)] 3)).drew a4 k4) := TailOk.grown HSOk.out (gb_drew (World.grownBy_alloc wk _ none))
    have HPN : Hid (some p ≠ a4.map (·.block)) := by
      cases a4 with
      | none => exact (by simp : some p ≠ none)
      | some y => exact fun e => (HA4.out.2 y rfl).2 (Option.some.inj e).symm
    have HIL : Hid (SRd intE (wk.alloc (.cells #[.int .i64 (op : Int)] 3)).drew (some ⟨wk.heap.size, 0, none⟩) [(op : Int)]) := ilit wk.drew [(op : Int)]
    clear hWd ho
    have HSTEP : Hid (∀ a3 c3 w3, SRd intE w3 a3 [(op : Int)] → (wk.alloc (.cells #[.int .i64 (op : Int)] 3)).drew.grownBy w3 (a4.map (·.block)) → (∀ y, a3 = some y → (a4.map (·.block) = some y.block ∨ (wk.alloc (.cells #[.int .i64 (op : Int)] 3)).drew.heap.size ≤ y.block) ∧ y.block < w3.heap.size) → w3.cell? ⟨p, 3, none⟩ = some (.slice a4 0 k4) ∧ w3.frozen? ⟨p, 3, none⟩ = false ∧ ∃ A', LogR (w3.setCell ⟨p, 3, none⟩ (.slice a3 1 c3)) base d mb n' (x.append (segN dir op) zs).2 p dir cp [op] op A' B' ∧ Step2 wk (w3.setCell ⟨p, 3, none⟩ (.slice a3 1 c3)) A B' A' B') := by
      intro a3 c3 w3 ho3 hg3 hgg
      have hW3 := HWd.out.kept hg3 HPN.out
      exact ⟨hW3.cells.2.2.2.1, hW3.frozen 3, LogR.addSeg HLk.out HWk.out HA4.out.2 HA4.out.1 ho3 hg3 hgg⟩
    go_wp2_with fail
    go_region_law (refine step_append_tail rfl (.tmp 28) (.tmp 33) rfl a4 k4 (by simp [Act.eval]) HOW.out ⟨wk.heap.size, 0, none⟩ (op : Int) (by simp [Act.eval]) HIL.out ?_; intro a3 c3 w3 ho3 hg3 hgg hn3; obtain ⟨s3, z3, hx3⟩ := HSTEP.out a3 c3 w3 ho3 hg3 hgg; have HX3 : Hid (∃ A', LogR (w3.setCell ⟨p, 3, none⟩ (.slice a3 1 c3)) base d mb n' (x.append (segN dir op) zs).2 p dir cp [op] op A' B' ∧ Step2 wk (w3.setCell ⟨p, 3, none⟩ (.slice a3 1 c3)) A B' A' B') := hx3; clear ho3 hg3 hgg hn3 hx3)
    all_goals go_wp2_with fail
    all_goals refine (HD0 _).mono ?_
    all_goals rintro e w1 ⟨rfl, rfl⟩
    all_goals go_wp2
    all_goals go_end0
    all_goals (obtain ⟨A', h1, h2⟩ := HX3.out; exact ⟨rfl, n', A', B', hn', h1, HSk.out.trans h2⟩)
end Go.Proofs.YtekejnjaiccnbaaGreatDoor

/- A log whose slice of numbers may be the empty end of another one: Append, Sync. -/
namespace Go.Proofs.YtekejnjaiccnbaaGreatDoor
open Go.RowKit Go.Maps Go.Sort
set_option linter.unusedVariables false
set_option maxRecDepth 20000

set_option maxHeartbeats 8000000 in
theorem w_append1R (base d mb n : Nat) (x : DSt) (p q r : Nat) (dir cp : ByteArray) (op : Nat) (A B : Nat → Prop) (ad : Addr) (zs : List Int) (M cd : Nat) (w : World) (hdir : dirB dir = true) (ht : Tab w) (hf : Far A B) (h : LogR w base d mb n x p dir cp [] op A B) (hon : x.off = false) (hset : x.set = false) (hok : x.ok) (hw : x.wn ≤ 999999990) (hop : op < 99999998) (hn : n < 1048576) (hq : w.cell? ⟨q, 0, none⟩ = some (.pointer (some ⟨p, 0, none⟩))) (hqA : ¬ A q ∧ ¬ B q) (hrc : w.cell? ⟨r, 0, none⟩ = some (.slice (some ad) M cd)) (hrA : ¬ A r ∧ ¬ B r) (hr : SRd byteE w (some ad) (frameR zs)) (hM : (frameR zs).length = M) (hM0 : M ≠ 0) (hby : ∀ z ∈ frameR zs, 0 ≤ z ∧ z ≤ 255) (hlen : (oldV (rollX x dir op).1.V (segN dir (rollX x dir op).2)).1.length + M ≤ 4194304) (hb : base ≤ w.heap.size) (had : ¬ A ad.block ∧ ¬ B ad.block) (hadl : ad.block < w.heap.size) :
    Calls Tryz.prog 47 #[.pointer (some ⟨q, 0, none⟩), .pointer (some ⟨r, 0, none⟩)] w fun e w' => e = .returned (.tuple #[]) ∧ ∃ n' A' B', n' ≤ n + 1 ∧ LogR w' base d mb n' (appX x dir op zs) p dir cp [(rollX x dir op).2] (rollX x dir op).2 A' B' ∧ Step2 w w' A B A' B' := by
  have HRL : Hid (Calls Tryz.prog 48 #[.pointer (some ⟨p, 0, none⟩)] w fun e w' => e = .returned (.tuple #[]) ∧ ∃ n' B', n' ≤ n ∧ LogR w' base d mb n' (rollX x dir op).1 p dir cp [] (rollX x dir op).2 A B' ∧ Step2 w w' A B A B') := w_rollR base d mb n x p dir cp [] op A B w hdir ht h hon hset hok (by omega)
  have hrx := rollX_on x dir op hon hset hok hw
  have hql : q < w.heap.size := cell_lt hq
  have hrl : r < w.heap.size := cell_lt hrc
  clear h
  go_enter Tryz.func47, Tryz.ntmps47
  go_wp2_with fail
  refine HRL.out.mono ?_
  rintro e w1 ⟨rfl, n1, B1, hn1, hL1, hS1⟩
  have ht1 := ht.step hS1 hf
  have q1 : w1.cell? ⟨q, 0, none⟩ = some (.pointer (some ⟨p, 0, none⟩)) := cell_kept hS1.kept hql (fun h => h.elim hqA.1 hqA.2) hq
  have r1 : w1.cell? ⟨r, 0, none⟩ = some (.slice (some ad) M cd) := cell_kept hS1.kept hrl (fun h => h.elim hrA.1 hrA.2) hrc
  have HWR : Hid (Calls Tryz.prog 49 #[.pointer (some ⟨p, 0, none⟩), .slice (some ad) M cd] w1 fun e w' => e = .returned (.tuple #[]) ∧ ∃ n' A' B', n' ≤ n1 + 1 ∧ LogR w' base d mb n' (appX x dir op zs) p dir cp [(rollX x dir op).2] (rollX x dir op).2 A' B' ∧ Step2 w1 w' A B1 A' B') := w_writeR base d mb n1 (rollX x dir op).1 p dir cp (rollX x dir op).2 A B1 ad (frameR zs) M cd w1 hdir ht1.1 hL1 hrx.1 hrx.2.1 hrx.2.2.1 (by have := hrx.2.2.2.2.2; omega) (by omega) (srd_kept hr hS1.kept hadl (fun h => h.elim had.1 had.2)) hM hby hlen (Nat.le_trans hb hS1.kept.size) (fun h => had.2 (hS1.oldB _ hadl h)) (Nat.lt_of_lt_of_le hadl hS1.kept.size)
  have HS1 : Hid (Step2 w w1 A B A B1) := hS1
  clear hS1 hL1 ht1 HRL hq hrc
  go_wp2_with fail
  refine HWR.out.mono ?_
  rintro e w2 ⟨rfl, n2, A2, B2, hn2, hL2, hS2⟩
  have HR2 : Hid (n2 ≤ n + 1 ∧ LogR w2 base d mb n2 (appX x dir op zs) p dir cp [(rollX x dir op).2] (rollX x dir op).2 A2 B2 ∧ Step2 w w2 A B A2 B2) := ⟨by omega, hL2, HS1.out.trans hS2⟩
  clear hn2 hL2 hS2 HWR
  go_wp2
  go_end0
  exact ⟨rfl, n2, A2, B2, HR2.out⟩
theorem LogR.cell37 {w : World} {base d mb n : Nat} {x : DSt} {p : Nat} {dir cp : ByteArray} {segs : List Nat} {op s : Nat} {A B : Nat → Prop} {u : Value} (h : LogR w base d mb n x p dir cp segs op A B) (hA : ¬ A s) (hB : ¬ B s) : LogR (w.setCell ⟨s, 0, none⟩ u) base d mb n x p dir cp segs op A B ∧ w.grownBy (w.setCell ⟨s, 0, none⟩ u) (some s) := by
  have hg : w.grownBy (w.setCell ⟨s, 0, none⟩ u) (some s) := gb_set rfl
  have hk : Kept w (w.setCell ⟨s, 0, none⟩ u) (fun k => k = s) := Kept.of hg (fun k hk => by cases hk; rfl)
  exact ⟨⟨h.disk.others hk (fun k hb e => hB (e ▸ hb)), h.wal.kept h.ltA hk (fun k ha e => hA (e ▸ ha)), h.apart, fun k hb => Nat.lt_of_lt_of_le (h.ltB k hb) hg.size, fun k ha => Nat.lt_of_lt_of_le (h.ltA k ha) hg.size⟩, hg⟩
/-- What Append leaves. -/
def AppOutR (w : World) (base d mb n : Nat) (x : DSt) (p : Nat) (dir cp : ByteArray) (op : Nat) (A B : Nat → Prop) (rec : List Int) (e : Ending) (w' : World) : Prop := e = .returned (.int .i64 0) ∧ ∃ n' A' B', n' ≤ n + 1 ∧ LogR w' base d mb n' (appX x dir op rec) p dir cp [(rollX x dir op).2] (rollX x dir op).2 A' B' ∧ Step2 w w' A B A' B'
set_option maxHeartbeats 8000000 in
theorem w_appendR (base d mb n : Nat) (x : DSt) (p : Nat) (dir cp : ByteArray) (op : Nat) (A B : Nat → Prop) (a : Option Addr) (zs : List Int) (L cap : Nat) (w : World) (hdir : dirB dir = true) (ht : Tab w) (hf : Far A B) (h : LogR w base d mb n x p dir cp [] op A B) (hon : x.off = false) (hset : x.set = false) (hok : x.ok) (hw : x.wn ≤ 999999990) (hop : op < 99999998) (hn : n < 1048576) (hr : Rd w a zs) (hL : zs.length = L) (hnil : a = none → cap = 0) (hz : L ≤ 65536) (hlen : (oldV (rollX x dir op).1.V (segN dir (rollX x dir op).2)).1.length + (frameR zs).length ≤ 4194304) (hb : base ≤ w.heap.size) :
    Calls Tryz.prog 17 #[.pointer (some ⟨p, 0, none⟩), .slice a L cap] w (AppOutR w base d mb n x p dir cp op A B zs) := by
  have hfl : flist zs = frameR zs := by unfold flist; rw [if_neg (by omega)]
  have hfc : fcode zs = 0 := by unfold fcode; rw [if_neg (by omega)]
  have hgq : w.grownBy (w.alloc (.cells #[.pointer (some ⟨p, 0, none⟩)] 36)) none := World.grownBy_alloc w _ none
  have HFR : Hid (Calls Tryz.prog 25 #[.slice a L cap] (w.alloc (.cells #[.pointer (some ⟨p, 0, none⟩)] 36)) fun e w' => ∃ v N c, e = .returned (.tuple #[.slice v N c, .int .i64 0]) ∧ Out (w.alloc (.cells #[.pointer (some ⟨p, 0, none⟩)] 36)) w' v N c (frameR zs) ∧ (w.alloc (.cells #[.pointer (some ⟨p, 0, none⟩)] 36)).grownBy w' none) := f_frame a zs L cap (frameR zs) 0 _ (hr.grown hgq (by simp)) hL hnil (by omega) hfl hfc
  have HL : Hid (LogR w base d mb n x p dir cp [] op A B) := h
  have HT : Hid (Tab w) := ht
  have HGQ : Hid (w.grownBy (w.alloc (.cells #[.pointer (some ⟨p, 0, none⟩)] 36)) none) := hgq
  have hmf : ∀ (fn : Fn) (first cap : Array Value) (w : World), (Instr.makeFunc fn first cap).run Tryz.prog w = .ok (.func fn first cap) w := fun _ _ _ _ => rfl
  have hs1 : ∀ (w : World) o, (w.alloc o).heap.size = w.heap.size + 1 := fun w o => Array.size_push _
  clear h ht hgq hr hfl hfc
  go_enter Tryz.func17, Tryz.ntmps17
  go_wp2_with fail
  refine HFR.out.mono ?_
  rintro e w1 ⟨fv, FN, fc, rfl, hout, hg1⟩
  obtain ⟨ad, rfl⟩ : ∃ ad, fv = some ad := by
    cases fv with
    | some ad => exact ⟨ad, rfl⟩
    | none =>
      exfalso
      have h1 := hout.1
      have h2 := framing.pos zs
      have h3 := hout.2.2.1 rfl
      have h4 := hout.2.2.2.1
      omega
  go_wp2_with fail
  obtain ⟨W3, eW3⟩ : ∃ W3, W3 = w1.alloc (.cells #[.slice (some ad) FN fc] 27) := ⟨_, rfl⟩
  obtain ⟨W4, eW4⟩ : ∃ W4, W4 = W3.alloc (.cells #[.int .i64 0] 37) := ⟨_, rfl⟩
  have hz0 : (w.alloc (.cells #[.pointer (some ⟨p, 0, none⟩)] 36)).heap.size = w.heap.size + 1 := hs1 _ _
  have hz1 := hg1.size
  rw [hz0] at hz1
  have hz3 : W3.heap.size = w1.heap.size + 1 := by rw [eW3, hs1]
  have hz4 : W4.heap.size = w1.heap.size + 2 := by rw [eW4, hs1, hz3]
  have hg13 : w1.grownBy W4 none := by rw [eW4, eW3]; exact (World.grownBy_alloc w1 _ none).trans (World.grownBy_alloc _ _ none)
  have hgw4 : w.grownBy W4 none := (HGQ.out.trans hg1).trans hg13
  have hq4 : W4.rowIs w.heap.size 36 1 (fun _ => .pointer (some ⟨p, 0, none⟩)) := (row1 w (.pointer (some ⟨p, 0, none⟩)) 36).of_block ((hg1.trans hg13).block _ (by rw [hz0]; omega) (by simp))
  have hr4 : W4.rowIs w1.heap.size 27 1 (fun _ => .slice (some ad) FN fc) := by
    rw [eW4, eW3]
    exact (row1 w1 (.slice (some ad) FN fc) 27).alloc _
  have hs4 : W4.rowIs (w1.heap.size + 1) 37 1 (fun _ => .int .i64 0) := by
    have := row1 W3 (.int .i64 0) 37
    rw [hz3] at this
    rw [eW4]
    exact this
  have hL4 := HL.out.grown hgw4
  have hold : ∀ k, w.heap.size ≤ k → ¬ A k ∧ ¬ B k := fun k hk => ⟨fun ha => by have := HL.out.ltA k ha; omega, fun hb => by have := HL.out.ltB k hb; omega⟩
  have had : w.heap.size ≤ ad.block := by have := hout.2.2.2.2 ad rfl; rw [hz0] at this; omega
  have hfne : frameR zs ≠ [] := by have h2 := framing.pos zs; intro e; rw [e] at h2; simp at h2
  have hadl : ad.block < w1.heap.size := rd_lt hout.2.1 hfne
  have hpos := framing.pos zs
  have HC := w_caught47 #[.pointer (some ⟨w.heap.size, 0, none⟩), .pointer (some ⟨w1.heap.size, 0, none⟩)] (fun w2 => ∃ n' A' B', n' ≤ n + 1 ∧ LogR w2 base d mb n' (appX x dir op zs) p dir cp [(rollX x dir op).2] (rollX x dir op).2 A' B' ∧ Step2 W4 w2 A B A' B') W3 (by
    rw [← eW4, hz3]
    refine (w_append1R base d mb n x p w.heap.size w1.heap.size dir cp op A B ad zs FN fc W4 hdir (HT.out.grown hgw4) hf hL4 hon hset hok hw hop hn (hq4.cell (i := 0) (by omega)) (hold _ (Nat.le_refl _)) (hr4.cell (i := 0) (by omega)) (hold _ (by omega)) (rd_srd (hout.2.1.grown hg13 (by simp))) hout.1 (by have := hout.1; omega) hout.2.1.2 (by have := hout.1; omega) (Nat.le_trans hb hgw4.size) (hold _ had) (Nat.lt_of_lt_of_le hadl hg13.size)).mono ?_
    rintro e w2 ⟨rfl, n', A', B', h1, h2, h3⟩
    refine ⟨rfl, ⟨n', A', B', h1, h2, h3⟩, ?_⟩
    have hs5 := hs4.of_block (h3.kept.block _ hs4.lt (fun h => h.elim (hold _ (by omega)).1 (hold _ (by omega)).2))
    exact ⟨hs5.cell (i := 0) (by omega), hs5.frozen 0⟩)
  rw [hz3] at HC
  have HC : Hid (Calls Tryz.prog 43 #[.func (.func 47) #[] #[.pointer (some ⟨w.heap.size, 0, none⟩), .pointer (some ⟨w1.heap.size, 0, none⟩)]] W3 fun e w' => e = .returned (.int .i64 0) ∧ ∃ w2, (∃ n' A' B', n' ≤ n + 1 ∧ LogR w2 base d mb n' (appX x dir op zs) p dir cp [(rollX x dir op).2] (rollX x dir op).2 A' B' ∧ Step2 W4 w2 A B A' B') ∧ w' = w2.setCell ⟨w1.heap.size + 1, 0, none⟩ (.int .i64 0)) := HC
  have HFIN : Hid (∀ w2, (∃ n' A' B', n' ≤ n + 1 ∧ LogR w2 base d mb n' (appX x dir op zs) p dir cp [(rollX x dir op).2] (rollX x dir op).2 A' B' ∧ Step2 W4 w2 A B A' B') → AppOutR w base d mb n x p dir cp op A B zs (.returned (.int .i64 0)) (w2.setCell ⟨w1.heap.size + 1, 0, none⟩ (.int .i64 0))) := by
    rintro w2 ⟨n', A', B', h1, h2, h3⟩
    refine ⟨rfl, n', A', B', h1, (h2.cell37 (fun ha => (hold _ (by omega)).1 (h3.oldA _ (by rw [hz4]; omega) ha)) (fun hb => (hold _ (by omega)).2 (h3.oldB _ (by rw [hz4]; omega) hb))).1, ((Step2.grown A B hgw4).trans h3).cell (by omega)⟩
  rw [← eW3]
  clear hz0 hz1 hz3 hz4 hg13 hgw4 hq4 hr4 hs4 hL4 hold had hfne hadl eW3 eW4 hout hg1 hpos HFR
  refine HC.out.mono ?_
  rintro e w3 ⟨rfl, w2, hx, rfl⟩
  have HX : Hid (AppOutR w base d mb n x p dir cp op A B zs (.returned (.int .i64 0)) (w2.setCell ⟨w1.heap.size + 1, 0, none⟩ (.int .i64 0))) := HFIN.out w2 hx
  clear hx HC HFIN
  go_wp2
  go_ret
  exact HX.out
set_option maxHeartbeats 8000000 in
theorem w_sync1R (base d mb n : Nat) (x : DSt) (p q : Nat) (dir cp : ByteArray) (segs : List Nat) (op : Nat) (A B : Nat → Prop) (w : World) (hdir : dirB dir = true) (ht : Tab w) (h : LogR w base d mb n x p dir cp segs op A B) (hok : x.ok) (hop : op < 99999999) (hs0 : (x.sync (segN dir op)).1 = 0) (hq : w.rowIs q 36 1 (fun _ => .pointer (some ⟨p, 0, none⟩))) (hqA : ¬ A q ∧ ¬ B q) :
    Calls Tryz.prog 51 #[.pointer (some ⟨q, 0, none⟩)] w fun e w' => e = .returned (.tuple #[]) ∧ ∃ n' B', n' ≤ n ∧ LogR w' base d mb n' (x.sync (segN dir op)).2 p dir cp segs op A B' ∧ Step2 w w' A B A B' := by
  have hds : dir.size ≤ 32 := by simp only [dirB, Bool.and_eq_true, decide_eq_true_eq] at hdir; exact hdir.2
  have hnm := seg_name hdir op
  have HL : Hid (LogR w base d mb n x p dir cp segs op A B) := h
  obtain ⟨a, c, hW, _⟩ := h.wal
  have HW : Hid (WRow w p d dir cp (.slice a segs.length c) (op : Int)) := hW
  have HQ : Hid (w.rowIs q 36 1 (fun _ => .pointer (some ⟨p, 0, none⟩))) := hq
  have HS0 : Hid ((x.sync (segN dir op)).1 = 0) := hs0
  have c0 := hW.cells.1
  have c4 := hW.cells.2.2.2.2
  have cq : w.cell? ⟨q, 0, none⟩ = some (.pointer (some ⟨p, 0, none⟩)) := hq.cell (i := 0) (by omega)
  have HD0 := fun w => w_done0 w
  have HGD : Hid (w.grownBy w.drew none) := gb_drew (World.grownBy.refl _ _)
  have HSG : Hid (Calls Tryz.prog 54 #[.pointer (some ⟨p, 0, none⟩), .int .i64 (op : Int)] w.drew fun e w' => e = .returned (.string (segN dir op)) ∧ w.drew.grownBy w' none) := w_segment p d dir cp _ _ op (by omega) _ (by omega) (ht.grown HGD.out) (hW.kept HGD.out (by simp))
  have HSY : Hid (∀ w1, w.grownBy w1 none → Calls Tryz.prog 53 #[.pointer (some ⟨d, 0, none⟩), .string (segN dir op)] w1 fun e w' => e = .returned (.int .i64 0) ∧ ∃ n' B', n' ≤ n ∧ LogR w' base d mb n' (x.sync (segN dir op)).2 p dir cp segs op A B' ∧ Step2 w w' A B A B') := fun w1 hg => by
    have h1 := HL.out.grown hg
    refine (x_syncN base d mb n x B (segN dir op) w1 h1.disk hok hnm).mono ?_
    rintro e w' ⟨rfl, n', B', hn', hd', hst⟩
    obtain ⟨B'', h2, h3⟩ := h1.write hd' hst
    exact ⟨by rw [HS0.out], n', B'', hn', h2, (Step2.grown A B hg).trans h3⟩
  have HCELL : Hid (∀ w2, (∃ n' B', n' ≤ n ∧ LogR w2 base d mb n' (x.sync (segN dir op)).2 p dir cp segs op A B' ∧ Step2 w w2 A B A B') → w2.cell? ⟨p, 0, none⟩ = some (.pointer (some ⟨d, 0, none⟩)) ∧ w2.cell? ⟨p, 4, none⟩ = some (.int .i64 (op : Int)) ∧ w2.cell? ⟨q, 0, none⟩ = some (.pointer (some ⟨p, 0, none⟩))) := by
    rintro w2 ⟨n', B', _, h2, h3⟩
    obtain ⟨a2, c2, hW2, _⟩ := h2.wal
    exact ⟨hW2.cells.1, hW2.cells.2.2.2.2, cell_kept h3.kept HQ.out.lt (fun h => h.elim hqA.1 hqA.2) cq⟩
  clear h hW hq hs0
  go_enter Tryz.func51, Tryz.ntmps51
  go_wp2_with fail
  go_region_held3 (fun W => W.cell? ⟨q, 0, none⟩ = some (.pointer (some ⟨p, 0, none⟩)) ∧ W.cell? ⟨p, 0, none⟩ = some (.pointer (some ⟨d, 0, none⟩)) ∧ W.cell? ⟨p, 4, none⟩ = some (.int .i64 (op : Int))) (go_keep) (first
    | (go_at_call 54; refine HSG.out.mono ?_; rintro e w1 ⟨rfl, hg1⟩; have HG1 : Hid (w.grownBy w1 none) := HGD.out.trans hg1; have c0' := (HW.out.kept HG1.out (by simp)).cells.1; have c4' := (HW.out.kept HG1.out (by simp)).cells.2.2.2.2; have cq' : w1.cell? ⟨q, 0, none⟩ = some (.pointer (some ⟨p, 0, none⟩)) := HG1.out.cell cq (by simp); clear hg1)
    | (go_at_call 53; refine (HSY.out _ HG1.out).mono ?_; rintro e w2 ⟨rfl, hx2⟩; have HX2 : Hid (∃ n' B', n' ≤ n ∧ LogR w2 base d mb n' (x.sync (segN dir op)).2 p dir cp segs op A B' ∧ Step2 w w2 A B A B') := hx2; obtain ⟨c0'', c4'', cq''⟩ := HCELL.out w2 hx2; clear hx2)
    | (go_at_call 52; refine (HD0 _).mono ?_; rintro e w3 ⟨rfl, rfl⟩))
  all_goals go_wp2
  all_goals go_end0
  all_goals exact ⟨rfl, HX2.out⟩
def SyncOutR (w : World) (base d mb n : Nat) (x : DSt) (p : Nat) (dir cp : ByteArray) (segs : List Nat) (op : Nat) (A B : Nat → Prop) (e : Ending) (w' : World) : Prop := e = .returned (.int .i64 0) ∧ ∃ n' B', n' ≤ n ∧ LogR w' base d mb n' (syncX x dir segs op) p dir cp segs op A B' ∧ Step2 w w' A B A B'
set_option maxHeartbeats 8000000 in
theorem w_syncR (base d mb n : Nat) (x : DSt) (p : Nat) (dir cp : ByteArray) (segs : List Nat) (op : Nat) (A B : Nat → Prop) (w : World) (hdir : dirB dir = true) (ht : Tab w) (h : LogR w base d mb n x p dir cp segs op A B) (hok : x.ok) (hop : op < 99999999) (hsg : segs.length ≤ 4194304) (hs0 : isOpen segs op = true → (x.sync (segN dir op)).1 = 0) :
    Calls Tryz.prog 19 #[.pointer (some ⟨p, 0, none⟩)] w (SyncOutR w base d mb n x p dir cp segs op A B) := by
  have hg0 : w.grownBy (w.alloc (.cells #[.pointer (some ⟨p, 0, none⟩)] 36)) none := World.grownBy_alloc w _ none
  have hL0 := h.grown hg0
  have HL : Hid (LogR w base d mb n x p dir cp segs op A B) := h
  have HT : Hid (Tab w) := ht
  have HS0 : Hid (isOpen segs op = true → (x.sync (segN dir op)).1 = 0) := hs0
  have HG0 : Hid (w.grownBy (w.alloc (.cells #[.pointer (some ⟨p, 0, none⟩)] 36)) none) := hg0
  obtain ⟨a, c, hW, hso, _⟩ := hL0.wal
  have HHF : Hid (Calls Tryz.prog 50 #[.pointer (some ⟨p, 0, none⟩)] (w.alloc (.cells #[.pointer (some ⟨p, 0, none⟩)] 36)) fun e w' => e = .returned (.bool (isOpen segs op)) ∧ ∃ k, w' = (w.alloc (.cells #[.pointer (some ⟨p, 0, none⟩)] 36)).drewN k) := w_hasFile p d dir cp a c segs op _ hW hso.1 (by omega)
  have hmf : ∀ (fn : Fn) (first cap : Array Value) (w : World), (Instr.makeFunc fn first cap).run Tryz.prog w = .ok (.func fn first cap) w := fun _ _ _ _ => rfl
  have hs1 : ∀ (w : World) o, (w.alloc o).heap.size = w.heap.size + 1 := fun w o => Array.size_push _
  clear h ht hg0 hL0 hW hso hs0
  go_enter Tryz.func19, Tryz.ntmps19
  go_wp2_with fail
  refine HHF.out.mono ?_
  rintro e w1 ⟨rfl, kq, rfl⟩
  obtain ⟨W3, eW3⟩ : ∃ W3, W3 = (w.alloc (.cells #[.pointer (some ⟨p, 0, none⟩)] 36)).drewN kq := ⟨_, rfl⟩
  have hg3 : w.grownBy W3 none := by rw [eW3]; exact gb_drewR HG0.out kq
  rw [← eW3]
  cases ho : isOpen segs op with
  | false =>
    have HX : Hid (SyncOutR w base d mb n x p dir cp segs op A B (.returned (.int .i64 0)) W3) := by
      refine ⟨rfl, n, B, Nat.le_refl _, ?_, Step2.grown A B hg3⟩
      unfold syncX
      rw [if_neg (by rw [ho]; simp)]
      exact HL.out.grown hg3
    clear hg3 eW3 HHF
    go_wp2
    go_ret
    exact HX.out
  | true =>
    obtain ⟨W4, eW4⟩ : ∃ W4, W4 = W3.alloc (.cells #[.int .i64 0] 37) := ⟨_, rfl⟩
    have hz3 : W3.heap.size = w.heap.size + 1 := by rw [eW3]; exact hs1 _ _
    have hz4 : W4.heap.size = w.heap.size + 2 := by rw [eW4, hs1, hz3]
    have hgw4 : w.grownBy W4 none := by rw [eW4]; exact hg3.trans (World.grownBy_alloc _ _ none)
    have hq4 : W4.rowIs w.heap.size 36 1 (fun _ => .pointer (some ⟨p, 0, none⟩)) := by
      rw [eW4, eW3]
      exact World.rowIs.alloc (w := (w.alloc (.cells #[.pointer (some ⟨p, 0, none⟩)] 36)).drewN kq) ((row1 w (.pointer (some ⟨p, 0, none⟩)) 36).of_block rfl) _
    have hs4 : W4.rowIs (w.heap.size + 1) 37 1 (fun _ => .int .i64 0) := by
      have := row1 W3 (.int .i64 0) 37
      rw [hz3] at this
      rw [eW4]
      exact this
    have hold : ∀ k, w.heap.size ≤ k → ¬ A k ∧ ¬ B k := fun k hk => ⟨fun ha => by have := HL.out.ltA k ha; omega, fun hb => by have := HL.out.ltB k hb; omega⟩
    have HC := w_caught51 #[.pointer (some ⟨w.heap.size, 0, none⟩)] (fun w2 => ∃ n' B', n' ≤ n ∧ LogR w2 base d mb n' (x.sync (segN dir op)).2 p dir cp segs op A B' ∧ Step2 W4 w2 A B A B') W3 (by
      rw [← eW4, hz3]
      refine (w_sync1R base d mb n x p w.heap.size dir cp segs op A B W4 hdir (HT.out.grown hgw4) (HL.out.grown hgw4) hok hop (HS0.out ho) hq4 (hold _ (Nat.le_refl _))).mono ?_
      rintro e w2 ⟨rfl, n', B', h1, h2, h3⟩
      refine ⟨rfl, ⟨n', B', h1, h2, h3⟩, ?_⟩
      have hs5 := hs4.of_block (h3.kept.block _ hs4.lt (fun h => h.elim (hold _ (by omega)).1 (hold _ (by omega)).2))
      exact ⟨hs5.cell (i := 0) (by omega), hs5.frozen 0⟩)
    rw [hz3] at HC
    have HC : Hid (Calls Tryz.prog 43 #[.func (.func 51) #[] #[.pointer (some ⟨w.heap.size, 0, none⟩)]] W3 fun e w' => e = .returned (.int .i64 0) ∧ ∃ w2, (∃ n' B', n' ≤ n ∧ LogR w2 base d mb n' (x.sync (segN dir op)).2 p dir cp segs op A B' ∧ Step2 W4 w2 A B A B') ∧ w' = w2.setCell ⟨w.heap.size + 1, 0, none⟩ (.int .i64 0)) := HC
    have HFIN : Hid (∀ w2, (∃ n' B', n' ≤ n ∧ LogR w2 base d mb n' (x.sync (segN dir op)).2 p dir cp segs op A B' ∧ Step2 W4 w2 A B A B') → SyncOutR w base d mb n x p dir cp segs op A B (.returned (.int .i64 0)) (w2.setCell ⟨w.heap.size + 1, 0, none⟩ (.int .i64 0))) := by
      rintro w2 ⟨n', B', h1, h2, h3⟩
      refine ⟨rfl, n', B', h1, ?_, ((Step2.grown A B hgw4).trans h3).cell (by omega)⟩
      unfold syncX
      rw [if_pos ho]
      exact (h2.cell37 (hold _ (by omega)).1 (fun hb => (hold _ (by omega)).2 (h3.oldB _ (by rw [hz4]; omega) hb))).1
    clear hz3 hz4 hgw4 hq4 hs4 hold eW3 eW4 hg3 HHF
    go_wp2_with fail
    refine HC.out.mono ?_
    rintro e w3 ⟨rfl, w2, hx, rfl⟩
    have HX : Hid (SyncOutR w base d mb n x p dir cp segs op A B (.returned (.int .i64 0)) (w2.setCell ⟨w.heap.size + 1, 0, none⟩ (.int .i64 0))) := HFIN.out w2 hx
    clear hx HC HFIN
    go_wp2
    go_ret
    exact HX.out
end Go.Proofs.YtekejnjaiccnbaaGreatDoor

