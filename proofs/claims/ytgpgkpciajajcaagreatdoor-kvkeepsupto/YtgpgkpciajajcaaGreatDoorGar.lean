/- Several texts in one: Ya, Yb. -/
import Derived.Test.YtgpgkpciajajcaaGreatDoorGaq
/- Package wal: replayAll, where the last file is torn. -/
namespace Go.Proofs.YtgpgkpciajajcaaGreatDoor
open Go.RowKit Go.Maps Go.Sort
set_option linter.unusedVariables false
set_option maxRecDepth 20000

theorem w_dropNone (base d mb n : Nat) (x : DSt) (p : Nat) (dir cp : ByteArray) (segs : List Nat) (op : Nat) (A B : Nat → Prop) (i : Nat) (w : World) (h : LogAt w base d mb n x p dir cp segs op A B) (hi : segs.length = i) :
    Calls Tryz.prog 173 #[.pointer (some ⟨p, 0, none⟩), .int .i64 (i : Int)] w fun e w' => e = .returned (.tuple #[]) ∧ w = w' := by
  obtain ⟨a, c, hW, _⟩ := h.wal
  obtain ⟨c0, c1, c2, c3, c4⟩ := hW.cells
  rw [hi] at c3
  have hii : ¬ (i : Int) < (i : Int) := by omega
  clear hW c0 c1 c2 c4 h
  go_enter Tryz.func173, Tryz.ntmps173
  go_wp2
  go_loopw [] (fun wr => wr = w) (fun _ => 0)
  case atStart => rfl
  case round =>
    subst hrel
    go_wp2
    go_end0
    exact ⟨rfl, rfl⟩
set_option maxHeartbeats 8000000 in
theorem w_putB (base d mb n : Nat) (x : DSt) (p : Nat) (dir cp name : ByteArray) (segs : List Nat) (op : Nat) (A B : Nat → Prop) (ad : Addr) (zs : List Int) (M cd : Nat) (w : World) (hdir : dirB dir = true) (h : LogAt w base d mb n x p dir cp segs op A B) (hc : x.Calm) (hw : x.wn ≤ 999999980) (hn : n < 1048576) (hnew : x.V (newN dir) = none) (hname : nameB name = true) (hr : SRd byteE w (some ad) zs) (hM : zs.length = M) (hby : ∀ z ∈ zs, 0 ≤ z ∧ z ≤ 255) (hlen : M ≤ 4194304) (hb : base ≤ w.heap.size) (had : ¬ B ad.block) :
    Calls Tryz.prog 140 #[.pointer (some ⟨p, 0, none⟩), .string name, .slice (some ad) M cd] w fun e w' => e = .returned (.tuple #[]) ∧ ∃ n' B', n' ≤ n + 2 ∧ LogAt w' base d mb n' (putX x dir name zs) p dir cp segs op A B' ∧ Step2 w w' A B A B' := by
  have hds : dir.size ≤ 32 := by simp only [dirB, Bool.and_eq_true, decide_eq_true_eq] at hdir; exact hdir.2
  have hnm := new_name hdir
  have HD0 := fun w => w_done0 w
  obtain ⟨x1, ex1⟩ : ∃ x1, x1 = (x.append (newN dir) zs).2 := ⟨_, rfl⟩
  obtain ⟨x2, ex2⟩ : ∃ x2, x2 = (x1.sync (newN dir)).2 := ⟨_, rfl⟩
  obtain ⟨x3, ex3⟩ : ∃ x3, x3 = (x2.rename (newN dir) name).2 := ⟨_, rfl⟩
  have hX3 : putX x dir name zs = x3 := by unfold putX; rw [ex3, ex2, ex1]
  have e0 : oldV x.V (newN dir) = ([], 0) := by unfold oldV; rw [hnew]; rfl
  have k1 := calm_app x hc (newN dir) zs
  have hc1 : x1.Calm := by rw [ex1, k1]; exact calm_next x hc (by omega) _
  have hV1 : x1.V (newN dir) = some (zs, 0) := by rw [ex1, k1]; dsimp only; rw [setV_same, e0]; rfl
  have hw1 : x1.wn = x.wn + 1 := by rw [ex1, k1]
  have k2 := calm_sync x1 hc1 (newN dir) _ hV1
  have hc2 : x2.Calm := by rw [ex2, k2]; exact calm_next x1 hc1 (by omega) _
  have hV2 : x2.V (newN dir) = some (zs, zs.length) := by rw [ex2, k2]; exact setV_same _ _ _
  have hw2 : x2.wn = x.wn + 2 := by rw [ex2, k2]; dsimp only; omega
  have k3 := calm_ren x2 hc2 (newN dir) name _ hV2
  have hBd : B d := by obtain ⟨F, G, _, _, hb⟩ := h.disk; exact hb d (.inl rfl)
  have hBm : B mb := by obtain ⟨F, G, _, _, hb⟩ := h.disk; exact hb mb (.inr (.inl rfl))
  have A1 : Hid (∀ w1, w.grownBy w1 none → Calls Tryz.prog 134 #[.pointer (some ⟨d, 0, none⟩), .string (newN dir), .slice (some ad) M cd] w1 fun e w' => e = .returned (.int .i64 0) ∧ ∃ n' B', n' ≤ n + 1 ∧ LogAt w' base d mb n' x1 p dir cp segs op A B' ∧ Step2 w w' A B A B') := fun w1 hg => by
    have h1 := h.grown hg
    refine (x_append base d mb n x B (newN dir) ad zs M cd w1 h1.disk hc.ok hnm (by omega) (hr.grown hg (by simp)) hM hby (by rw [e0]; simpa using hlen) (Nat.le_trans hb hg.size) (fun e => had (e ▸ hBm)) (fun e => had (e ▸ hBd))).mono ?_
    rintro e w' ⟨rfl, n', B', hn', hd', hst⟩
    rw [← ex1] at hd'
    obtain ⟨B'', h2, h3⟩ := h1.write hd' hst
    exact ⟨by rw [k1], n', B'', hn', h2, (Step2.grown A B hg).trans h3⟩
  have A2 : Hid (∀ n1 B1 w1, LogAt w1 base d mb n1 x1 p dir cp segs op A B1 → Calls Tryz.prog 104 #[.pointer (some ⟨d, 0, none⟩), .string (newN dir)] w1 fun e w' => e = .returned (.int .i64 0) ∧ ∃ n' B', n' ≤ n1 ∧ LogAt w' base d mb n' x2 p dir cp segs op A B' ∧ Step2 w1 w' A B1 A B') := fun n1 B1 w1 h1 => by
    refine (x_syncN base d mb n1 x1 B1 (newN dir) w1 h1.disk hc1.ok hnm).mono ?_
    rintro e w' ⟨rfl, n', B', hn', hd', hst⟩
    rw [← ex2] at hd'
    obtain ⟨B'', h2, h3⟩ := h1.write hd' hst
    exact ⟨by rw [k2], n', B'', hn', h2, h3⟩
  have A3 : Hid (∀ n1 B1 w1, n1 ≤ 1048576 → LogAt w1 base d mb n1 x2 p dir cp segs op A B1 → Calls Tryz.prog 166 #[.pointer (some ⟨d, 0, none⟩), .string (newN dir), .string name] w1 fun e w' => e = .returned (.int .i64 0) ∧ ∃ n' B', n' ≤ n1 + 1 ∧ LogAt w' base d mb n' x3 p dir cp segs op A B' ∧ Step2 w1 w' A B1 A B') := fun n1 B1 w1 hn1 h1 => by
    refine (x_rename base d mb n1 x2 B1 (newN dir) name w1 h1.disk hc2.ok hnm hname hn1).mono ?_
    rintro e w' ⟨rfl, n', B', hn', hd', hst⟩
    rw [← ex3] at hd'
    obtain ⟨B'', h2, h3⟩ := h1.write hd' hst
    exact ⟨by rw [k3], n', B'', hn', h2, h3⟩
  have HDR : Hid (∀ w1 n1 x' B1, LogAt w1 base d mb n1 x' p dir cp segs op A B1 → Calls Tryz.prog 150 #[.pointer (some ⟨p, 0, none⟩)] w1 fun e w' => e = .returned (.string (newN dir)) ∧ w1 = w') := fun w1 n1 x' B1 h1 => by
    obtain ⟨a1, c1, hW, _⟩ := h1.wal
    exact w_draft p d dir cp _ _ w1 (by omega) hW
  have HCL : Hid (∀ w1 n1 x' B1, LogAt w1 base d mb n1 x' p dir cp segs op A B1 → w1.cell? ⟨p, 0, none⟩ = some (.pointer (some ⟨d, 0, none⟩))) := fun w1 n1 x' B1 h1 => by
    obtain ⟨a1, c1, hW, _⟩ := h1.wal
    exact hW.cells.1
  have HGD : ∀ W : World, W.grownBy W.drew none := fun W => gb_drew (World.grownBy.refl _ _)
  have HL : Hid (LogAt w base d mb n x p dir cp segs op A B) := h
  have c0 := HCL.out _ _ _ _ h
  have HLd : Hid (LogAt w.drew base d mb n x p dir cp segs op A B) := h.grown (HGD w)
  rw [hX3]
  clear h hr hby had hBd hBm k1 k2 k3 hc1 hc2 hV1 hV2 ex1 ex2 ex3 hX3 e0 hnew
  go_enter Tryz.func140, Tryz.ntmps140
  go_wp2_with fail
  go_region_held3 (fun W => W.cell? ⟨p, 0, none⟩ = some (.pointer (some ⟨d, 0, none⟩))) (go_keep) (first
    | (go_at_call 150; refine (HDR.out _ _ _ _ HLd.out).mono ?_; rintro e w1 ⟨rfl, rfl⟩)
    | (go_at_call 134; refine (A1.out _ (HGD w)).mono ?_; rintro e w2 ⟨rfl, n1, B1, hn1, hL1, hS1⟩; have HL1 : Hid (LogAt w2 base d mb n1 x1 p dir cp segs op A B1) := hL1; have HS1 : Hid (Step2 w w2 A B A B1) := hS1; have c01 := HCL.out _ _ _ _ hL1; clear hL1 hS1)
    | (go_at_call 103; refine (HD0 _).mono ?_; rintro e w3 ⟨rfl, rfl⟩))
  have HL1d : Hid (LogAt w2.drew base d mb n1 x1 p dir cp segs op A B1) := HL1.out.grown (HGD w2)
  go_wp2_with fail
  go_region_held3 (fun W => W.cell? ⟨p, 0, none⟩ = some (.pointer (some ⟨d, 0, none⟩))) (go_keep) (first
    | (go_at_call 150; refine (HDR.out _ _ _ _ HL1d.out).mono ?_; rintro e w1 ⟨rfl, rfl⟩)
    | (go_at_call 104; refine (A2.out _ _ _ HL1d.out).mono ?_; rintro e w4 ⟨rfl, n2, B2, hn2, hL2, hS2⟩; have HL2 : Hid (LogAt w4 base d mb n2 x2 p dir cp segs op A B2) := hL2; have HS2 : Hid (Step2 w w4 A B A B2) := (HS1.out.trans (Step2.grown A B1 (HGD w2))).trans hS2; have c02 := HCL.out _ _ _ _ hL2; clear hL2 hS2)
    | (go_at_call 103; refine (HD0 _).mono ?_; rintro e w3 ⟨rfl, rfl⟩))
  have HL2d : Hid (LogAt w4.drew base d mb n2 x2 p dir cp segs op A B2) := HL2.out.grown (HGD w4)
  go_wp2_with fail
  go_region_held3 (fun W => W.cell? ⟨p, 0, none⟩ = some (.pointer (some ⟨d, 0, none⟩))) (go_keep) (first
    | (go_at_call 150; refine (HDR.out _ _ _ _ HL2d.out).mono ?_; rintro e w1 ⟨rfl, rfl⟩)
    | (go_at_call 166; refine (A3.out _ _ _ (by omega) HL2d.out).mono ?_; rintro e w6 ⟨rfl, n3, B3, hn3, hL3, hS3⟩; have HL3 : Hid (LogAt w6 base d mb n3 x3 p dir cp segs op A B3) := hL3; have HS3 : Hid (Step2 w w6 A B A B3) := (HS2.out.trans (Step2.grown A B2 (HGD w4))).trans hS3; have c03 := HCL.out _ _ _ _ hL3; clear hL3 hS3)
    | (go_at_call 103; refine (HD0 _).mono ?_; rintro e w3 ⟨rfl, rfl⟩))
  go_wp2
  go_end0
  exact ⟨rfl, n3, B3, by omega, HL3.out, HS3.out⟩
set_option maxHeartbeats 4000000 in
theorem w_tearOff (base d mb n : Nat) (x : DSt) (p : Nat) (dir cp name : ByteArray) (segs : List Nat) (op : Nat) (A B : Nat → Prop) (ad : Addr) (zs : List Int) (M cd : Nat) (w : World) (hdir : dirB dir = true) (h : LogAt w base d mb n x p dir cp segs op A B) (hc : x.Calm) (hw : x.wn ≤ 999999980) (hn : n < 1048576) (hnew : x.V (newN dir) = none) (hname : nameB name = true) (hr : SRd byteE w (some ad) zs) (hM : zs.length = M) (hM0 : M ≠ 0) (hby : ∀ z ∈ zs, 0 ≤ z ∧ z ≤ 255) (hlen : M ≤ 4194304) (hb : base ≤ w.heap.size) (had : ¬ B ad.block) :
    Calls Tryz.prog 174 #[.pointer (some ⟨p, 0, none⟩), .string name, .slice (some ad) M cd] w fun e w' => e = .returned (.bool true) ∧ ∃ n' B', n' ≤ n + 2 ∧ LogAt w' base d mb n' (putX x dir name zs) p dir cp segs op A B' ∧ Step2 w w' A B A B' := by
  have HP := w_putB base d mb n x p dir cp name segs op A B ad zs M cd w hdir h hc hw hn hnew hname hr hM hby hlen hb had
  have q0 : ((M : Int) == 0) = false := by simp; omega
  clear h hr hM
  go_enter Tryz.func174, Tryz.ntmps174
  go_wp2_with fail
  refine HP.mono ?_
  rintro e w1 ⟨rfl, n', B', h1, h2, h3⟩
  have HL : Hid (LogAt w1 base d mb n' (putX x dir name zs) p dir cp segs op A B') := h2
  have HS : Hid (Step2 w w1 A B A B') := h3
  clear h2 h3 HP
  go_wp2
  go_ret
  exact ⟨rfl, n', B', h1, HL.out, HS.out⟩
/-- What replayAll answers, of a torn log. -/
def TornOut (w : World) (base d mb n : Nat) (x' : DSt) (p : Nat) (dir cp : ByteArray) (segs : List Nat) (op : Nat) (A B : Nat → Prop) (recs : List (List Int)) (e : Ending) (w' : World) : Prop := ∃ (v : Sl) (m n' : Nat) (B' : Nat → Prop), e = .returned (slV v) ∧ RecsOut w w' (slV v) m recs ∧ n' ≤ n + 2 ∧ LogAt w' base d mb n' x' p dir cp segs op A B' ∧ Step2 w w' A B A B'
theorem RecsOut.keptK {w w' w2 : World} {v : Value} {n : Nat} {recs : List (List Int)} {X : Nat → Prop} (h : RecsOut w w' v n recs) (hk : Kept w' w2 X) (hX : ∀ k, w.heap.size ≤ k → ¬ X k) : RecsOut w w2 v n recs := by
  obtain ⟨ts, h1, h2, h3⟩ := h
  exact ⟨ts, sown_keptK h1 hk (fun k hk => hX k (h1.block k hk).1), h2.keptK hk (fun k h _ => hX k h), h3⟩
set_option maxHeartbeats 16000000 in
theorem w_replayAllT (base p d mb n : Nat) (dir cp : ByteArray) (op : Nat) (x : DSt) (A B : Nat → Prop) (K : Kp) (Ls LL : Sg) (kl : Nat) (rl : List (List Int)) (tl : List Int) (sl : Nat) (w : World) (hdir : dirB dir = true) (ht : Tab w) (hLL : LL = Ls ++ [(kl, rl)]) (hL : LogAt w base d mb n x p dir cp (LL.map Prod.fst) op A B) (hcalm : x.Calm) (hw : x.wn ≤ 999999980) (hn : n < 1048576) (hnew : x.V (newN dir) = none) (hK : CpIs x.V dir cp K) (hW : Whole x.V dir Ls) (hTV : x.V (segN dir kl) = some (logB frameR rl ++ tl, sl)) (hTF : FileRecs (logB frameR rl ++ tl) rl tl) (htl : tl ≠ []) (hrl : rl ≠ []) (hkl : kl < 100000000) (hlb : (logB frameR rl).length ≤ 4194304) (hsz : (cpRecs K ++ recsOf LL).length ≤ 4194304) (hln : LL.length ≤ 4194304) (hb : base ≤ w.heap.size) :
    Calls Tryz.prog 152 #[.pointer (some ⟨p, 0, none⟩)] w (TornOut w base d mb n (putX x dir (segN dir kl) (logB frameR rl)) p dir cp (LL.map Prod.fst) op A B (cpRecs K ++ recsOf LL)) := by
  obtain ⟨a, c, h, hso, hAp, hAy⟩ := hL.wal
  rw [List.length_map] at h hso
  have hr : SRd intE w a (nI (LL.map Prod.fst)) := hso.rd
  have hd := hL.disk
  have hon := hcalm.on
  have HLA : Hid (LogAt w base d mb n x p dir cp (LL.map Prod.fst) op A B) := hL
  have HTV : Hid (x.V (segN dir kl) = some (logB frameR rl ++ tl, sl)) := hTV
  have HTF : Hid (FileRecs (logB frameR rl ++ tl) rl tl) := hTF
  have HLL : Hid (LL = Ls ++ [(kl, rl)]) := hLL
  have HWLt : Hid (∀ k, A k ∨ B k → k < w.heap.size) := fun k hk => hk.elim (hL.ltA k) (hL.ltB k)
  have HNEW : Hid (x.V (newN dir) = none) := hnew
  have HDT : Hid (decide (tl ≠ []) = true) := decide_eq_true htl
  have HRL : Hid (rl ≠ []) := hrl
  have HCALM : Hid x.Calm := hcalm
  clear hL hTV hTF hLL hso hAp hAy hnew htl hrl hcalm
  have hds : dir.size ≤ 32 := by simp only [dirB, Bool.and_eq_true, decide_eq_true_eq] at hdir; exact hdir.2
  obtain ⟨c0, c1, c2, c3, c4⟩ := h.cells
  have HT : Hid (Tab w) := ht
  have HW : Hid (WRow w p d dir cp (.slice a LL.length c) (op : Int)) := h
  have HR : Hid (SRd intE w a (nI (LL.map Prod.fst))) := hr
  have HD : Hid (DS w base d mb n x B) := hd
  have HWH : Hid (Whole x.V dir Ls) := hW
  have HDIR : Hid (dirB dir = true) := hdir
  have HSZ : Hid ((cpRecs K ++ recsOf LL).length ≤ 4194304) := hsz
  have HCP : Hid (CpIs x.V dir cp K) := hK
  obtain ⟨NL, eNL⟩ : ∃ NL, NL = LL.length := ⟨_, rfl⟩
  have ENL : Hid (NL = LL.length) := eNL
  rw [← eNL] at c3 hln
  clear hK h hr hd hW hdir ht hsz eNL c0 c1 c4
  go_enter Tryz.func152, Tryz.ntmps152
  go_upto_if 16 with fail
  go_cut [3] from 12 (fun t3 wc => ∃ v1 : Sl, t3 = .slice v1.1 v1.2.1 v1.2.2 ∧ AllAt w wc v1 (cpRecs K))
  case first =>
    cases K with
    | none =>
      have hcp : cp = ⟨#[]⟩ := HCP.out
      subst hcp
      have q0 : (ByteArray.toList ⟨#[]⟩).isEmpty = true := by rw [str_none]; rfl
      rw [q0, Bool.not_true]
      go_wp2_with fail
      go_meet
      exact ⟨(none, 0, 0), rfl, ⟨0, [], SOwn.nil 37 _ _, trivial, rfl, fun _ => rfl⟩, World.grownBy.refl _ _⟩
    | some q =>
      obtain ⟨hcp, ⟨syn, hV⟩, hlen, hq8⟩ := HCP.out
      subst hcp
      have q0 : (cpN dir q.1).toList.isEmpty = false := by
        rw [str_none]
        simp only [decide_eq_false_iff_not]
        intro e
        have := congrArg ByteArray.size e
        rw [cpN, bN_size] at this
        simp [d8_len] at this
        have h2 : ByteArray.size ⟨#[]⟩ = 0 := rfl
        omega
      have HRF : Hid (Calls Tryz.prog 172 #[.pointer (some ⟨p, 0, none⟩), .string (cpN dir q.1)] w fun e w' => ∃ v a c N, e = .returned (.tuple #[slV v, .slice a (logB frameR q.2).length c, .bool (decide (([] : List Int) ≠ []))]) ∧ RecsOut w w' (slV v) N q.2 ∧ Out w w' a (logB frameR q.2).length c (logB frameR q.2) ∧ w.grownBy w' none) := w_replayFile base p d mb n dir (cpN dir q.1) _ op x B (cpN dir q.1) _ syn q.2 [] w HW.out HD.out hon (cp_name HDIR.out q.1) hV (FileRecs.whole q.2 hlen)
      rw [show decide (([] : List Int) ≠ []) = false from rfl] at HRF
      rw [q0, Bool.not_false]
      go_wp2_with fail
      refine HRF.out.mono ?_
      rintro e w1 ⟨v1, a1, k1, N1, rfl, hro, _, hg1⟩
      have HRO : Hid (RecsOut w w1 (slV v1) N1 q.2) := hro
      have HG1 : Hid (w.grownBy w1 none) := hg1
      clear hro hg1 HRF
      unfold slV
      go_wp2_with fail
      go_meet
      exact ⟨v1, rfl, ⟨N1, HRO.out⟩, HG1.out⟩
  case rest =>
    obtain ⟨v1, rfl, hA⟩ := hcut
    have HA : Hid (AllAt w wc v1 (cpRecs K)) := hA
    have c3' := (HW.out.kept hA.grown (by simp)).cells.2.2.2.1
    rw [← ENL.out] at c3'
    clear hA c3
    go_wp2_with fail
    go_loopw [3, 47] (fun t3 t47 wr => ∃ (i : Nat) (v : Sl), i < NL ∧ t47 = .int .i64 i ∧ t3 = .slice v.1 v.2.1 v.2.2 ∧ AllAt w wr v (cpRecs K ++ recsOf (LL.take i))) (fun _ t47 _ => NL - (intOf t47).toNat)
    case atStart => exact ⟨0, v1, by rw [ENL.out, HLL.out]; simp, rfl, rfl, by simpa [recsOf] using HA.out⟩
    case round =>
      obtain ⟨i, v, hi, rfl, rfl, hA2⟩ := hrel
      have HA2 : Hid (AllAt w wr v (cpRecs K ++ recsOf (LL.take i))) := hA2
      have hg := hA2.grown
      have HG : Hid (w.grownBy wr none) := hg
      have HWr : Hid (WRow wr p d dir cp (.slice a LL.length c) (op : Int)) := HW.out.kept hg (by simp)
      have HTr : Hid (Tab wr) := HT.out.grown hg
      have HDr : Hid (DS wr base d mb n x B) := DV.kept HD.out hg
      have HRr : Hid (SRd intE wr a (nI (LL.map Prod.fst))) := HR.out.grown hg (by simp)
      clear hA2 hg HA
      obtain ⟨va, vn, vc⟩ := v
      have hlt : i < NL := hi
      by_cases hla : i + 1 < NL
      · have hii : (i : Int) < (NL : Int) := by omega
        obtain ⟨q, hq⟩ : ∃ q, LL[i]? = some q := ⟨_, List.getElem?_eq_getElem (by rw [← ENL.out]; exact hlt)⟩
        obtain ⟨⟨syn, hV⟩, hlen, hq8⟩ := HWH.out q (by have h1 := ENL.out; have h2 := HLL.out; rw [h2] at hq h1; rw [List.length_append, List.length_singleton] at h1; rw [List.getElem?_append_left (by omega)] at hq; exact List.mem_of_getElem? hq)
        obtain ⟨b, off, rfl, hcell⟩ := nI_cell HRr.out (l := LL.map Prod.fst) (i := i) (k := q.1) (by rw [List.getElem?_map, hq]; rfl)
        have HTK := recsOf_take LL i q hq
        have HSG : Hid (Calls Tryz.prog 105 #[.pointer (some ⟨p, 0, none⟩), .int .i64 (q.1 : Int)] wr fun e w' => e = .returned (.string (segN dir q.1)) ∧ wr.grownBy w' none) := w_segment p d dir cp _ (op : Int) q.1 hq8 wr (by omega) HTr.out HWr.out
        clear hq
        dsimp only
        go_wp2_with fail
        refine HSG.out.mono ?_
        rintro e w2 ⟨rfl, hg2⟩
        have HG2 : Hid (wr.grownBy w2 none) := hg2
        have HRF : Hid (Calls Tryz.prog 172 #[.pointer (some ⟨p, 0, none⟩), .string (segN dir q.1)] w2 fun e w' => ∃ v a c N, e = .returned (.tuple #[slV v, .slice a (logB frameR q.2).length c, .bool (decide (([] : List Int) ≠ []))]) ∧ RecsOut w2 w' (slV v) N q.2 ∧ Out w2 w' a (logB frameR q.2).length c (logB frameR q.2) ∧ w2.grownBy w' none) := w_replayFile base p d mb n dir cp _ (op : Int) x B (segN dir q.1) _ syn q.2 [] w2 (HWr.out.kept hg2 (by simp)) (DV.kept HDr.out hg2) hon (seg_name HDIR.out q.1) hV (FileRecs.whole q.2 hlen)
        rw [show decide (([] : List Int) ≠ []) = false from rfl] at HRF
        clear hg2 HSG
        go_wp2_with fail
        refine HRF.out.mono ?_
        rintro e w3 ⟨v3, a3, k3, N3, rfl, hro, _, hg3⟩
        obtain ⟨ts3, ho3, hr3, hn3, hz3⟩ := hro
        obtain ⟨n1, ts1, ho1, hr1, hn1, hz1⟩ := HA2.out.out
        obtain ⟨v3a, v3n, v3c⟩ := v3
        unfold slV at ho3 hr3 hz3 ho1 hr1 hz1 ⊢
        dsimp only at ho3 hr3 hz3 ho1 hr1 hz1 ⊢
        obtain ⟨_, _, e3⟩ := sownSl ho3
        obtain ⟨_, _, e1⟩ := sownSl ho1
        obtain rfl : v3n = N3 := by injection e3
        obtain rfl : vn = n1 := by injection e1
        have HG23 : Hid (wr.grownBy w3 none) := HG2.out.trans hg3
        have HO1 : Hid (SOwn slE 37 w3 w.heap.size (.slice va vn vc) vn ts1) := SOwn.kept ho1 HG23.out (by cases va <;> simp [Value.ownBlock])
        have HB1 : Hid (∀ k, Value.ownBlock (.slice va vn vc) = some k → k < wr.heap.size) := fun k hk => (ho1.block k hk).2
        have HO3 : Hid (SOwn slE 37 w3 w2.heap.size (.slice v3a v3n v3c) v3n ts3) := ho3
        have HR1 : Hid (RecsAt wr w.heap.size (Value.ownBlock (.slice va vn vc)) ts1 (cpRecs K ++ recsOf (LL.take i))) := hr1
        have HR3 : Hid (RecsAt w3 w2.heap.size (Value.ownBlock (.slice v3a v3n v3c)) ts3 q.2) := hr3
        have HL3 : Hid (ts3.length = v3n) := ho3.len
        have HN3 : Hid (v3n = q.2.length ∧ vn = (cpRecs K ++ recsOf (LL.take i)).length) := ⟨hn3, hn1⟩
        have HZ3 : Hid (v3n = 0 → v3a = none ∧ v3c = 0) := fun h => by
          have h1 : q.2 = [] := List.eq_nil_of_length_eq_zero (by rw [← hn3]; exact h)
          have h2 := hz3 h1
          injection h2 with h3 h4 h5
          exact ⟨h3, h5⟩
        have HZ1 : Hid ((cpRecs K ++ recsOf (LL.take i)) = [] → va = none ∧ vc = 0) := fun h => by
          have h2 := hz1 h
          injection h2 with h3 h4 h5
          exact ⟨h3, h5⟩
        have hsum : vn + v3n ≤ 4194304 := by
          have h1 := HSZ.out
          have h2 : (cpRecs K ++ recsOf (LL.take (i + 1))).length ≤ (cpRecs K ++ recsOf LL).length := by
            conv => rhs; rw [← List.take_append_drop (i + 1) LL]
            unfold recsOf
            rw [List.flatMap_append]
            simp
          rw [HTK] at h2
          rw [hn3, hn1]
          simp at h1 h2 ⊢
          omega
        have hwsz : w.heap.size ≤ w3.heap.size := Nat.le_trans HG.out.size HG23.out.size
        clear ho3 hr3 hz3 ho1 hr1 hz1 hg3 hn3 hn1 e1 e3 HRF
        go_wp2_with (at_builtin; refine wpList_append_u slET rfl (.tmp 61) (.tmp 62) rfl w.heap.size va vc vn ts1 rfl HO1.out v3a ts3 v3n v3c rfl HL3.out HO3.out.rd HZ3.out (by omega) (by unfold maxLen; omega) hwsz ?_; intro va' vc' w4 ho4 hg4 hk4 hz4; have HO4 : Hid (SOwn slE 37 w4 w.heap.size (.slice va' (vn + v3n) vc') (vn + v3n) (ts1 ++ ts3)) := ho4; have HG4 : Hid (w3.grownBy w4 (Value.ownBlock (.slice va vn vc))) := hg4; have HK4 : Hid (∀ k, Value.ownBlock (.slice va' (vn + v3n) vc') = some k → w3.heap.size ≤ k ∨ Value.ownBlock (.slice va vn vc) = some k) := hk4; have HZ4 : Hid (v3n = 0 → va' = va ∧ vc' = vc) := hz4; clear ho4 hg4 hk4 hz4)
        go_roundw
        case rel =>
          refine ⟨i + 1, (va', vn + v3n, vc'), by omega, by go_num, rfl, ⟨vn + v3n, ts1 ++ ts3, HO4.out, ?_, ?_, ?_⟩, ?_⟩
          · rw [HTK, ← List.append_assoc]
            have h1 := (HR1.out.kept HG23.out (fun k hk => by cases hk)).step HG4.out HK4.out
            have hb : ∀ k, Value.ownBlock (.slice va vn vc) = some k → k < w2.heap.size := fun k hk => Nat.lt_of_lt_of_le (HB1.out k hk) HG2.out.size
            have h3 : RecsAt w3 w2.heap.size (Value.ownBlock (.slice va vn vc)) ts3 q.2 := HR3.out.turn (Nat.le_refl _) (fun k hk => .inr (.inl (hb k hk)))
            have h4 := (h3.step HG4.out HK4.out).turn (o' := Value.ownBlock (.slice va' (vn + v3n) vc')) (Nat.le_trans HG.out.size HG2.out.size) (fun k hk => .inr (.inr hk))
            exact RecsAt.app h1 h4
          · rw [HTK, ← List.append_assoc, List.length_append, ← HN3.out.1, ← HN3.out.2]
          · intro he
            rw [HTK, ← List.append_assoc] at he
            obtain ⟨he1, he2⟩ := List.append_eq_nil_iff.1 he
            have h0 : v3n = 0 := by rw [HN3.out.1, he2]; rfl
            have h1 : vn = 0 := by rw [HN3.out.2, he1]; rfl
            obtain ⟨e1, e2⟩ := HZ4.out h0
            obtain ⟨e3, e4⟩ := HZ1.out he1
            show Value.slice va' (vn + v3n) vc' = _
            rw [e1, e2, e3, e4, h0, h1]
          · exact gb_trans (HG.out.trans HG23.out) HG4.out (fun k hk => .inl (HO1.out.block k hk).1)
        case measure => simp [intOf]; omega
      · have hii : (i : Int) < (NL : Int) := by omega
        have hq : LL[i]? = some (kl, rl) := by
          have h1 := ENL.out
          have h2 := HLL.out
          rw [h2] at h1 ⊢
          rw [List.length_append, List.length_singleton] at h1
          have h3 : i = Ls.length := by omega
          rw [h3]
          simp
        obtain ⟨q, eq⟩ : ∃ q, q = (kl, rl) := ⟨_, rfl⟩
        rw [← eq] at hq
        have EQ : Hid (q = (kl, rl)) := eq
        have hq8 : q.1 < 100000000 := by rw [eq]; exact hkl
        have hV : x.V (segN dir q.1) = some (logB frameR q.2 ++ tl, sl) := by rw [eq]; exact HTV.out
        have hF2 : FileRecs (logB frameR q.2 ++ tl) q.2 tl := by rw [eq]; exact HTF.out
        clear eq
        obtain ⟨b, off, rfl, hcell⟩ := nI_cell HRr.out (l := LL.map Prod.fst) (i := i) (k := q.1) (by rw [List.getElem?_map, hq]; rfl)
        have HTK := recsOf_take LL i q hq
        have HSG : Hid (Calls Tryz.prog 105 #[.pointer (some ⟨p, 0, none⟩), .int .i64 (q.1 : Int)] wr fun e w' => e = .returned (.string (segN dir q.1)) ∧ wr.grownBy w' none) := w_segment p d dir cp _ (op : Int) q.1 hq8 wr (by omega) HTr.out HWr.out
        clear hq
        dsimp only
        go_wp2_with fail
        refine HSG.out.mono ?_
        rintro e w2 ⟨rfl, hg2⟩
        have HG2 : Hid (wr.grownBy w2 none) := hg2
        have HRF : Hid (Calls Tryz.prog 172 #[.pointer (some ⟨p, 0, none⟩), .string (segN dir q.1)] w2 fun e w' => ∃ v a c N, e = .returned (.tuple #[slV v, .slice a (logB frameR q.2).length c, .bool (decide (tl ≠ []))]) ∧ RecsOut w2 w' (slV v) N q.2 ∧ Out w2 w' a (logB frameR q.2).length c (logB frameR q.2) ∧ w2.grownBy w' none) := w_replayFile base p d mb n dir cp _ (op : Int) x B (segN dir q.1) _ sl q.2 tl w2 (HWr.out.kept hg2 (by simp)) (DV.kept HDr.out hg2) hon (seg_name HDIR.out q.1) hV hF2
        rw [HDT.out] at HRF
        clear hg2 HSG
        go_wp2_with fail
        refine HRF.out.mono ?_
        rintro e w3 ⟨v3, a3, k3, N3, rfl, hro, hout, hg3⟩
        obtain ⟨ts3, ho3, hr3, hn3, hz3⟩ := hro
        obtain ⟨n1, ts1, ho1, hr1, hn1, hz1⟩ := HA2.out.out
        obtain ⟨v3a, v3n, v3c⟩ := v3
        unfold slV at ho3 hr3 hz3 ho1 hr1 hz1 ⊢
        dsimp only at ho3 hr3 hz3 ho1 hr1 hz1 ⊢
        obtain ⟨_, _, e3⟩ := sownSl ho3
        obtain ⟨_, _, e1⟩ := sownSl ho1
        obtain rfl : v3n = N3 := by injection e3
        obtain rfl : vn = n1 := by injection e1
        have HG23 : Hid (wr.grownBy w3 none) := HG2.out.trans hg3
        have HO1 : Hid (SOwn slE 37 w3 w.heap.size (.slice va vn vc) vn ts1) := SOwn.kept ho1 HG23.out (by cases va <;> simp [Value.ownBlock])
        have HB1 : Hid (∀ k, Value.ownBlock (.slice va vn vc) = some k → k < wr.heap.size) := fun k hk => (ho1.block k hk).2
        have HO3 : Hid (SOwn slE 37 w3 w2.heap.size (.slice v3a v3n v3c) v3n ts3) := ho3
        have HR1 : Hid (RecsAt wr w.heap.size (Value.ownBlock (.slice va vn vc)) ts1 (cpRecs K ++ recsOf (LL.take i))) := hr1
        have HR3 : Hid (RecsAt w3 w2.heap.size (Value.ownBlock (.slice v3a v3n v3c)) ts3 q.2) := hr3
        have HL3 : Hid (ts3.length = v3n) := ho3.len
        have HN3 : Hid (v3n = q.2.length ∧ vn = (cpRecs K ++ recsOf (LL.take i)).length) := ⟨hn3, hn1⟩
        have HZ3 : Hid (v3n = 0 → v3a = none ∧ v3c = 0) := fun h => by
          have h1 : q.2 = [] := List.eq_nil_of_length_eq_zero (by rw [← hn3]; exact h)
          have h2 := hz3 h1
          injection h2 with h3 h4 h5
          exact ⟨h3, h5⟩
        have HZ1 : Hid ((cpRecs K ++ recsOf (LL.take i)) = [] → va = none ∧ vc = 0) := fun h => by
          have h2 := hz1 h
          injection h2 with h3 h4 h5
          exact ⟨h3, h5⟩
        have hsum : vn + v3n ≤ 4194304 := by
          have h1 := HSZ.out
          have h2 : (cpRecs K ++ recsOf (LL.take (i + 1))).length ≤ (cpRecs K ++ recsOf LL).length := by
            conv => rhs; rw [← List.take_append_drop (i + 1) LL]
            unfold recsOf
            rw [List.flatMap_append]
            simp
          rw [HTK] at h2
          rw [hn3, hn1]
          simp at h1 h2 ⊢
          omega
        have hwsz : w.heap.size ≤ w3.heap.size := Nat.le_trans HG.out.size HG23.out.size
        obtain ⟨M, eM⟩ : ∃ M, M = (logB frameR q.2).length := ⟨_, rfl⟩
        have HM : Hid ((logB frameR q.2).length = M) := eM.symm
        have hq2 : q.2 ≠ [] := by rw [EQ.out]; exact HRL.out
        have hM0 : M ≠ 0 := by
          intro e
          rw [e] at eM
          have h1 := logB_ge q.2 q.2.length (Nat.le_refl _)
          rw [List.take_length] at h1
          have : q.2.length = 0 := by omega
          exact hq2 (List.eq_nil_of_length_eq_zero this)
        have hM4 : M ≤ 4194304 := by rw [eM, EQ.out]; exact hlb
        obtain ⟨_, hord, _, _, holo⟩ := hout
        rw [← eM]
        cases a3 with
        | none =>
          exfalso
          have h1 := (rd_srd hord).none
          rw [h1] at eM
          exact hM0 eM
        | some ad3 =>
        have HAD : Hid (w2.heap.size ≤ ad3.block) := holo ad3 rfl
        have HORD : Hid (Rd w3 (some ad3) (logB frameR q.2)) := hord
        clear eM hord holo hq2
        clear hF2 hV ho3 hr3 hz3 ho1 hr1 hz1 hg3 hn3 hn1 e1 e3 HRF
        go_wp2_with (at_builtin; refine wpList_append_u slET rfl (.tmp 61) (.tmp 62) rfl w.heap.size va vc vn ts1 rfl HO1.out v3a ts3 v3n v3c rfl HL3.out HO3.out.rd HZ3.out (by omega) (by unfold maxLen; omega) hwsz ?_; intro va' vc' w4 ho4 hg4 hk4 hz4; have HO4 : Hid (SOwn slE 37 w4 w.heap.size (.slice va' (vn + v3n) vc') (vn + v3n) (ts1 ++ ts3)) := ho4; have HG4 : Hid (w3.grownBy w4 (Value.ownBlock (.slice va vn vc))) := hg4; have HK4 : Hid (∀ k, Value.ownBlock (.slice va' (vn + v3n) vc') = some k → w3.heap.size ≤ k ∨ Value.ownBlock (.slice va vn vc) = some k) := hk4; have HZ4 : Hid (v3n = 0 → va' = va ∧ vc' = vc) := hz4; clear ho4 hg4 hk4 hz4)
        have HG04 : Hid (w.grownBy w4 none) := gb_trans (HG.out.trans HG23.out) HG4.out (fun k hk => .inl (HO1.out.block k hk).1)
        have HRO4 : Hid (RecsOut w w4 (.slice va' (vn + v3n) vc') (vn + v3n) (cpRecs K ++ recsOf LL)) := by
          have HTK2 : recsOf LL = recsOf (LL.take i) ++ q.2 := by
            rw [← HTK, List.take_of_length_le (by rw [← ENL.out]; omega)]
          refine ⟨ts1 ++ ts3, HO4.out, ?_, ?_, ?_⟩
          · rw [HTK2, ← List.append_assoc]
            have h1 := (HR1.out.kept HG23.out (fun k hk => by cases hk)).step HG4.out HK4.out
            have hb : ∀ k, Value.ownBlock (.slice va vn vc) = some k → k < w2.heap.size := fun k hk => Nat.lt_of_lt_of_le (HB1.out k hk) HG2.out.size
            have h3 : RecsAt w3 w2.heap.size (Value.ownBlock (.slice va vn vc)) ts3 q.2 := HR3.out.turn (Nat.le_refl _) (fun k hk => .inr (.inl (hb k hk)))
            have h4 := (h3.step HG4.out HK4.out).turn (o' := Value.ownBlock (.slice va' (vn + v3n) vc')) (Nat.le_trans HG.out.size HG2.out.size) (fun k hk => .inr (.inr hk))
            exact RecsAt.app h1 h4
          · rw [HTK2, ← List.append_assoc, List.length_append, ← HN3.out.1, ← HN3.out.2]
          · intro he
            rw [HTK2, ← List.append_assoc] at he
            obtain ⟨he1, he2⟩ := List.append_eq_nil_iff.1 he
            have h0 : v3n = 0 := by rw [HN3.out.1, he2]; rfl
            have h1 : vn = 0 := by rw [HN3.out.2, he1]; rfl
            obtain ⟨e1, e2⟩ := HZ4.out h0
            obtain ⟨e3, e4⟩ := HZ1.out he1
            show Value.slice va' (vn + v3n) vc' = _
            rw [e1, e2, e3, e4, h0, h1]
        have HRD4 : Hid (Rd w4 (some ad3) (logB frameR q.2)) := HORD.out.grown HG4.out (fun y hy e => by
          have h1 : y = ad3 := Option.some.inj hy.symm
          rw [h1] at e
          have h2 := HB1.out ad3.block e.symm
          have h3 := HG2.out.size
          have h4 := HAD.out
          omega)
        have hL4 := HLA.out.grown HG04.out
        have hdn := w_dropNone base d mb n x p dir cp _ op A B NL w4 hL4 (by rw [List.length_map]; exact ENL.out.symm)
        have e47 : ((NL : Nat) : Int) = (i : Int) + 1 := by omega
        rw [e47] at hdn
        refine hdn.mono ?_
        rintro e _ ⟨rfl, rfl⟩
        have hsg2 := w_segment p d dir cp _ (op : Int) q.1 hq8 w4 (by omega) (HT.out.grown HG04.out) (HW.out.kept HG04.out (by simp))
        have HL4 : Hid (LogAt w4 base d mb n x p dir cp (LL.map Prod.fst) op A B) := hL4
        clear hdn hL4
        go_wp2_with fail
        refine hsg2.mono ?_
        rintro e w5 ⟨rfl, hg5⟩
        have hb5 : base ≤ w5.heap.size := Nat.le_trans hb (Nat.le_trans HG04.out.size hg5.size)
        have hadB : ¬ B ad3.block := fun hB => by
          have h1 := HWLt.out _ (.inr hB)
          have h2 := HAD.out
          have h3 := HG.out.size
          have h4 := HG2.out.size
          omega
        have hto := w_tearOff base d mb n x p dir cp (segN dir q.1) _ op A B ad3 (logB frameR q.2) M k3 w5 HDIR.out (HL4.out.grown hg5) HCALM.out hw hn HNEW.out (seg_name HDIR.out q.1) (rd_srd (HRD4.out.grown hg5 (by simp))) HM.out hM0 HORD.out.2 hM4 hb5 hadB
        have HG5 : Hid (w4.grownBy w5 none) := hg5
        clear hsg2 hg5 hb5 hadB
        go_wp2_with fail
        refine hto.mono ?_
        rintro e w6 ⟨rfl, n6, B6, hn6, hL6, hS6⟩
        have HFIN : Hid (TornOut w base d mb n (putX x dir (segN dir kl) (logB frameR rl)) p dir cp (LL.map Prod.fst) op A B (cpRecs K ++ recsOf LL) (.returned (.slice va' (vn + v3n) vc')) w6) := by
          refine ⟨(va', vn + v3n, vc'), vn + v3n, n6, B6, rfl, (HRO4.out.grown HG5.out).keptK hS6.kept (fun k hk hX => by have := HWLt.out k hX; omega), hn6, ?_, (Step2.grown A B (HG04.out.trans HG5.out)).trans hS6⟩
          have e := EQ.out
          rw [e] at hL6
          exact hL6
        clear hto hL6 hS6
        go_wp2
        go_ret
        exact HFIN.out
end Go.Proofs.YtgpgkpciajajcaaGreatDoor

/- Package wal: Open, by what mend answers. -/
namespace Go.Proofs.YtgpgkpciajajcaaGreatDoor
open Go.RowKit Go.Maps Go.Sort
set_option linter.unusedVariables false
set_option maxRecDepth 20000

/-- mend's world: the new log's row p, three cells behind it. -/
structure MendIn (w W : World) (p d : Nat) (dir : ByteArray) : Prop where
  grown : w.grownBy W none
  row : WRow W p d dir ⟨#[]⟩ (.slice none 0 0) 0
  new_ : w.heap.size ≤ p
  size : W.heap.size = p + 4
/-- The world behind Open: mend's, the records' cell and the error's written. -/
def openW (w : World) (p : Nat) (v : Sl) : World := ((w.setCell ⟨p + 2, 0, none⟩ (slV v)).setCell ⟨p + 3, 0, none⟩ (.int .i64 0)).drew
set_option maxHeartbeats 8000000 in
theorem w_openG (d : Nat) (dir : ByteArray) (w : World) (hdir : dirB dir = true) (P : World → Nat → Sl → World → Prop)
    (hm : ∀ W p, MendIn w W p d dir → Calls Tryz.prog 121 #[.pointer (some ⟨p, 0, none⟩)] W fun e w' => ∃ v : Sl, e = .returned (slV v) ∧ P W p v w' ∧ ∀ k, p < k → k < W.heap.size → w'.heap[k]? = W.heap[k]?) :
    Calls Tryz.prog 80 #[.pointer (some ⟨d, 0, none⟩), .string dir] w fun e w' => ∃ W p v w5, MendIn w W p d dir ∧ P W p v w5 ∧ e = .returned (.tuple #[.pointer (some ⟨p, 0, none⟩), slV v, .int .i64 0]) ∧ w' = openW w5 p v := by
  have hds : dir.size ≤ 32 := by simp only [dirB, Bool.and_eq_true, decide_eq_true_eq] at hdir; exact hdir.2
  have HIF : Hid (Calls Tryz.prog 119 #[.string dir] w fun e w' => e = .returned (.bool true) ∧ w.grownBy w' none) := by
    have := w_isFolder dir (by omega) w
    rw [hdir] at this
    exact this
  have HMM : Hid (∀ W p, MendIn w W p d dir → Calls Tryz.prog 121 #[.pointer (some ⟨p, 0, none⟩)] W fun e w' => ∃ v : Sl, e = .returned (slV v) ∧ P W p v w' ∧ ∀ k, p < k → k < W.heap.size → w'.heap[k]? = W.heap[k]?) := hm
  have hmf : ∀ (fn : Fn) (first cap : Array Value) (w : World), (Instr.makeFunc fn first cap).run Tryz.prog w = .ok (.func fn first cap) w := fun _ _ _ _ => rfl
  clear hm
  go_enter Tryz.func80, Tryz.ntmps80
  go_wp2_with fail
  refine HIF.out.mono ?_
  rintro e w1 ⟨rfl, hg1⟩
  have HG1 : Hid (w.grownBy w1 none) := hg1
  clear hg1 HIF
  go_wp2_with fail
  obtain ⟨W3, eW3⟩ : ∃ W3, W3 = ((w1.alloc (.cells #[.pointer (some ⟨d, 0, none⟩), .string dir, .string ⟨#[]⟩, .slice none 0 0, .int .i64 0] 143)).alloc (.cells #[.pointer (some ⟨w1.heap.size, 0, none⟩)] 65)).alloc (.cells #[.slice none 0 0] 71) := ⟨_, rfl⟩
  obtain ⟨W4, eW4⟩ : ∃ W4, W4 = W3.alloc (.cells #[.int .i64 0] 31) := ⟨_, rfl⟩
  have hs1 : ∀ (w : World) o, (w.alloc o).heap.size = w.heap.size + 1 := fun w o => Array.size_push _
  have hz3 : W3.heap.size = w1.heap.size + 3 := by rw [eW3, hs1, hs1, hs1]
  have hz4 : W4.heap.size = w1.heap.size + 4 := by rw [eW4, hs1, hz3]
  have hr0 : WRow (w1.alloc (.cells #[.pointer (some ⟨d, 0, none⟩), .string dir, .string ⟨#[]⟩, .slice none 0 0, .int .i64 0] 143)) w1.heap.size d dir ⟨#[]⟩ (.slice none 0 0) 0 := World.rowIs_alloc w1 #[.pointer (some ⟨d, 0, none⟩), .string dir, .string ⟨#[]⟩, .slice none 0 0, .int .i64 0] 143 _ (five rfl rfl rfl rfl rfl)
  have hg14 : w1.grownBy W4 none := by
    rw [eW4, eW3]
    exact (((World.grownBy_alloc w1 _ none).trans (World.grownBy_alloc _ _ none)).trans (World.grownBy_alloc _ _ none)).trans (World.grownBy_alloc _ _ none)
  have hW4 : WRow W4 w1.heap.size d dir ⟨#[]⟩ (.slice none 0 0) 0 := by
    rw [eW4, eW3]
    exact ((hr0.alloc _).alloc _).alloc _
  have hq4 : W4.rowIs (w1.heap.size + 1) 65 1 (fun _ => .pointer (some ⟨w1.heap.size, 0, none⟩)) := by
    have := row1 (w1.alloc (.cells #[.pointer (some ⟨d, 0, none⟩), .string dir, .string ⟨#[]⟩, .slice none 0 0, .int .i64 0] 143)) (.pointer (some ⟨w1.heap.size, 0, none⟩)) 65
    rw [hs1] at this
    rw [eW4, eW3]
    exact (this.alloc _).alloc _
  have hr4 : W4.rowIs (w1.heap.size + 2) 71 1 (fun _ => .slice none 0 0) := by
    have := row1 ((w1.alloc (.cells #[.pointer (some ⟨d, 0, none⟩), .string dir, .string ⟨#[]⟩, .slice none 0 0, .int .i64 0] 143)).alloc (.cells #[.pointer (some ⟨w1.heap.size, 0, none⟩)] 65)) (.slice none 0 0) 71
    rw [hs1, hs1] at this
    rw [eW4, eW3]
    exact this.alloc _
  have hs4 : W4.rowIs (w1.heap.size + 3) 31 1 (fun _ => .int .i64 0) := by
    have := row1 W3 (.int .i64 0) 31
    rw [hz3] at this
    rw [eW4]
    exact this
  have hgw4 : w.grownBy W4 none := HG1.out.trans hg14
  have hMI : MendIn w W4 w1.heap.size d dir := ⟨hgw4, hW4, HG1.out.size, hz4⟩
  have HM := HMM.out W4 w1.heap.size hMI
  have HMI : Hid (MendIn w W4 w1.heap.size d dir) := hMI
  have HC := w_caught44 #[.pointer (some ⟨w1.heap.size + 1, 0, none⟩), .pointer (some ⟨w1.heap.size + 2, 0, none⟩)] (fun w2 => ∃ (v : Sl) (w5 : World), (P W4 w1.heap.size v w5 ∧ ∀ k, w1.heap.size < k → k < W4.heap.size → w5.heap[k]? = W4.heap[k]?) ∧ w2 = w5.setCell ⟨w1.heap.size + 2, 0, none⟩ (slV v)) W3 (by
    rw [← eW4, hz3]
    refine (w_open1 (w1.heap.size + 1) (w1.heap.size + 2) w1.heap.size (.slice none 0 0) W4 (fun v w5 => P W4 w1.heap.size v w5 ∧ ∀ k, w1.heap.size < k → k < W4.heap.size → w5.heap[k]? = W4.heap[k]?) (hq4.cell (i := 0) (by omega)) (HM.mono ?_)).mono ?_
    · rintro e w5 ⟨v, rfl, hp5, hk5⟩
      have hr5 := hr4.of_block (hk5 _ (by omega) hr4.lt)
      exact ⟨v, rfl, ⟨hp5, hk5⟩, hr5.cell (i := 0) (by omega), hr5.frozen 0⟩
    · rintro e w2 ⟨rfl, v, w5, hout, rfl, _⟩
      refine ⟨rfl, ⟨v, w5, hout, rfl⟩, ?_⟩
      have hs5 := (hs4.of_block (hout.2 _ (by omega) hs4.lt)).setOther (a := ⟨w1.heap.size + 2, 0, none⟩) (by show w1.heap.size + 3 ≠ w1.heap.size + 2; omega) (slV v)
      exact ⟨hs5.cell (i := 0) (by omega), hs5.frozen 0⟩)
  rw [hz3] at HC
  have HC : Hid (Calls Tryz.prog 97 #[.func (.func 120) #[] #[.pointer (some ⟨w1.heap.size + 1, 0, none⟩), .pointer (some ⟨w1.heap.size + 2, 0, none⟩)]] W3 fun e w' => e = .returned (.int .i64 0) ∧ ∃ w2, (∃ (v : Sl) (w5 : World), (P W4 w1.heap.size v w5 ∧ ∀ k, w1.heap.size < k → k < W4.heap.size → w5.heap[k]? = W4.heap[k]?) ∧ w2 = w5.setCell ⟨w1.heap.size + 2, 0, none⟩ (slV v)) ∧ w' = w2.setCell ⟨w1.heap.size + 3, 0, none⟩ (.int .i64 0)) := HC
  rw [← eW3, show w1.heap.size + 1 + 1 = w1.heap.size + 2 from rfl]
  have HQ4 : Hid (W4.rowIs (w1.heap.size + 1) 65 1 (fun _ => .pointer (some ⟨w1.heap.size, 0, none⟩))) := hq4
  have HR4 : Hid (W4.rowIs (w1.heap.size + 2) 71 1 (fun _ => .slice none 0 0)) := hr4
  have HGW4 : Hid (w.grownBy W4 none) := hgw4
  have HZ4 : Hid (W4.heap.size = w1.heap.size + 4) := hz4
  clear HM hs1 hz3 hz4 hr0 hg14 hW4 hq4 hr4 hs4 hgw4 eW3 eW4 hMI
  refine HC.out.mono ?_
  rintro e w3 ⟨rfl, w2, ⟨v, w5, hout, rfl⟩, rfl⟩
  obtain ⟨hp5, hk5⟩ := hout
  have cq : ((w5.setCell ⟨w1.heap.size + 2, 0, none⟩ (slV v)).setCell ⟨w1.heap.size + 3, 0, none⟩ (.int .i64 0)).cell? ⟨w1.heap.size + 1, 0, none⟩ = some (.pointer (some ⟨w1.heap.size, 0, none⟩)) := by
    have := ((HQ4.out.of_block (hk5 _ (by omega) HQ4.out.lt)).setOther (a := ⟨w1.heap.size + 2, 0, none⟩) (by show w1.heap.size + 1 ≠ w1.heap.size + 2; omega) (slV v)).setOther (a := ⟨w1.heap.size + 3, 0, none⟩) (by show w1.heap.size + 1 ≠ w1.heap.size + 3; omega) (.int .i64 0)
    exact this.cell (i := 0) (by omega)
  have cr : ((w5.setCell ⟨w1.heap.size + 2, 0, none⟩ (slV v)).setCell ⟨w1.heap.size + 3, 0, none⟩ (.int .i64 0)).cell? ⟨w1.heap.size + 2, 0, none⟩ = some (slV v) := by
    have := ((HR4.out.of_block (hk5 _ (by omega) HR4.out.lt)).set 0 (slV v)).setOther (a := ⟨w1.heap.size + 3, 0, none⟩) (by show w1.heap.size + 2 ≠ w1.heap.size + 3; omega) (.int .i64 0)
    exact this.cell (i := 0) (by omega)
  have HP : Hid (∃ W p v' w5', MendIn w W p d dir ∧ P W p v' w5' ∧ Ending.returned (.tuple #[.pointer (some ⟨w1.heap.size, 0, none⟩), slV v, .int .i64 0]) = .returned (.tuple #[.pointer (some ⟨p, 0, none⟩), slV v', .int .i64 0]) ∧ ((w5.setCell ⟨w1.heap.size + 2, 0, none⟩ (slV v)).setCell ⟨w1.heap.size + 3, 0, none⟩ (.int .i64 0)).drew = openW w5' p v') := ⟨W4, w1.heap.size, v, w5, HMI.out, hp5, rfl, rfl⟩
  clear hp5 hk5 HC HQ4 HR4
  unfold slV at cq cr HP ⊢
  go_wp2
  go_region
  all_goals go_wp2
  all_goals go_ret3
  all_goals exact HP.out
end Go.Proofs.YtgpgkpciajajcaaGreatDoor

