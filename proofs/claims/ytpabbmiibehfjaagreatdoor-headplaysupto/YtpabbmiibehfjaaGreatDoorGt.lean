/- Several texts in one: Ig, Ih, Ii. -/
import Derived.Test.YtpabbmiibehfjaaGreatDoorGs
/- Series held against one another. -/
namespace Go.Proofs.YtpabbmiibehfjaaGreatDoor
open Go.RowKit Go.Maps
set_option linter.unusedVariables false
set_option maxRecDepth 20000

theorem neq51 (x0 : Int) (x1 : Int) (y0 : Int) (y1 : Int) (w : World) : (binOp .neq 51 (.agg #[.int .i64 x0, .int .u64 x1]) (.agg #[.int .i64 y0, .int .u64 y1])).run Tryz.prog w = .ok (.bool (!decide (((x0, x1) : Pt) = (y0, y1)))) w := by
  have h : (Op.equal 51 (.agg #[.int .i64 x0, .int .u64 x1]) (.agg #[.int .i64 y0, .int .u64 y1])).run Tryz.prog w = .ok (decide (((x0, x1) : Pt) = (y0, y1))) w := by
    have hf : (Tryz.prog.fieldsOf 51).toList.map (fun f => (f.type, f.offset)) = [(2, 0), (29, 1)] := by kernel_rfl
    have hn : (Tryz.prog.fieldsOf 51).toList.all (fun f => f.name != "_") = true := by kernel_rfl
    have hu : Tryz.prog.underlying 51 = some (.struct (Tryz.prog.fieldsOf 51)) := by kernel_rfl
    have hp : Tryz.prog.stoodInHeld 51 = false := by kernel_rfl
    simp only [Op.equal]
    rw [show Op.maxDepth = 9999 + 1 from rfl, run_equalIn_struct w 9999 51 _ _ hu hp]
    generalize (Tryz.prog.fieldsOf 51).toList = fs at hf hn
    have hl : fs.length = 2 := by simpa using congrArg List.length hf
    obtain ⟨f0, f1, rfl⟩ : ∃ f0 f1, fs = [f0, f1] := by
      match fs, hl with
      | [f0, f1], _ => exact ⟨f0, f1, rfl⟩
    simp only [List.map_cons, List.map_nil, List.cons.injEq, Prod.mk.injEq, and_true] at hf
    simp only [List.all_cons, List.all_nil, Bool.and_true, Bool.and_eq_true, bne_iff_ne] at hn
    obtain ⟨⟨a0, b0⟩, ⟨a1, b1⟩⟩ := hf
    have p0 : ∀ (z0 : Int) (z1 : Int) (w : World), (part 2 #[.int .i64 z0, .int .u64 z1] 0).run Tryz.prog w = .ok (.int .i64 z0) w := fun z0 z1 w => by simp [part, go_sem]
    have p1 : ∀ (z0 : Int) (z1 : Int) (w : World), (part 29 #[.int .i64 z0, .int .u64 z1] 1).run Tryz.prog w = .ok (.int .u64 z1) w := fun z0 z1 w => by simp [part, go_sem]
    have q0 : ∀ (x y : Int) (w : World), (Op.equalIn 9999 2 (.int .i64 x) (.int .i64 y)).run Tryz.prog w = .ok (decide (x = y)) w := fun x y w => by rw [run_equalIn_int w 9998 2 .i64 _ x y Tryz.underlying2]; congr 1
    have q1 : ∀ (x y : Int) (w : World), (Op.equalIn 9999 29 (.int .u64 x) (.int .u64 y)).run Tryz.prog w = .ok (decide (x = y)) w := fun x y w => by rw [run_equalIn_int w 9998 29 .u64 _ x y Tryz.underlying29]; congr 1
    by_cases e0 : x0 = y0 <;> by_cases e1 : x1 = y1 <;> simp [Op.eqFields, hn.1, hn.2, a0, b0, a1, b1, p0, e0, p1, e1, q0, q1]
  simp [binOp, h]
theorem psame_len (a b : Option Addr) (L M : Nat) (c d : Nat) (w : World) (hne : ¬ L = M) :
    Calls Tryz.prog 20 #[.slice a L c, .slice b M d] w fun e w' => e = .returned (.bool false) ∧ w = w' := by
  have h : ((L : Int) != (M : Int)) = true := by simp; omega
  go_enter Tryz.func20, Tryz.ntmps20
  go_wp2
  go_ret
  exact ⟨rfl, rfl⟩
set_option maxHeartbeats 1000000 in
theorem psame_loop (a b : Option Addr) (xs ys : List Pt) (c d : Nat) (w : World) (hx : SRd pntE w a xs) (hy : SRd pntE w b ys) (hl : ys.length = xs.length) (hz : xs.length ≤ 8796093022208) :
    Calls Tryz.prog 20 #[.slice a xs.length c, .slice b xs.length d] w fun e w' => e = .returned (.bool (decide (xs = ys))) ∧ ∃ n, w' = w.drewN n := by
  have HX : Hid (SRd pntE w a xs) := hx
  have HY : Hid (SRd pntE w b ys) := hy
  have HE : Hid (∀ k, k < xs.length → xs[k]? ≠ ys[k]? → decide (xs = ys) = false) := by
    intro k hk hne
    simp only [decide_eq_false_iff_not]
    intro h
    rw [h] at hne
    exact hne rfl
  have HF : Hid ((∀ j, j < xs.length → xs[j]? = ys[j]?) → decide (xs = ys) = true) := fun h => by
    simp only [decide_eq_true_eq]
    apply List.ext_getElem?
    intro j
    by_cases hj : j < xs.length
    · exact h j hj
    · rw [List.getElem?_eq_none (by omega), List.getElem?_eq_none (by omega)]
  have HM : Hid (ys.length = xs.length) := hl
  obtain ⟨L, hL⟩ : ∃ L, L = xs.length := ⟨_, rfl⟩
  have H5 : Hid (L = xs.length) := hL
  obtain ⟨res, hres⟩ : ∃ r, r = decide (xs = ys) := ⟨_, rfl⟩
  have HRes : Hid (res = decide (xs = ys)) := hres
  rw [← hL] at hz ⊢
  rw [← hres]
  clear hx hy hl hL hres
  go_enter Tryz.func20, Tryz.ntmps20
  go_wp2
  go_loopw [5] (fun i wr => ∃ k : Nat, k ≤ L ∧ i = .int .i64 k ∧ (∃ n, wr = w.drewN n) ∧ ∀ j, j < k → xs[j]? = ys[j]?) (fun i _ => L - (intOf i).toNat)
  case atStart => exact ⟨0, Nat.zero_le _, rfl, ⟨0, rfl⟩, fun j h => by omega⟩
  case round =>
    obtain ⟨k, hk, rfl, ⟨m, rfl⟩, hall⟩ := hrel
    have HA : Hid (∀ j, j < k → xs[j]? = ys[j]?) := hall
    clear hall
    by_cases hlt : k < L
    · have h5 := H5.out
      have h6 := HM.out
      obtain ⟨ba, offa, rfl, hca⟩ := HX.out.at (by omega)
      obtain ⟨bb, offb, rfl, hcb⟩ := HY.out.at (by omega)
      obtain ⟨⟨x0, x1⟩, ex⟩ : ∃ x, xs[k]? = some x := ⟨_, List.getElem?_eq_getElem (by omega)⟩
      obtain ⟨⟨y0, y1⟩, ey⟩ : ∃ y, ys[k]? = some y := ⟨_, List.getElem?_eq_getElem (by omega)⟩
      have a0 : w.cell? ⟨ba, offa + k * 2, none⟩ = some (.int .i64 x0) := by exact hca k _ 0 _ ex rfl
      have b0 : w.cell? ⟨bb, offb + k * 2, none⟩ = some (.int .i64 y0) := by exact hcb k _ 0 _ ey rfl
      have a1 : w.cell? ⟨ba, offa + k * 2 + 1, none⟩ = some (.int .u64 x1) := by rw [Nat.add_assoc]; exact hca k _ 1 _ ex rfl
      have b1 : w.cell? ⟨bb, offb + k * 2 + 1, none⟩ = some (.int .u64 y1) := by rw [Nat.add_assoc]; exact hcb k _ 1 _ ey rfl
      have EX : Hid (xs[k]? = some (x0, x1)) := ex
      have EY : Hid (ys[k]? = some (y0, y1)) := ey
      have hi : (k : Int) < (L : Int) := by omega
      have hq : ∀ w, _ := neq51 x0 x1 y0 y1
      clear hca hcb ex ey h5 h6
      by_cases hxy : ((x0, x1) : Pt) = (y0, y1)
      · have hb1 : (!decide (((x0, x1) : Pt) = (y0, y1))) = false := by simp [hxy]
        rw [hb1] at hq
        have HXY : Hid (((x0, x1) : Pt) = (y0, y1)) := hxy
        clear hxy hb1
        go_wp2_with fail
        go_quiet (fail)
        go_wp2
        go_roundw
        case rel =>
          refine ⟨k + 1, by omega, by go_num, ⟨_, rfl⟩, fun j hj => ?_⟩
          by_cases hjk : j < k
          · exact HA.out j hjk
          · have : j = k := by omega
            subst this
            rw [EX.out, EY.out, HXY.out]
        case measure => simp [intOf]; omega
      · have hb1 : (!decide (((x0, x1) : Pt) = (y0, y1))) = true := by
          rw [decide_eq_false hxy]
          rfl
        rw [hb1] at hq
        have HXY : Hid (¬ ((x0, x1) : Pt) = (y0, y1)) := hxy
        clear hxy hb1
        go_wp2_with fail
        go_quiet (fail)
        go_wp2
        go_ret
        refine ⟨ret_bool ?_, _, drewN_drewN _ _ _⟩
        rw [HRes.out]
        refine (HE.out k (by have := H5.out; omega) ?_).symm
        rw [EX.out, EY.out]
        intro e
        exact HXY.out (Option.some.inj e)
    · go_wp2
      go_ret
      refine ⟨ret_bool ?_, _, rfl⟩
      rw [HRes.out]
      exact (HF.out fun j hj => HA.out j (by have := H5.out; omega)).symm
theorem psame (a b : Option Addr) (xs ys : List Pt) (L M c d : Nat) (w : World) (hx : SRd pntE w a xs) (hy : SRd pntE w b ys) (hL : xs.length = L) (hM : ys.length = M) (hz : L ≤ 8796093022208) :
    Calls Tryz.prog 20 #[.slice a L c, .slice b M d] w fun e w' => e = .returned (.bool (decide (xs = ys))) ∧ w.grownBy w' none := by
  subst hL
  subst hM
  by_cases hl : xs.length = ys.length
  · rw [← hl]
    refine (psame_loop a b xs ys c d w hx hy hl.symm hz).mono ?_
    rintro e w' ⟨rfl, n, rfl⟩
    exact ⟨rfl, gb_drewN w n⟩
  · have e : decide (xs = ys) = false := by
      simp only [decide_eq_false_iff_not]
      intro h
      exact hl (by rw [h])
    rw [e]
    refine (psame_len a b _ _ c d w hl).mono ?_
    rintro e w' ⟨rfl, rfl⟩
    exact ⟨rfl, World.grownBy.refl _ _⟩

theorem lsameQ (a b : Option Addr) (xs ys : List Lab) (c d : Nat) (w : World) (hx : SRd labE w a xs) (hy : SRd labE w b ys) (hz : xs.length ≤ 4398046511104) :
    Calls Tryz.prog 35 #[.slice a xs.length c, .slice b ys.length d] w fun e w' => e = .returned (.bool (decide (xs = ys))) ∧ ∃ n, w' = w.drewN n := by
  by_cases hl : xs.length = ys.length
  · rw [← hl]
    exact lsame_loop a b xs ys c d w hx hy hl.symm hz
  · have e : decide (xs = ys) = false := by
      simp only [decide_eq_false_iff_not]
      intro h
      exact hl (by rw [h])
    rw [e]
    refine (lsame_len a b _ _ c d w hl).mono ?_
    rintro e w' ⟨rfl, rfl⟩
    exact ⟨rfl, 0, rfl⟩
theorem psameQ (a b : Option Addr) (xs ys : List Pt) (c d : Nat) (w : World) (hx : SRd pntE w a xs) (hy : SRd pntE w b ys) (hz : xs.length ≤ 8796093022208) :
    Calls Tryz.prog 20 #[.slice a xs.length c, .slice b ys.length d] w fun e w' => e = .returned (.bool (decide (xs = ys))) ∧ ∃ n, w' = w.drewN n := by
  by_cases hl : xs.length = ys.length
  · rw [← hl]
    exact psame_loop a b xs ys c d w hx hy hl.symm hz
  · have e : decide (xs = ys) = false := by
      simp only [decide_eq_false_iff_not]
      intro h
      exact hl (by rw [h])
    rw [e]
    refine (psame_len a b _ _ c d w hl).mono ?_
    rintro e w' ⟨rfl, rfl⟩
    exact ⟨rfl, 0, rfl⟩
/-- A list of series that can be read. -/
structure SerRd (w : World) (a : Option Addr) (raw : List (Sv × Sv)) (S : List Ser) : Prop where
  rd : SRd serE w a raw
  len : raw.length = S.length
  ser : ∀ (i : Nat) (r : Sv × Sv) (s : Ser), raw[i]? = some r → S[i]? = some s → r.1.2.1 = s.1.length ∧ r.2.2.1 = s.2.length ∧ SRd labE w r.1.1 s.1 ∧ SRd pntE w r.2.1 s.2
theorem SerRd.grown {w w' : World} {a : Option Addr} {raw : List (Sv × Sv)} {S : List Ser} (h : SerRd w a raw S) (hg : w.grownBy w' none) : SerRd w' a raw S :=
  ⟨h.rd.grown hg (by simp), h.len, fun i r s hr hs => by
    obtain ⟨h1, h2, h3, h4⟩ := h.ser i r s hr hs
    exact ⟨h1, h2, h3.grown hg (by simp), h4.grown hg (by simp)⟩⟩
theorem SerOut.read {w : World} {X : Nat → Prop} {v : Value} {S : List Ser} (h : SerOut w X v S) : ∃ a c raw, v = .slice a S.length c ∧ SerRd w a raw S := by
  obtain ⟨raw, h1, h2, h3⟩ := h
  obtain ⟨a, c, rfl⟩ := sown_slice h1
  exact ⟨a, c, raw, rfl, SOwn.rd h1, SOwn.len h1, fun i r s hr hs => by
    have k := h3 i r s hr hs
    exact ⟨k.ln, k.pn, k.lab.rd, k.pts.rd⟩⟩
theorem hsame_len (a b : Option Addr) (L M : Nat) (c d : Nat) (w : World) (hne : ¬ L = M) :
    Calls Tryz.prog 11 #[.slice a L c, .slice b M d] w fun e w' => e = .returned (.bool false) ∧ w = w' := by
  have h : ((L : Int) != (M : Int)) = true := by simp; omega
  go_enter Tryz.func11, Tryz.ntmps11
  go_wp2
  go_ret
  exact ⟨rfl, rfl⟩
theorem ser_cells {w : World} {a : Option Addr} {raw : List (Sv × Sv)} {S : List Ser} (h : SerRd w a raw S) {k : Nat} {s : Ser} (hs : S[k]? = some s) :
    ∃ b off la lc pa pc, a = some ⟨b, off, none⟩ ∧ w.cell? ⟨b, off + k * 2, none⟩ = some (.slice la s.1.length lc) ∧ w.cell? ⟨b, off + k * 2 + 1, none⟩ = some (.slice pa s.2.length pc) ∧ SRd labE w la s.1 ∧ SRd pntE w pa s.2 := by
  have hk : k < raw.length := by rw [h.len]; exact (List.getElem?_eq_some_iff.1 hs).1
  obtain ⟨⟨⟨la, ln, lc⟩, ⟨pa, pn, pc⟩⟩, hr⟩ : ∃ r, raw[k]? = some r := ⟨_, List.getElem?_eq_getElem hk⟩
  obtain ⟨b, off, rfl, hc⟩ := h.rd.at (by omega)
  obtain ⟨h1, h2, h3, h4⟩ := h.ser k _ s hr hs
  simp only at h1 h2 h3 h4
  subst h1
  subst h2
  exact ⟨b, off, la, lc, pa, pc, rfl, hc k _ 0 _ hr rfl, by rw [Nat.add_assoc]; exact hc k _ 1 _ hr rfl, h3, h4⟩
set_option maxHeartbeats 4000000 in
theorem hsame_loop (a b : Option Addr) (ra rb : List (Sv × Sv)) (xs ys : List Ser) (c d : Nat) (w : World) (hx : SerRd w a ra xs) (hy : SerRd w b rb ys) (hl : ys.length = xs.length) (hz : xs.length ≤ 9007199254740992) (hz2 : ∀ s ∈ xs, s.1.length ≤ 4398046511104 ∧ s.2.length ≤ 8796093022208) :
    Calls Tryz.prog 11 #[.slice a xs.length c, .slice b xs.length d] w fun e w' => e = .returned (.bool (decide (xs = ys))) ∧ w.grownBy w' none := by
  have HX : Hid (SerRd w a ra xs) := hx
  have HY : Hid (SerRd w b rb ys) := hy
  have HZ : Hid (∀ s ∈ xs, s.1.length ≤ 4398046511104 ∧ s.2.length ≤ 8796093022208) := hz2
  have HE : Hid (∀ k, k < xs.length → xs[k]? ≠ ys[k]? → decide (xs = ys) = false) := by
    intro k hk hne
    simp only [decide_eq_false_iff_not]
    intro h
    rw [h] at hne
    exact hne rfl
  have HF : Hid ((∀ j, j < xs.length → xs[j]? = ys[j]?) → decide (xs = ys) = true) := fun h => by
    simp only [decide_eq_true_eq]
    apply List.ext_getElem?
    intro j
    by_cases hj : j < xs.length
    · exact h j hj
    · rw [List.getElem?_eq_none (by omega), List.getElem?_eq_none (by omega)]
  have HM : Hid (ys.length = xs.length) := hl
  obtain ⟨L, hL⟩ : ∃ L, L = xs.length := ⟨_, rfl⟩
  have H5 : Hid (L = xs.length) := hL
  obtain ⟨res, hres⟩ : ∃ r, r = decide (xs = ys) := ⟨_, rfl⟩
  have HRes : Hid (res = decide (xs = ys)) := hres
  have HG0 : Hid (w.grownBy w none) := World.grownBy.refl _ _
  rw [← hL] at hz ⊢
  rw [← hres]
  clear hx hy hl hL hres hz2
  go_enter Tryz.func11, Tryz.ntmps11
  go_wp2
  go_loopw [5] (fun i wr => ∃ k : Nat, k ≤ L ∧ i = .int .i64 k ∧ w.grownBy wr none ∧ ∀ j, j < k → xs[j]? = ys[j]?) (fun i _ => L - (intOf i).toNat)
  case atStart => exact ⟨0, Nat.zero_le _, rfl, HG0.out, fun j h => by omega⟩
  case round =>
    obtain ⟨k, hk, rfl, hgr, hall⟩ := hrel
    have HA : Hid (∀ j, j < k → xs[j]? = ys[j]?) := hall
    have HGR : Hid (w.grownBy wr none) := hgr
    clear hall hgr
    by_cases hlt : k < L
    · have h5 := H5.out
      have h6 := HM.out
      obtain ⟨⟨l1, p1⟩, ex⟩ : ∃ x, xs[k]? = some x := ⟨_, List.getElem?_eq_getElem (by omega)⟩
      obtain ⟨⟨l2, p2⟩, ey⟩ : ∃ y, ys[k]? = some y := ⟨_, List.getElem?_eq_getElem (by omega)⟩
      obtain ⟨ba, offa, la, lc, pa, pc, rfl, a0, a1, rl, rp⟩ := ser_cells (HX.out.grown HGR.out) ex
      obtain ⟨bb, offb, lb, ld, pb, pd, rfl, b0, b1, sl, sp⟩ := ser_cells (HY.out.grown HGR.out) ey
      obtain ⟨z1, z2⟩ := HZ.out _ (List.mem_of_getElem? ex)
      simp only at a0 a1 b0 b1 rl rp sl sp z1 z2
      have HC1 : Hid (∀ n, Calls Tryz.prog 35 #[.slice la l1.length lc, .slice lb l2.length ld] (wr.drewN n) fun e w' => e = .returned (.bool (decide (l1 = l2))) ∧ ∃ m, w' = (wr.drewN n).drewN m) := fun n => lsameQ la lb l1 l2 lc ld _ (rl.grown (gb_drewN wr n) (by simp)) (sl.grown (gb_drewN wr n) (by simp)) z1
      have HC2 : Hid (∀ n, Calls Tryz.prog 20 #[.slice pa p1.length pc, .slice pb p2.length pd] (wr.drewN n) fun e w' => e = .returned (.bool (decide (p1 = p2))) ∧ ∃ m, w' = (wr.drewN n).drewN m) := fun n => psameQ pa pb p1 p2 pc pd _ (rp.grown (gb_drewN wr n) (by simp)) (sp.grown (gb_drewN wr n) (by simp)) z2
      have EX : Hid (xs[k]? = some (l1, p1)) := ex
      have EY : Hid (ys[k]? = some (l2, p2)) := ey
      have HGD : Hid (wr.grownBy wr.drew none) := gb_drew (World.grownBy.refl _ _)
      have hi : (k : Int) < (L : Int) := by omega
      have HEQ : Hid (decide (l1 = l2) = true → decide (p1 = p2) = true → xs[k]? = ys[k]?) := fun e1 e2 => by
        rw [ex, ey, of_decide_eq_true e1, of_decide_eq_true e2]
      have HNE : Hid (decide (l1 = l2) = false ∨ decide (p1 = p2) = false → decide (xs = ys) = false) := fun e1 => by
        refine HE.out k (by omega) ?_
        rw [ex, ey]
        intro e
        simp only [Option.some.injEq, Prod.mk.injEq] at e
        rcases e1 with e1 | e1
        · exact of_decide_eq_false e1 e.1
        · exact of_decide_eq_false e1 e.2
      generalize decide (l1 = l2) = q1 at HC1 HEQ HNE
      generalize decide (p1 = p2) = q2 at HC2 HEQ HNE
      generalize l1.length = n1 at HC1 a0 
      generalize l2.length = n2 at HC1 b0
      generalize p1.length = n3 at HC2 a1
      generalize p2.length = n4 at HC2 b1
      clear ex ey h5 h6 rl rp sl sp z1 z2
      cases q1 with
      | false =>
        have HNE' : Hid (decide (xs = ys) = false) := HNE.out (.inl rfl)
        clear HNE HEQ HC2
        go_wp2_with fail
        go_quiet (exact Calls.quiet_of (HC1.out _))
        go_wp2
        go_ret
        exact ⟨ret_bool (by rw [HRes.out, HNE'.out]), HGR.out.trans (gb_drewN wr _)⟩
      | true =>
        cases q2 with
        | false =>
          have HNE' : Hid (decide (xs = ys) = false) := HNE.out (.inr rfl)
          clear HNE HEQ
          go_wp2_with fail
          go_quiet (first | exact Calls.quiet_of (HC1.out _) | exact Calls.quiet_of (HC2.out _))
          go_wp2
          go_ret
          exact ⟨ret_bool (by rw [HRes.out, HNE'.out]), HGR.out.trans (gb_drewN wr _)⟩
        | true =>
          have HEQ' : Hid (xs[k]? = ys[k]?) := HEQ.out rfl rfl
          clear HNE HEQ
          go_wp2_with fail
          go_quiet (first | exact Calls.quiet_of (HC1.out _) | exact Calls.quiet_of (HC2.out _))
          go_wp2
          go_roundw
          case rel =>
            refine ⟨k + 1, by omega, by go_num, HGR.out.trans (gb_drewN wr _), fun j hj => ?_⟩
            by_cases hjk : j < k
            · exact HA.out j hjk
            · have : j = k := by omega
              subst this
              exact HEQ'.out
          case measure => simp [intOf]; omega
    · go_wp2
      go_ret
      refine ⟨ret_bool ?_, HGR.out⟩
      rw [HRes.out]
      exact (HF.out fun j hj => HA.out j (by have := H5.out; omega)).symm
theorem hsame (a b : Option Addr) (ra rb : List (Sv × Sv)) (xs ys : List Ser) (c d : Nat) (w : World) (hx : SerRd w a ra xs) (hy : SerRd w b rb ys) (hz : xs.length ≤ 9007199254740992) (hz2 : ∀ s ∈ xs, s.1.length ≤ 4398046511104 ∧ s.2.length ≤ 8796093022208) :
    Calls Tryz.prog 11 #[.slice a xs.length c, .slice b ys.length d] w fun e w' => e = .returned (.bool (decide (xs = ys))) ∧ w.grownBy w' none := by
  by_cases hl : xs.length = ys.length
  · rw [← hl]
    exact hsame_loop a b ra rb xs ys c d w hx hy hl.symm hz hz2
  · have e : decide (xs = ys) = false := by
      simp only [decide_eq_false_iff_not]
      intro h
      exact hl (by rw [h])
    rw [e]
    refine (hsame_len a b _ _ c d w hl).mono ?_
    rintro e w' ⟨rfl, rfl⟩
    exact ⟨rfl, World.grownBy.refl _ _⟩
end Go.Proofs.YtpabbmiibehfjaaGreatDoor

/- The laws' own small head: its values. -/
namespace Go.Proofs.YtpabbmiibehfjaaGreatDoor
open Go.RowKit Go.Maps
set_option linter.unusedVariables false
set_option maxRecDepth 20000

def sA : ByteArray := ⟨#[97]⟩
def sX : ByteArray := ⟨#[120]⟩
def sY : ByteArray := ⟨#[121]⟩
def sNew : ByteArray := ⟨#[110, 101, 119]⟩
def lAX : List Lab := [(sA, sX)]
def lAY : List Lab := [(sA, sY)]
def lNew : List Lab := [(sNew, sX)]
theorem chk_ax : checkR lAX = 0 := by
  rw [check_iff]
  refine ⟨by decide, fun p hp => ?_, List.pairwise_singleton _ _⟩
  simp only [lAX, List.mem_singleton] at hp
  subst hp
  exact ⟨by kernel_rfl, by kernel_rfl⟩
theorem chk_ay : checkR lAY = 0 := by
  rw [check_iff]
  refine ⟨by decide, fun p hp => ?_, List.pairwise_singleton _ _⟩
  simp only [lAY, List.mem_singleton] at hp
  subst hp
  exact ⟨by kernel_rfl, by kernel_rfl⟩
theorem chk_new : checkR lNew = 0 := by
  rw [check_iff]
  refine ⟨by decide, fun p hp => ?_, List.pairwise_singleton _ _⟩
  simp only [lNew, List.mem_singleton] at hp
  subst hp
  exact ⟨by kernel_rfl, by kernel_rfl⟩
theorem ax_ay : lAX ≠ lAY := by decide
def S1 : List Ser := [(lAX, [(5, 1)])]
theorem lim1 : limR 1 = 1 := by decide
theorem fate1 : fateR 1 [] lAX 5 1 = 1 := by
  unfold fateR
  rw [if_pos ⟨chk_ax, by decide, by decide⟩]
  rfl
theorem add1 : addR 1 [] lAX 5 1 = S1 := by
  unfold addR
  rw [fate1]
  rfl
theorem fate2 : fateR 1 S1 lAX 5 2 = 4 := by
  unfold fateR
  rw [if_pos ⟨chk_ax, by decide, by decide⟩]
  have h : findR S1 lAX = some [(5, 1)] := by
    unfold findR S1
    rw [List.find?_cons_of_pos (by simp)]
    rfl
  rw [h]
  decide
theorem fate3 : fateR 1 S1 lAY 9 1 = 5 := by
  unfold fateR
  rw [if_pos ⟨chk_ay, by decide, by decide⟩]
  have h : findR S1 lAY = none := by
    rw [find_none]
    simp only [S1, List.map_cons, List.map_nil, List.mem_singleton]
    exact fun e => ax_ay e.symm
  rw [h]
  rfl
theorem add3 : addR 1 S1 lAY 9 1 = S1 := by
  unfold addR
  rw [fate3]
  rfl
theorem lo1 : loS S1 = 5 := by decide
theorem hi1 : hiS S1 = 5 := by decide
theorem pts1 : ptsN S1 = 1 := by decide
theorem low1 : keepS (lowT 6) S1 = S1 := by
  unfold keepS S1
  rfl
theorem high1 : keepS (highT 6) S1 = [] := by
  unfold keepS S1
  rfl
theorem s1_ne : S1 ≠ [] := by unfold S1; simp
end Go.Proofs.YtpabbmiibehfjaaGreatDoor

/- The laws' own small head. -/
namespace Go.Proofs.YtpabbmiibehfjaaGreatDoor
open Go.RowKit Go.Maps
set_option linter.unusedVariables false
set_option maxRecDepth 20000

/-- A head that the call made, beside a slice of labels. -/
structure AwS (w wr : World) (hb N P : Nat) (S : List Ser) (B : Nat → Prop) (lb : Nat) (ls : List Lab) : Prop where
  head : HeadAt wr w.heap.size hb 1 N P S B
  kept : Kept w wr (fun k => w.heap.size ≤ k)
  lit : SRd labE wr (some ⟨lb, 0, none⟩) ls
  lt : lb < wr.heap.size
  nb : ¬ B lb
theorem AwS.grown {w wr wr' : World} {hb N P : Nat} {S : List Ser} {B : Nat → Prop} {lb : Nat} {ls : List Lab} (h : AwS w wr hb N P S B lb ls) (hg : wr.grownBy wr' none) : AwS w wr' hb N P S B lb ls :=
  ⟨h.head.kept hg, h.kept.trans (Kept.of (X := fun _ => False) hg (by simp)) (fun k _ f => f.elim), h.lit.grown hg (by simp), Nat.lt_of_lt_of_le h.lt hg.size, h.nb⟩
theorem AwS.step {w wr w2 : World} {hb N P N' P' : Nat} {S S' : List Ser} {B B' : Nat → Prop} {lb : Nat} {ls : List Lab} (h : AwS w wr hb N P S B lb ls) (hs : Step wr w2 B B') (hh : HeadAt w2 w.heap.size hb 1 N' P' S' B') : AwS w w2 hb N' P' S' B' lb ls :=
  ⟨hh, h.kept.trans hs.1 (fun k _ hb => (h.head.blocks k hb).1), srd_stay h.lit (fun x hx => by cases hx; exact hs.1.block lb h.lt h.nb), Nat.lt_of_lt_of_le h.lt hs.1.size, fun hb => h.nb (hs.2 lb h.lt hb)⟩
theorem aw_start {w w1 : World} {hb : Nat} {B : Nat → Prop} (hh : HeadAt w1 w.heap.size hb (limR 1) 0 0 [] B) (hg : w.grownBy w1 none) : AwS w (w1.alloc (.cells #[.string ⟨#[97]⟩, .string ⟨#[120]⟩] 62)) hb 0 0 [] B w1.heap.size lAX := by
  rw [lim1] at hh
  have ga := World.grownBy_alloc w1 (.cells #[.string ⟨#[97]⟩, .string ⟨#[120]⟩] 62) none
  refine ⟨hh.kept ga, Kept.of (hg.trans ga) (by simp), srd_lit labE 62 w1 lAX, ?_, fun hb => ?_⟩
  · rw [show (w1.alloc (.cells #[.string ⟨#[97]⟩, .string ⟨#[120]⟩] 62)).heap.size = w1.heap.size + 1 from Array.size_push _]
    omega
  · have := (hh.blocks _ hb).2
    omega
theorem aw_more {w w4 : World} {hb N P : Nat} {S : List Ser} {B : Nat → Prop} {lb : Nat} {ls : List Lab} (h : AwS w w4 hb N P S B lb ls) : AwS w (w4.alloc (.cells #[.string ⟨#[97]⟩, .string ⟨#[121]⟩] 62)) hb N P S B lb ls ∧ SRd labE (w4.alloc (.cells #[.string ⟨#[97]⟩, .string ⟨#[121]⟩] 62)) (some ⟨w4.heap.size, 0, none⟩) lAY :=
  ⟨h.grown (World.grownBy_alloc w4 _ none), srd_lit labE 62 w4 lAY⟩
theorem aw_ser {w7 : World} {lb : Nat} (h : SRd labE w7 (some ⟨lb, 0, none⟩) lAX) :
    SerRd ((w7.alloc (.cells #[.int .i64 5, .int .u64 1] 51)).alloc (.cells #[.slice (some ⟨lb, 0, none⟩) 1 1, .slice (some ⟨w7.heap.size, 0, none⟩) 1 1] 49)) (some ⟨w7.heap.size + 1, 0, none⟩) [((some ⟨lb, 0, none⟩, 1, 1), (some ⟨w7.heap.size, 0, none⟩, 1, 1))] S1 := by
  have g1 := World.grownBy_alloc w7 (.cells #[.int .i64 5, .int .u64 1] 51) none
  have p1 : SRd pntE (w7.alloc (.cells #[.int .i64 5, .int .u64 1] 51)) (some ⟨w7.heap.size, 0, none⟩) [(5, 1)] := srd_lit pntE 51 w7 [(5, 1)]
  have sz : (w7.alloc (.cells #[.int .i64 5, .int .u64 1] 51)).heap.size = w7.heap.size + 1 := Array.size_push _
  have r1 := srd_lit serE 49 (w7.alloc (.cells #[.int .i64 5, .int .u64 1] 51)) [((some ⟨lb, 0, none⟩, 1, 1), (some ⟨w7.heap.size, 0, none⟩, 1, 1))]
  rw [sz] at r1
  generalize w7.alloc (.cells #[.int .i64 5, .int .u64 1] 51) = w8 at g1 p1 sz r1 ⊢
  have g2 := World.grownBy_alloc w8 (.cells #[.slice (some ⟨lb, 0, none⟩) 1 1, .slice (some ⟨w7.heap.size, 0, none⟩) 1 1] 49) none
  refine ⟨r1, rfl, fun i r s hr hs => ?_⟩
  match i, hr, hs with
  | 0, hr, hs =>
    simp only [S1, List.getElem?_cons_zero, Option.some.injEq] at hr hs
    subst hr
    subst hs
    exact ⟨rfl, rfl, (h.grown g1 (by simp)).grown g2 (by simp), p1.grown g2 (by simp)⟩
set_option maxHeartbeats 4000000 in
theorem h_awake (w : World) : Calls Tryz.prog 13 #[] w fun e w' => e = .returned (.bool true) ∧ w.grownBy w' none := by
  have HN : Hid (Calls Tryz.prog 8 #[.int .i64 1] w fun e w' => ∃ hb B, e = .returned (.pointer (some ⟨hb, 0, none⟩)) ∧ HeadAt w' w.heap.size hb (limR 1) 0 0 [] B ∧ w.grownBy w' none ∧ ∀ k, B k → w.heap.size ≤ k) := h_new w.heap.size 1 w (Nat.le_refl _)
  go_enter Tryz.func13, Tryz.ntmps13
  go_wp2_with fail
  refine HN.out.mono ?_
  rintro e w1 ⟨hb, B, rfl, hh, hg, _⟩
  have HA : Hid (AwS w (w1.alloc (.cells #[.string ⟨#[97]⟩, .string ⟨#[120]⟩] 62)) hb 0 0 [] B w1.heap.size lAX) := aw_start hh hg
  clear hh hg
  go_wp2_with fail
  generalize w1.alloc (.cells #[.string ⟨#[97]⟩, .string ⟨#[120]⟩] 62) = w2 at HA ⊢
  generalize w1.heap.size = lb at HA ⊢
  refine (h_add w.heap.size hb 1 0 0 [] B (some ⟨lb, 0, none⟩) 1 1 lAX 5 1 w2 HA.out.head HA.out.lit rfl (by decide) (by simp) (by decide) (by decide)).mono ?_
  rintro e w3 ⟨he, B1, hh, hs⟩
  rw [fate1] at he
  rw [add1] at hh
  subst he
  have HA3 : Hid (AwS w w3 hb (0 + 20) (0 + 1) S1 B1 lb lAX) := HA.out.step hs hh
  clear hh hs HA
  go_wp2_with fail
  refine (h_fate w.heap.size hb 1 _ _ S1 B1 (some ⟨lb, 0, none⟩) 1 1 lAX 5 2 w3 HA3.out.head HA3.out.lit rfl (by decide) (by decide)).mono ?_
  rintro e w4 ⟨he, hg⟩
  rw [fate2] at he
  subst he
  have HA4 : Hid (AwS w w4 hb (0 + 20) (0 + 1) S1 B1 lb lAX) := HA3.out.grown hg
  clear hg HA3
  have HA5 : Hid (AwS w (w4.alloc (.cells #[.string ⟨#[97]⟩, .string ⟨#[121]⟩] 62)) hb (0 + 20) (0 + 1) S1 B1 lb lAX ∧ SRd labE (w4.alloc (.cells #[.string ⟨#[97]⟩, .string ⟨#[121]⟩] 62)) (some ⟨w4.heap.size, 0, none⟩) lAY) := aw_more HA4.out
  clear HA4
  go_wp2_with fail
  generalize w4.alloc (.cells #[.string ⟨#[97]⟩, .string ⟨#[121]⟩] 62) = w5 at HA5 ⊢
  generalize w4.heap.size = lb2 at HA5 ⊢
  refine (h_add w.heap.size hb 1 _ _ S1 B1 (some ⟨lb2, 0, none⟩) 1 1 lAY 9 1 w5 HA5.out.1.head HA5.out.2 rfl (by decide) (by simp) (by decide) (by decide)).mono ?_
  rintro e w6 ⟨he, B2, hh, hs⟩
  rw [fate3] at he
  rw [add3] at hh
  subst he
  have HA6 : Hid (AwS w w6 hb (0 + 20 + 20) (0 + 1 + 1) S1 B2 lb lAX) := HA5.out.1.step hs hh
  clear hh hs HA5
  go_wp2_with fail
  refine (h_span w.heap.size hb 1 _ _ S1 B2 w6 HA6.out.head (by decide)).mono ?_
  rintro e w7 ⟨he, hg⟩
  rw [if_neg s1_ne, if_neg s1_ne, lo1, hi1, decide_eq_true s1_ne] at he
  subst he
  have HA7 : Hid (AwS w w7 hb (0 + 20 + 20) (0 + 1 + 1) S1 B2 lb lAX) := HA6.out.grown hg
  clear hg HA6
  go_wp2_with fail
  refine (h_count w.heap.size hb 1 _ _ S1 B2 w7 HA7.out.head (by decide)).mono ?_
  rintro e w8 ⟨he, rfl⟩
  rw [pts1, show S1.length = 1 from rfl] at he
  subst he
  go_wp2_with fail
  refine (h_cut w.heap.size hb 1 _ _ S1 B2 6 w7 HA7.out.head (by decide) (by decide)).mono ?_
  rintro e w8 ⟨v, X, B3, rfl, ho, hh, hs, _⟩
  rw [low1] at ho
  rw [high1] at hh
  have HA8 : Hid (AwS w w8 hb (0 + 20 + 20 + 20000) (0 + 1 + 1) [] B3 lb lAX) := HA7.out.step hs hh
  obtain ⟨a, c, raw, rfl, hrd⟩ := ho.read
  have HRD : Hid (SerRd w8 a raw S1) := hrd
  rw [show S1.length = 1 from rfl]
  clear hh hs ho hrd HA7
  have HSL : Hid (SerRd ((w8.alloc (.cells #[.int .i64 5, .int .u64 1] 51)).alloc (.cells #[.slice (some ⟨lb, 0, none⟩) 1 1, .slice (some ⟨w8.heap.size, 0, none⟩) 1 1] 49)) (some ⟨w8.heap.size + 1, 0, none⟩) [((some ⟨lb, 0, none⟩, 1, 1), (some ⟨w8.heap.size, 0, none⟩, 1, 1))] S1) := aw_ser HA8.out.lit
  have HG9 : Hid (w8.grownBy ((w8.alloc (.cells #[.int .i64 5, .int .u64 1] 51)).alloc (.cells #[.slice (some ⟨lb, 0, none⟩) 1 1, .slice (some ⟨w8.heap.size, 0, none⟩) 1 1] 49)) none) := (World.grownBy_alloc w8 _ none).trans (World.grownBy_alloc _ _ none)
  go_wp2_with fail
  generalize ((w8.alloc (.cells #[.int .i64 5, .int .u64 1] 51)).alloc (.cells #[.slice (some ⟨lb, 0, none⟩) 1 1, .slice (some ⟨w8.heap.size, 0, none⟩) 1 1] 49)) = w9 at HSL HG9 ⊢
  refine (hsame a (some ⟨w8.heap.size + 1, 0, none⟩) raw _ S1 S1 c 1 w9 (HRD.out.grown HG9.out) HSL.out (by decide) (by decide)).mono ?_
  rintro e w10 ⟨he, hg⟩
  rw [decide_eq_true rfl] at he
  subst he
  have HA10 : Hid (AwS w w10 hb (0 + 20 + 20 + 20000) (0 + 1 + 1) [] B3 lb lAX) := HA8.out.grown (HG9.out.trans hg)
  clear hg
  go_wp2_with fail
  refine (h_select w.heap.size hb 1 _ _ [] B3 0 9 w10 HA10.out.head (by decide)).mono ?_
  rintro e w11 ⟨v, rfl, ho, hg⟩
  have HG : Hid (w.grownBy w11 none) := ((HA10.out.grown hg).kept).grown (fun k hk h => by omega)
  obtain ⟨a2, c2, raw2, rfl, _⟩ := ho.read
  rw [show (keepS (within 0 9) []).length = 0 from rfl]
  clear ho hg
  go_wp2
  go_ret
  exact ⟨rfl, HG.out⟩
end Go.Proofs.YtpabbmiibehfjaaGreatDoor

