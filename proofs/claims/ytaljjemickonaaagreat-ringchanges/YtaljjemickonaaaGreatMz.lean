/- Several texts in one: Ta, Tb. -/
import Derived.Test.YtaljjemickonaaaGreatMt
import Derived.Deep.RegionHeld3
/- Rings: has; what RingFew asks of the replicas. -/
namespace Go.Proofs.YtaljjemickonaaaGreat
open Go.RowKit Go.Shelf
set_option linter.unusedVariables false
set_option maxRecDepth 20000

set_option maxHeartbeats 1000000 in
theorem h_hasNot (a : Option Addr) (xs : List Int) (L c : Nat) (x : Int) (w : World) (hx : SRd intE w a xs) (hL : xs.length = L) (hz : L ≤ 1000) (hn : x ∉ xs) :
    Calls Tryz.prog 36 #[.slice a L c, .int .i64 x] w fun e w' => e = .returned (.bool false) ∧ w.grownBy w' none := by
  have HX : Hid (SRd intE w a xs) := hx
  have HL : Hid (xs.length = L) := hL
  have HN : Hid (x ∉ xs) := hn
  clear hx hL hn
  go_enter Tryz.func36, Tryz.ntmps36
  go_wp2
  go_loopw [5] (fun i wr => ∃ k : Nat, k ≤ L ∧ i = .int .i64 k ∧ ∃ n, wr = w.drewN n) (fun i _ => L - (intOf i).toNat)
  case atStart => exact ⟨0, Nat.zero_le _, rfl, 0, rfl⟩
  case round =>
    obtain ⟨k, hk, rfl, m, rfl⟩ := hrel
    by_cases hlt : k < L
    · have h5 := HL.out
      obtain ⟨ba, offa, rfl, hca⟩ := HX.out.at (by omega)
      obtain ⟨x0, ex⟩ : ∃ x, xs[k]? = some x := ⟨_, List.getElem?_eq_getElem (by omega)⟩
      have a0 : w.cell? ⟨ba, offa + k, none⟩ = some (.int .i64 x0) := by have := hca k _ 0 _ ex rfl; simpa [intE] using this
      have hb : (x0 == x) = false := by
        simp only [beq_eq_false_iff_ne]
        rintro rfl
        exact HN.out (List.mem_of_getElem? ex)
      have hi : (k : Int) < (L : Int) := by omega
      clear hca ex h5
      go_wp2_with fail
      try go_quiet (fail)
      go_wp2
      go_roundw
      case rel => exact ⟨k + 1, by omega, by go_num, _, rfl⟩
      case measure => simp [intOf]; omega
    · go_wp2
      go_ret
      exact ⟨rfl, gb_drewN _ _⟩
theorem repC_cases (ms : List Mem) (h : Int) (k : Nat) (hk : 1 ≤ k ∧ k ≤ 5) : (repC ms h k = 0 ∧ ringOk ms = true ∧ k ≤ (repM ms h).length ∧ repL ms h k = (repM ms h).take k) ∨ ((repC ms h k = 130 ∨ repC ms h k = 133) ∧ repL ms h k = []) := by
  by_cases ho : ringOk ms = true
  · by_cases hl : k ≤ (repM ms h).length
    · left
      have hc : repC ms h k = 0 := by unfold repC; rw [if_pos ⟨ho, by omega, by omega⟩, if_pos (by omega)]
      exact ⟨hc, ho, hl, by unfold repL; rw [if_pos hc]; simp⟩
    · right
      have hc : repC ms h k = 133 := by unfold repC; rw [if_pos ⟨ho, by omega, by omega⟩, if_neg (by omega)]
      exact ⟨.inr hc, by unfold repL; rw [hc]; simp⟩
  · right
    have hc : repC ms h k = 130 := by unfold repC; rw [if_neg (fun e => ho e.1)]
    exact ⟨.inl hc, by unfold repL; rw [hc]; simp⟩
theorem state_of_rep {ms : List Mem} {h x : Int} (ho : ringOk ms = true) (hx : x ∈ repM ms h) : stOf ms x = 2 := by
  obtain ⟨m, hm, h2, rfl, _⟩ := (repM_mem ms h x).1 hx
  obtain ⟨i, hi⟩ := List.getElem?_of_mem hm
  have hr := ringOk_rise ho
  have hp : posI ms m.1 = i := by
    unfold posI
    refine countP_place _ ms i (by have := (List.getElem?_eq_some_iff.1 hi).1; omega) (fun j a ha => ?_)
    simp only [decide_eq_true_eq]
    rcases Nat.lt_trichotomy j i with h | h | h
    · have := hr.lt h ha hi; omega
    · subst h; rw [hi] at ha; cases ha; omega
    · have := hr.lt h hi ha; omega
  have hh : hasI ms m.1 = true := by unfold hasI; rw [hp, hi]; simp
  unfold stOf
  rw [if_pos ⟨ho, hh⟩]
  unfold stAt
  rw [hp, hi]
  simpa using h2
end Go.Proofs.YtaljjemickonaaaGreat

/- Rings: RingFew, walked. -/
namespace Go.Proofs.YtaljjemickonaaaGreat
open Go.RowKit Go.Shelf
set_option linter.unusedVariables false
set_option maxRecDepth 20000

/-- What is held in the region that asks all. -/
structure FewS (wr : World) (g j : Nat) (v : Int) (B : Nat) (E : Int) (a : Option Addr) (n c : Nat) (u : World) : Prop where
  gb : wr.grownBy u none
  x : u.cell? ⟨g, j, none⟩ = some (.int .i64 v)
  e : u.cell? ⟨B, 0, none⟩ = some (.int .u64 E)
  s : u.cell? ⟨B, 1, none⟩ = some (.slice a n c)
theorem FewS.grown {wr u u' : World} {g j : Nat} {v : Int} {B : Nat} {E : Int} {a : Option Addr} {n c : Nat} (h : FewS wr g j v B E a n c u) (hg : u.grownBy u' none) : FewS wr g j v B E a n c u' :=
  ⟨h.gb.trans hg, hg.cell h.x (by simp), hg.cell h.e (by simp), hg.cell h.s (by simp)⟩
set_option maxHeartbeats 8000000 in
theorem few_walk (E : Int) (a : Option Addr) (n c : Nat) (raw : List MRow) (ms : List Mem) (h : Int) (w : World) (hr : MsRd w a ms raw) (hnil : a = none → c = 0) (hn : ms.length = n) (hz : n ≤ 3518437208800) (hz2 : ∀ s ∈ ms, s.2.2.length ≤ 35184372088832) :
    Calls Tryz.prog 6 #[.agg #[.int .u64 E, .slice a n c], .int .u32 h] w fun e w' => e = .returned (.bool true) ∧ w.grownBy w' none := by
  have AW : Hid (∀ u, Calls Tryz.prog 24 #[] u fun e w' => e = .returned (.bool true) ∧ u.grownBy w' none) := r_awake
  have CP : Hid (∀ u a c raw, MsRd u a ms raw → Calls Tryz.prog 9 #[.agg #[.int .u64 E, .slice a n c]] u fun e w' => CpOut E ms n u e w') := fun u a c raw h => cp_any h hn hz hz2
  have RP : Hid (∀ u a c raw (rf : Int), MsRd u a ms raw → Calls Tryz.prog 26 #[.agg #[.int .u64 E, .slice a n c], .int .u32 h, .int .i64 rf] u fun e w' => RpOut ms h rf u e w') := fun u a c raw rf hx => f_replicas E ms raw h rf a n c u hx hn hz hz2
  have ST : Hid (∀ u a c raw (x : Int), MsRd u a ms raw → stOf ms x = 2 → Calls Tryz.prog 17 #[.agg #[.int .u64 E, .slice a n c], .int .i64 x] u fun e w' => e = .returned (.int .i64 2) ∧ u.grownBy w' none) := fun u a c raw x hx hq => by
    rw [← hq]; exact f_state E ms raw x a n c u hx hn hz hz2
  have HBr : Hid (RgBox (w.alloc (.cells #[.int .u64 E, .slice a n c] 25)) w.heap.size E a n c ms raw) := RgBox.made hr hnil hn
  have HG : Hid (w.grownBy (w.alloc (.cells #[.int .u64 E, .slice a n c] 25)) none) := World.grownBy_alloc _ _ none
  clear hr hnil hn hz hz2
  obtain ⟨B, eB⟩ : ∃ B, w.heap.size = B := ⟨_, rfl⟩
  have EB : Hid (w.heap.size = B) := eB
  rw [eB] at HBr
  clear eB
  go_enter Tryz.func6, Tryz.ntmps6
  go_wp2
  try rw [EB.out]
  generalize w.alloc (.cells #[.int .u64 E, .slice a n c] 25) = W at *
  go_loopw [5, 6] (fun t5 t6 wr => ∃ (j : Nat) (la : Option Addr) (lc : Nat), j ≤ 5 ∧ t6 = .int .i64 ((j : Int) + 1) ∧ t5 = .slice la j lc ∧ RgBox wr B E a n c ms raw ∧ w.grownBy wr none ∧ SRd intE wr la ((repM ms h).take j) ∧ j ≤ (repM ms h).length) (fun _ t6 _ => 6 - (intOf t6).toNat)
  case atStart => exact ⟨0, none, 0, by omega, by simp, rfl, HBr.out, HG.out, .inl rfl, by omega⟩
  case round =>
    clear HBr HG
    obtain ⟨j, la, lc, hj, rfl, rfl, hb, hg, hs, hle⟩ := hrel
    have HBr : Hid (RgBox wr B E a n c ms raw) := hb
    have HG : Hid (w.grownBy wr none) := hg
    have HS : Hid (SRd intE wr la ((repM ms h).take j)) := hs
    have HLE : Hid (j ≤ (repM ms h).length) := hle
    clear hb hg hs hle
    by_cases hlt : j < 5
    · have hj5 : (j : Int) + 1 ≤ 5 := by omega
      obtain ⟨x0, x1⟩ := HBr.out.cells
      have C0 := CP.out _ a c _ HBr.out.rd
      go_wp2_with fail
      refine C0.mono ?_
      clear C0
      rintro e u1 ⟨a1, c1, raw1, rfl, m9, nl9, g9⟩
      have C1 := RP.out _ a1 c1 _ ((j : Int) + 1) m9
      replace HBr : Hid (RgBox u1 B E a n c ms raw) := HBr.out.grown g9
      replace HG : Hid (w.grownBy u1 none) := HG.out.trans g9
      replace HS : Hid (SRd intE u1 la ((repM ms h).take j)) := HS.out.grown g9 (by simp)
      clear x0 x1 m9 nl9 g9
      go_wp2_with fail
      refine C1.mono ?_
      clear C1
      rintro e u2 ⟨a2, c2, rfl, ho9, g9⟩
      replace HBr : Hid (RgBox u2 B E a n c ms raw) := HBr.out.grown g9
      replace HG : Hid (w.grownBy u2 none) := HG.out.trans g9
      replace HS : Hid (SRd intE u2 la ((repM ms h).take j)) := HS.out.grown g9 (by simp)
      clear g9
      have hcs := repC_cases ms h (j + 1) (by omega)
      rw [show (((j + 1 : Nat) : Int)) = (j : Int) + 1 by omega] at hcs
      rcases hcs with ⟨hc, hok, hlen, hL⟩ | ⟨hc, hL⟩
      · rw [hL, hc]
        rw [hL] at ho9
        have e1 : ((repM ms h).take (j + 1)).length = j + 1 := by rw [List.length_take]; omega
        rw [e1] at ho9 ⊢
        obtain ⟨v, hv⟩ : ∃ v, (repM ms h)[j]? = some v := ⟨_, List.getElem?_eq_getElem (by omega)⟩
        have hst : stOf ms v = 2 := state_of_rep hok (List.mem_of_getElem? hv)
        obtain ⟨g, cap, hxe, ho⟩ := sown_some ho9 (by intro e; cases e)
        simp only [Value.slice.injEq, true_and] at hxe
        obtain ⟨rfl, rfl⟩ := hxe
        have hcap := (sown_cap ho).1
        have hxv : u2.cell? ⟨g, j, none⟩ = some (.int .i64 v) := by
          obtain ⟨ba, off, e2, hca⟩ := (SOwn.rd ho).at (by omega)
          cases e2
          have := hca j v 0 (.int .i64 v) (by rw [List.getElem?_take, if_pos (by omega)]; exact hv) rfl
          simpa [intE] using this
        have HX : Hid (SRd intE u2 (some ⟨g, 0, none⟩) ((repM ms h).take (j + 1))) := SOwn.rd ho
        have HXJ : Hid (SRd intE u2 (some ⟨g, 0, none⟩) ((repM ms h).take j)) := by
          rcases HX.out with h0 | ⟨b, off, e2, hc⟩
          · have := congrArg List.length h0; rw [e1] at this; simp at this
          · refine .inr ⟨b, off, e2, fun p q hp => hc p q ?_⟩
            have e3 : intE.flat ((repM ms h).take (j + 1)) = intE.flat ((repM ms h).take j) ++ intE.flat [v] := by
              rw [List.take_add_one, hv]; simp [Elem.flat]
            rw [e3, List.getElem?_append_left (List.getElem?_eq_some_iff.1 hp).1]; exact hp
        have HNV : Hid (v ∉ (repM ms h).take j) := by
          intro hm
          obtain ⟨q, hq⟩ := List.getElem?_of_mem hm
          rw [List.getElem?_take] at hq
          split at hq
          · have := (List.getElem?_inj (by omega) (repM_nodup ms h)).1 (hq.trans hv.symm); omega
          · cases hq
        have hlj : ((repM ms h).take j).length = j := by rw [List.length_take]; omega
        obtain ⟨y0, y1⟩ := HBr.out.cells
        have HDR : Hid (FewS u2 g j v B E a n c u2.drew) := ⟨gb_drew (World.grownBy.refl _ _), hxv, y0, y1⟩
        have H27 : Hid (∀ u, Hid (FewS u2 g j v B E a n c u) → Calls Tryz.prog 27 #[.slice (some ⟨g, 0, none⟩) j c2, .slice la j lc] u fun e w' => e = .returned (.bool true) ∧ Hid (FewS u2 g j v B E a n c w') ∧ w'.cell? ⟨g, j, none⟩ = some (.int .i64 v) ∧ w'.cell? ⟨B, 0, none⟩ = some (.int .u64 E) ∧ w'.cell? ⟨B, 1, none⟩ = some (.slice a n c)) := fun u hS => by
          refine (isameQ (some ⟨g, 0, none⟩) la ((repM ms h).take j) ((repM ms h).take j) j j c2 lc u (HXJ.out.grown hS.out.gb (by simp)) (HS.out.grown hS.out.gb (by simp)) hlj hlj (by omega)).mono ?_
          rintro e w' ⟨rfl, nn, rfl⟩
          have := hS.out.grown (gb_drewN u nn)
          exact ⟨by simp, this, this.x, this.e, this.s⟩
        have H36 : Hid (∀ u, Hid (FewS u2 g j v B E a n c u) → Calls Tryz.prog 36 #[.slice (some ⟨g, 0, none⟩) j c2, .int .i64 v] u fun e w' => e = .returned (.bool false) ∧ Hid (FewS u2 g j v B E a n c w') ∧ w'.cell? ⟨g, j, none⟩ = some (.int .i64 v) ∧ w'.cell? ⟨B, 0, none⟩ = some (.int .u64 E) ∧ w'.cell? ⟨B, 1, none⟩ = some (.slice a n c)) := fun u hS => by
          refine (h_hasNot (some ⟨g, 0, none⟩) ((repM ms h).take j) j c2 v u (HXJ.out.grown hS.out.gb (by simp)) hlj (by omega) HNV.out).mono ?_
          rintro e w' ⟨rfl, hg⟩
          have := hS.out.grown hg
          exact ⟨rfl, this, this.x, this.e, this.s⟩
        have H9 : Hid (∀ u, Hid (FewS u2 g j v B E a n c u) → Calls Tryz.prog 9 #[.agg #[.int .u64 E, .slice a n c]] u fun e w' => ∃ a' c' raw', e = .returned (.agg #[.int .u64 E, .slice a' n c']) ∧ Hid (MsRd w' a' ms raw') ∧ Hid (FewS u2 g j v B E a n c w') ∧ w'.cell? ⟨g, j, none⟩ = some (.int .i64 v) ∧ w'.cell? ⟨B, 0, none⟩ = some (.int .u64 E) ∧ w'.cell? ⟨B, 1, none⟩ = some (.slice a n c)) := fun u hS => by
          refine (CP.out u a c raw (HBr.out.rd.grown hS.out.gb)).mono ?_
          rintro e w' ⟨a', c', raw', rfl, m9, _, hg⟩
          have := hS.out.grown hg
          exact ⟨a', c', raw', rfl, m9, this, this.x, this.e, this.s⟩
        have H17 : Hid (∀ u a' c' raw', Hid (FewS u2 g j v B E a n c u) → Hid (MsRd u a' ms raw') → Calls Tryz.prog 17 #[.agg #[.int .u64 E, .slice a' n c'], .int .i64 v] u fun e w' => e = .returned (.int .i64 2) ∧ Hid (FewS u2 g j v B E a n c w') ∧ w'.cell? ⟨g, j, none⟩ = some (.int .i64 v) ∧ w'.cell? ⟨B, 0, none⟩ = some (.int .u64 E) ∧ w'.cell? ⟨B, 1, none⟩ = some (.slice a n c)) := fun u a' c' raw' hS hm => by
          refine (ST.out u a' c' raw' v hm.out hst).mono ?_
          rintro e w' ⟨rfl, hg⟩
          have := hS.out.grown hg
          exact ⟨rfl, this, this.x, this.e, this.s⟩
        have HX1 : Hid (j + 1 ≤ (repM ms h).length) := hlen
        have hb1 : (((j + 1 : Nat) : Int) != (j : Int) + 1) = false := by simp
        have hw1 : IntKind.i64.wrap (j : Int) = (j : Int) := by rw [IntKind.wrap_i64]; omega
        have hj0 : (0 : Int) ≤ (j : Int) := by omega
        have hj1 : (j : Int) ≤ (c2 : Int) := by omega
        have hj2 : (j : Int) < ((j + 1 : Nat) : Int) := by omega
        have hj4 : (j : Int) < (j : Int) + 1 := by omega
        have hj3 : (j : Int) ≤ ((j + 1 : Nat) : Int) := by omega
        clear hok hlen hL hc hv hst hcap ho ho9 hlj e1 HXJ
        go_upto_region 8 with fail
        go_region_held3 (fun u => Hid (FewS u2 g j v B E a n c u) ∧ u.cell? ⟨g, j, none⟩ = some (.int .i64 v) ∧ u.cell? ⟨B, 0, none⟩ = some (.int .u64 E) ∧ u.cell? ⟨B, 1, none⟩ = some (.slice a n c)) (first | exact ⟨HDR, hxv, y0, y1⟩ | (refine ⟨?_, ?_, ?_, ?_⟩ <;> assumption)) (first | (go_at_call 27; refine (H27.out _ ?h1).mono ?_; (case h1 => first | exact HDR | assumption); rintro e w9 ⟨rfl, h9, i9, j9, k9⟩) | (go_at_call 36; refine (H36.out _ ?h1).mono ?_; (case h1 => first | exact HDR | assumption); rintro e w8 ⟨rfl, h8, i8, j8, k8⟩) | (go_at_call 9; refine (H9.out _ ?h1).mono ?_; (case h1 => first | exact HDR | assumption); rintro e w7 ⟨a7, c7, raw7, rfl, m7, h7, i7, j7, k7⟩) | (go_at_call 17; refine (H17.out _ a7 c7 raw7 ?h1 ?h2).mono ?_; (case h1 => first | exact HDR | assumption); (case h2 => assumption); rintro e w6 ⟨rfl, h6, i6, j6, k6⟩))
        go_wp2
        go_roundw
        case rel => exact ⟨j + 1, some ⟨g, 0, none⟩, c2, by omega, by go_num, rfl, HBr.out.grown h6.out.gb, HG.out.trans h6.out.gb, HX.out.grown h6.out.gb (by simp), HX1.out⟩
        case measure => simp [intOf]; omega
      · rw [hL]
        simp only [List.length_nil]
        have C := AW.out u2
        rcases hc with hc | hc
        · rw [hc]
          go_wp2_with fail
          refine C.mono ?_
          rintro e u3 ⟨rfl, g9⟩
          replace HG : Hid (w.grownBy u3 none) := HG.out.trans g9
          clear g9
          go_wp2
          go_ret
          exact ⟨rfl, HG.out⟩
        · rw [hc]
          go_wp2_with fail
          refine C.mono ?_
          rintro e u3 ⟨rfl, g9⟩
          replace HG : Hid (w.grownBy u3 none) := HG.out.trans g9
          clear g9
          go_wp2
          go_ret
          exact ⟨rfl, HG.out⟩
    · obtain rfl : j = 5 := by omega
      have C := AW.out wr
      go_wp2_with fail
      refine C.mono ?_
      rintro e u3 ⟨rfl, g9⟩
      replace HG : Hid (w.grownBy u3 none) := HG.out.trans g9
      clear g9
      go_wp2
      go_ret
      exact ⟨rfl, HG.out⟩
theorem ringFew_walk (E : Int) (a : Option Addr) (c : Nat) (raw : List MRow) (ms : List Mem) (h : Int) (w : World) (hr : MsRd w a ms raw) (hnil : a = none → c = 0) (hz : ms.length ≤ 3518437208800) (hz2 : ∀ s ∈ ms, s.2.2.length ≤ 35184372088832) :
    Calls Tryz.prog 6 #[.agg #[.int .u64 E, .slice a ms.length c], .int .u32 h] w fun e w' => e = .returned (.bool true) ∧ Below w.heap.size w w' := by
  refine (few_walk E a _ c raw ms h w hr hnil rfl hz hz2).mono ?_
  rintro e w' ⟨rfl, hg⟩
  exact ⟨rfl, (Below.refl _ w).grown hg (Nat.le_refl _) (fun k hk => by cases hk)⟩
end Go.Proofs.YtaljjemickonaaaGreat

