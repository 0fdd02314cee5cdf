/- Package parse: a matcher more. (Printed by mk_pr.py.) -/
import Derived.Test.YtnimdngiejcljaaPq
namespace Go.Proofs.Ytnimdngiejcljaa
open Go.RowKit
set_option linter.unusedVariables false
set_option linter.unusedSimpArgs false
set_option maxRecDepth 20000

theorem quest_four {ts r : List Tok} {q : Int × ByteArray} (h : questR ts = .ok q r) : (hd r).1 = 4 := by
  unfold questR at h
  cases hl : lname ts with
  | out => rw [hl] at h; cases h
  | bad p c => rw [hl, bind_bad] at h; cases h
  | ok s r1 =>
    rw [hl, bind_ok] at h
    unfold must at h
    split at h
    · rw [bind_ok] at h
      split at h
      · rename_i h4
        rw [bind_ok] at h
        cases h
        simpa using h4
      · cases h
    · cases h
theorem mstep_ok {ms : List Mt} {ts r : List Tok} {q : Int × ByteArray} (h : questR ts = .ok q r) : mstep ms ts = withR ms q.1 q.2 r := by unfold mstep; rw [h, bind_ok]
theorem mstep_bad {ms : List Mt} {ts : List Tok} {q c : Int} (h : questR ts = .bad q c) : mstep ms ts = .bad q c := by unfold mstep; rw [h, bind_bad]
/-- The matchers that are in the making. -/
def MtI (w0 : World) (box rbox b p : Nat) (K : Tk) (op : Int) (v : Value) (L : List Row) (ms : List Mt) (k : Nat) (w : World) : Prop := AccAt matE 44 31 w0 box rbox b p K op v L ms k w
set_option maxHeartbeats 4000000 in
theorem f_mstep {w0 w : World} {box rbox b p : Nat} {K : Tk} {op : Int} {v : Value} {L : List Row} {ms : List Mt} {k : Nat} {ts : List Tok} (h : AccAt matE 44 31 w0 box rbox b p K op v L ms k w) (ha : Ahead K k ts) (hn : ms.length ≤ 100000) :
    Calls Try.prog 84 #[.pointer (some ⟨rbox, 0, none⟩), .pointer (some ⟨box, 0, none⟩)] w fun e w' => LOut (MtI w0 box rbox b p K op v L) K (Me p) w0 k (mstep ms ts) e w' := by
  have H := hid h
  have HA := hid ha
  obtain ⟨sl, hb, ho⟩ := h.ex
  have gd : w.grownBy w.drew none := gb_drew (World.grownBy.refl w none)
  have HQ := hid (f_question (h.rd.grown gd) ha)
  have r0 := one_cell h.rb
  have b0 := one_cell hb
  have r1 : w.drew.cell? ⟨rbox, 0, none⟩ = _ := r0
  have b1 : w.drew.cell? ⟨box, 0, none⟩ = _ := b0
  have HB := hid hb
  have HO := hid ho
  obtain ⟨k0, op0, h0⟩ := h.old
  have hbl := (Array.getElem?_eq_some_iff.1 hb).1
  have hlo := h.lo
  cases hs : questR ts with
  | out => exact absurd hs (fine_ne (questR_fine ts))
  | bad q c =>
    rw [hs] at HQ
    rw [mstep_bad hs]
    clear hs h ha hb ho h0
    obtain ⟨a0, n0, c0⟩ := sl
    unfold slV at *
    go_enter Try.func84, Try.ntmps84
    go_wp2_with fail
    refine wp_region_held_drew (S := fun W => W.cell? ⟨rbox, 0, none⟩ = some (.pointer (some ⟨p, 0, none⟩)) ∧ W.cell? ⟨box, 0, none⟩ = some (.slice a0 n0 c0)) (by kernel_rfl) ⟨r1, b1⟩ (fun hHeld => ?_)
    refine wpAnyH_take (i := 0) (v := .pointer (some ⟨p, 0, none⟩)) rfl (by kernel_rfl) (by kernel_rfl) (by kernel_rfl) (fun _ _ _ h => h) (Or.inl ⟨by rfl, fun w hSw => ?_⟩) (by assumption) ?_
    · obtain ⟨x1, x2⟩ := hSw; go_simp
    (try simp only [Act.put]); (try simp only [List.setIfInBounds_toArray]); (try simp only [List.set_cons_succ]); (try simp only [List.set_cons_zero])
    refine wpAnyH_take (i := 1) (v := .slice a0 n0 c0) rfl (by kernel_rfl) (by kernel_rfl) (by kernel_rfl) (fun _ _ _ h => h) (Or.inl ⟨by rfl, fun w hSw => ?_⟩) (by assumption) ?_
    · obtain ⟨x1, x2⟩ := hSw; go_simp
    (try simp only [Act.put]); (try simp only [List.setIfInBounds_toArray]); (try simp only [List.set_cons_succ]); (try simp only [List.set_cons_zero])
    refine wpAnyH_take (i := 2) (v := .pointer (some ⟨p, 0, none⟩)) rfl (by kernel_rfl) (by kernel_rfl) (by kernel_rfl) (fun _ _ _ h => h) (Or.inl ⟨by rfl, fun w hSw => ?_⟩) (by assumption) ?_
    · obtain ⟨x1, x2⟩ := hSw; go_simp
    (try simp only [Act.put]); (try simp only [List.setIfInBounds_toArray]); (try simp only [List.set_cons_succ]); (try simp only [List.set_cons_zero])
    refine wpAnyH_ready (rs := [3]) (by kernel_rfl) (by simp) (AllReadyH.cons (i := 3) rfl (fun K9 hK => ?_) AllReadyH.nil)
    go_simp
    refine HQ.out.mono ?_
    rintro e w1 ⟨rfl, f1⟩
    exact ⟨rfl, rfl, H.out.fr.trans ⟨f1.os, f1.tape, f1.output, f1.size, f1.block⟩ (fun _ _ e => e)⟩
  | ok q r =>
    rw [hs] at HQ
    rw [mstep_ok hs]
    have HWI : Hid (∀ W k1, RdAt W b p K k1 op v L → Ahead K k1 r → SOwn matE 44 W (box + 1) (slV sl) ms.length ms → w.heap.size ≤ W.heap.size → Calls Try.prog 83 #[.pointer (some ⟨p, 0, none⟩), slV sl, .agg #[.int .i64 q.1, .string q.2, .string ⟨#[]⟩]] W fun e w' => WOut b p K k1 op v L (box + 1) sl (withR ms q.1 q.2 r) W e w') := fun W k1 hr ha1 ho1 hsz =>
      f_with h0 hr ha1 (box + 1) (by omega) (by omega) sl ms ho1 hn q.1 q.2 ⟨#[]⟩ (by rw [quest_four hs]; decide)
    cases hw : withR ms q.1 q.2 r with
    | out => exact absurd hw (fine_ne (withR_fine _ _ _ _))
    | bad q9 c =>
      have HWR := hid hw
      clear hw
      clear hs h ha hb ho h0
      obtain ⟨a0, n0, c0⟩ := sl
      unfold slV at *
      go_enter Try.func84, Try.ntmps84
      go_wp2_with fail
      refine wp_region_held_drew (S := fun W => W.cell? ⟨rbox, 0, none⟩ = some (.pointer (some ⟨p, 0, none⟩)) ∧ W.cell? ⟨box, 0, none⟩ = some (.slice a0 n0 c0)) (by kernel_rfl) ⟨r1, b1⟩ (fun hHeld => ?_)
      refine wpAnyH_take (i := 0) (v := .pointer (some ⟨p, 0, none⟩)) rfl (by kernel_rfl) (by kernel_rfl) (by kernel_rfl) (fun _ _ _ h => h) (Or.inl ⟨by rfl, fun w hSw => ?_⟩) (by assumption) ?_
      · obtain ⟨x1, x2⟩ := hSw; go_simp
      (try simp only [Act.put]); (try simp only [List.setIfInBounds_toArray]); (try simp only [List.set_cons_succ]); (try simp only [List.set_cons_zero])
      refine wpAnyH_take (i := 1) (v := .slice a0 n0 c0) rfl (by kernel_rfl) (by kernel_rfl) (by kernel_rfl) (fun _ _ _ h => h) (Or.inl ⟨by rfl, fun w hSw => ?_⟩) (by assumption) ?_
      · obtain ⟨x1, x2⟩ := hSw; go_simp
      (try simp only [Act.put]); (try simp only [List.setIfInBounds_toArray]); (try simp only [List.set_cons_succ]); (try simp only [List.set_cons_zero])
      refine wpAnyH_take (i := 2) (v := .pointer (some ⟨p, 0, none⟩)) rfl (by kernel_rfl) (by kernel_rfl) (by kernel_rfl) (fun _ _ _ h => h) (Or.inl ⟨by rfl, fun w hSw => ?_⟩) (by assumption) ?_
      · obtain ⟨x1, x2⟩ := hSw; go_simp
      (try simp only [Act.put]); (try simp only [List.setIfInBounds_toArray]); (try simp only [List.set_cons_succ]); (try simp only [List.set_cons_zero])
      refine wpAnyH_ready (rs := [3]) (by kernel_rfl) (by simp) (AllReadyH.cons (i := 3) rfl (fun K9 hK => ?_) AllReadyH.nil)
      go_simp
      refine HQ.out.mono ?_
      rintro e w1 ⟨rfl, k1, h1, ha1, hk1, f1⟩
      have F1 : Hid (Fr (Me p) w w1) := ⟨f1.os, f1.tape, f1.output, f1.size, f1.block⟩
      have HA1 := hid ha1
      have HK1 := hid hk1
      have HR1 := hid h1
      have H1 := hid (H.out.step h1 F1.out)
      have b2 := acc_box H.out F1.out HB.out
      have r2 := one_cell H1.out.rb
      have HO1 := hid (acc_own H.out F1.out HB.out HO.out)
      have HWC := hid (HWI.out w1 k1 h1 ha1 HO1.out F1.out.size)
      refine hK.out _ _ ⟨r2, b2⟩ (fun hHeld => ?_)
      clear hK K9 h1 ha1 hk1 f1 hHeld HWI
      unfold qV
      (try simp only [Act.put]); (try simp only [List.setIfInBounds_toArray]); (try simp only [List.set_cons_succ]); (try simp only [List.set_cons_zero])
      refine wpAnyH_ready (rs := [4]) (by kernel_rfl) (by simp) (AllReadyH.cons (i := 4) rfl (fun K9 hK => ?_) AllReadyH.nil)
      go_simp
      refine HWC.out.mono ?_
      intro e w3 h3
      rw [HWR.out] at h3
      obtain ⟨rfl, f3⟩ := h3
      refine ⟨rfl, rfl, (H.out.fr.trans F1.out (fun _ _ e => e)).trans f3 (fun j hj e => ?_)⟩
      rcases e with e | e
      · exact e
      · have := (SOwn.block HO1.out j e).1
        have := H.out.lo
        omega
    | ok ms2 r2 =>
      have HWR := hid hw
      clear hw
      clear hs h ha hb ho h0
      obtain ⟨a0, n0, c0⟩ := sl
      unfold slV at *
      go_enter Try.func84, Try.ntmps84
      go_wp2_with fail
      refine wp_region_held_drew (S := fun W => W.cell? ⟨rbox, 0, none⟩ = some (.pointer (some ⟨p, 0, none⟩))) (by kernel_rfl) r1 (fun hHeld => ?_)
      refine wpAnyH_take (i := 0) (v := .pointer (some ⟨p, 0, none⟩)) rfl (by kernel_rfl) (by kernel_rfl) (by kernel_rfl) (fun _ _ _ h => h) (Or.inl ⟨by rfl, fun w hSw => ?_⟩) (by assumption) ?_
      · go_simp
      (try simp only [Act.put]); (try simp only [List.setIfInBounds_toArray]); (try simp only [List.set_cons_succ]); (try simp only [List.set_cons_zero])
      refine wpAnyH_take (i := 2) (v := .pointer (some ⟨p, 0, none⟩)) rfl (by kernel_rfl) (by kernel_rfl) (by kernel_rfl) (fun _ _ _ h => h) (Or.inl ⟨by rfl, fun w hSw => ?_⟩) (by assumption) ?_
      · go_simp
      (try simp only [Act.put]); (try simp only [List.setIfInBounds_toArray]); (try simp only [List.set_cons_succ]); (try simp only [List.set_cons_zero])
      refine wpAnyH_ready (rs := [1, 3]) (by kernel_rfl) (by simp) (AllReadyH.cons (i := 1) rfl (fun K9 hK => ?_) (AllReadyH.cons (i := 3) rfl (fun K9 hK => ?_) AllReadyH.nil))
      · go_simp
        refine hK.out _ _ r1 (fun hHeld => ?_)
        clear hK K9 hHeld
        (try simp only [Act.put]); (try simp only [List.setIfInBounds_toArray]); (try simp only [List.set_cons_succ]); (try simp only [List.set_cons_zero])
        refine wpAnyH_ready (rs := [3]) (by kernel_rfl) (by simp) (AllReadyH.cons (i := 3) rfl (fun K9 hK => ?_) AllReadyH.nil)
        go_simp
        refine HQ.out.mono ?_
        rintro e w1 ⟨rfl, k1, h1, ha1, hk1, f1⟩
        have F1 : Hid (Fr (Me p) w w1) := ⟨f1.os, f1.tape, f1.output, f1.size, f1.block⟩
        have HA1 := hid ha1
        have HK1 := hid hk1
        have HR1 := hid h1
        have H1 := hid (H.out.step h1 F1.out)
        have b2 := acc_box H.out F1.out HB.out
        have r2 := one_cell H1.out.rb
        have HO1 := hid (acc_own H.out F1.out HB.out HO.out)
        have HWC := hid (HWI.out w1 k1 h1 ha1 HO1.out F1.out.size)
        refine hK.out _ _ r2 (fun hHeld => ?_)
        clear hK K9 h1 ha1 hk1 f1 hHeld HWI
        unfold qV
        (try simp only [Act.put]); (try simp only [List.setIfInBounds_toArray]); (try simp only [List.set_cons_succ]); (try simp only [List.set_cons_zero])
        refine wpAnyH_ready (rs := [4]) (by kernel_rfl) (by simp) (AllReadyH.cons (i := 4) rfl (fun K9 hK => ?_) AllReadyH.nil)
        go_simp
        refine HWC.out.mono ?_
        intro e w3 h3
        rw [HWR.out] at h3
        obtain ⟨sl2, rfl, ho3, k3, h3, ha3, hk3, f3⟩ := h3
        have HP := hid (AccAt.put (sl := (a0, n0, c0)) (sl2 := sl2) (ys := ms2) H.out HB.out h3 ((F1.out.mono (fun j _ e => .inl e)).trans f3 (fun _ _ e => e)) ho3)
        have HA3 := hid ha3
        have HK3 : Hid (k < k3) := Nat.lt_trans HK1.out hk3
        have s3 := HP.out.1
        have z3 := HP.out.2.1
        obtain ⟨q0, q1, q2⟩ := sl2
        have r4 : w3.cell? ⟨rbox, 0, none⟩ = some (.pointer (some ⟨p, 0, none⟩)) := by
          have h9 := HP.out.2.2.rb
          rw [set_other (by have := H.out.lo; omega)] at h9
          exact one_cell h9
        refine hK.out _ _ r4 (fun hHeld => ?_)
        clear hK K9 hHeld ho3 h3 ha3 hk3 f3
        unfold slV at HP s3 ⊢
        (try simp only [Act.put]); (try simp only [List.setIfInBounds_toArray]); (try simp only [List.set_cons_succ]); (try simp only [List.set_cons_zero])
        refine wpAnyH_ready (rs := [5]) (by kernel_rfl) (by simp) (AllReadyH.cons (i := 5) rfl (fun K9 hK => ?_) AllReadyH.nil)
        go_simp
        have r5 : (w3.setCell ⟨box, 0, none⟩ (.slice q0 q1 q2)).cell? ⟨rbox, 0, none⟩ = some (.pointer (some ⟨p, 0, none⟩)) := one_cell HP.out.2.2.rb
        refine hK.out _ _ r5 (fun hHeld => ?_)
        clear hK K9 hHeld
        (try simp only [Act.put]); (try simp only [List.setIfInBounds_toArray]); (try simp only [List.set_cons_succ]); (try simp only [List.set_cons_zero])
        refine wpAnyH_done (by kernel_rfl) ?_ _
        go_wp2
        go_end0
        exact ⟨rfl, k3, HP.out.2.2, HA3.out, HK3.out⟩
      · go_simp
        refine HQ.out.mono ?_
        rintro e w1 ⟨rfl, k1, h1, ha1, hk1, f1⟩
        have F1 : Hid (Fr (Me p) w w1) := ⟨f1.os, f1.tape, f1.output, f1.size, f1.block⟩
        have HA1 := hid ha1
        have HK1 := hid hk1
        have HR1 := hid h1
        have H1 := hid (H.out.step h1 F1.out)
        have b2 := acc_box H.out F1.out HB.out
        have r2 := one_cell H1.out.rb
        have HO1 := hid (acc_own H.out F1.out HB.out HO.out)
        have HWC := hid (HWI.out w1 k1 h1 ha1 HO1.out F1.out.size)
        refine hK.out _ _ r2 (fun hHeld => ?_)
        clear hK K9 h1 ha1 hk1 f1 hHeld HWI
        unfold qV
        (try simp only [Act.put]); (try simp only [List.setIfInBounds_toArray]); (try simp only [List.set_cons_succ]); (try simp only [List.set_cons_zero])
        refine wpAnyH_ready (rs := [1]) (by kernel_rfl) (by simp) (AllReadyH.cons (i := 1) rfl (fun K9 hK => ?_) AllReadyH.nil)
        go_simp
        refine hK.out _ _ r2 (fun hHeld => ?_)
        clear hK K9 hHeld
        (try simp only [Act.put]); (try simp only [List.setIfInBounds_toArray]); (try simp only [List.set_cons_succ]); (try simp only [List.set_cons_zero])
        refine wpAnyH_ready (rs := [4]) (by kernel_rfl) (by simp) (AllReadyH.cons (i := 4) rfl (fun K9 hK => ?_) AllReadyH.nil)
        go_simp
        refine HWC.out.mono ?_
        intro e w3 h3
        rw [HWR.out] at h3
        obtain ⟨sl2, rfl, ho3, k3, h3, ha3, hk3, f3⟩ := h3
        have HP := hid (AccAt.put (sl := (a0, n0, c0)) (sl2 := sl2) (ys := ms2) H.out HB.out h3 ((F1.out.mono (fun j _ e => .inl e)).trans f3 (fun _ _ e => e)) ho3)
        have HA3 := hid ha3
        have HK3 : Hid (k < k3) := Nat.lt_trans HK1.out hk3
        have s3 := HP.out.1
        have z3 := HP.out.2.1
        obtain ⟨q0, q1, q2⟩ := sl2
        have r4 : w3.cell? ⟨rbox, 0, none⟩ = some (.pointer (some ⟨p, 0, none⟩)) := by
          have h9 := HP.out.2.2.rb
          rw [set_other (by have := H.out.lo; omega)] at h9
          exact one_cell h9
        refine hK.out _ _ r4 (fun hHeld => ?_)
        clear hK K9 hHeld ho3 h3 ha3 hk3 f3
        unfold slV at HP s3 ⊢
        (try simp only [Act.put]); (try simp only [List.setIfInBounds_toArray]); (try simp only [List.set_cons_succ]); (try simp only [List.set_cons_zero])
        refine wpAnyH_ready (rs := [5]) (by kernel_rfl) (by simp) (AllReadyH.cons (i := 5) rfl (fun K9 hK => ?_) AllReadyH.nil)
        go_simp
        have r5 : (w3.setCell ⟨box, 0, none⟩ (.slice q0 q1 q2)).cell? ⟨rbox, 0, none⟩ = some (.pointer (some ⟨p, 0, none⟩)) := one_cell HP.out.2.2.rb
        refine hK.out _ _ r5 (fun hHeld => ?_)
        clear hK K9 hHeld
        (try simp only [Act.put]); (try simp only [List.setIfInBounds_toArray]); (try simp only [List.set_cons_succ]); (try simp only [List.set_cons_zero])
        refine wpAnyH_done (by kernel_rfl) ?_ _
        go_wp2
        go_end0
        exact ⟨rfl, k3, HP.out.2.2, HA3.out, HK3.out⟩
theorem mstep_len {ms a2 : List Mt} {ts r2 : List Tok} (h : mstep ms ts = .ok a2 r2) : a2.length ≤ 8 := by
  unfold mstep at h
  cases hq : questR ts with
  | out => rw [hq] at h; cases h
  | bad q c => rw [hq, bind_bad] at h; cases h
  | ok q r =>
    rw [hq, bind_ok] at h
    unfold withR at h
    split at h
    · rename_i hm
      cases h
      unfold matsB at hm
      simp only [Bool.and_eq_true, decide_eq_true_eq] at hm
      exact hm.1
    · cases h
theorem f_mats {w0 : World} {box rbox b p : Nat} {K : Tk} {op : Int} {v : Value} {L : List Row} (f k : Nat) (ms : List Mt) (ts : List Tok) (w : World) (h : AccAt matE 44 31 w0 box rbox b p K op v L ms k w) (hm : ms.length ≤ 8) (ha : Ahead K k ts) (hf : ts.length < f) :
    Calls Try.prog 59 #[.pointer (some ⟨p, 0, none⟩), .string ⟨#[123]⟩, .func (.func 84) #[] #[.pointer (some ⟨rbox, 0, none⟩), .pointer (some ⟨box, 0, none⟩)], .string ⟨#[125]⟩] w fun e w' => LOut (fun ms k w => AccAt matE 44 31 w0 box rbox b p K op v L ms k w ∧ ms.length ≤ 8) K (Me p) w0 k (listR mstep ⟨#[123]⟩ ⟨#[125]⟩ f ms ts) e w' := by
  refine f_list (fun ms k w => AccAt matE 44 31 w0 box rbox b p K op v L ms k w ∧ ms.length ≤ 8) (Me p) w0 mstep 84 _ _ _ (ent84 _) (b := b) (p := p) (op := op) (v := v) (L := L) (fun a k w h => h.1.rd) (fun a k k' w w' hk h hr hf => ⟨h.1.step hr hf, h.2⟩) (fun a k w h => h.1.fr) (fun a k ts w h ha => ?_) f ms k ts w ⟨h, hm⟩ ha (fine_ne (listR_fine mstep_fine f ms ts hf))
  refine (f_mstep h.1 ha (by have := h.2; omega)).mono fun e w' h2 => ?_
  cases hs : mstep a ts with
  | out => rw [hs] at h2; exact h2.elim
  | bad q c => rw [hs] at h2; exact h2
  | ok a2 r2 =>
    rw [hs] at h2
    obtain ⟨e1, k1, h3, ha3, hk3⟩ := h2
    exact ⟨e1, k1, ⟨h3, mstep_len hs⟩, ha3, hk3⟩
end Go.Proofs.Ytnimdngiejcljaa
