/- Package chunk: the writer's bends and bytes. -/
import Derived.Test.YteahhkpbjkcmhaaDoorDwr
namespace Go.Proofs.YteahhkpbjkcmhaaDoor
open Go.ChangeShapes Go.WideShapes Go.ChangeAt Go.RowKit
set_option linter.unusedVariables false

theorem wr_grown {w w' : World} {base p : Nat} {l : List Bool} (h : WrIs w base p l) (hg : w.grownBy w' none) : WrIs w' base p l := by
  obtain ⟨vF, a, N, c, hW⟩ := h
  exact ⟨vF, a, N, c, hW.row.of_block (hg.block p hW.row.lt (by simp)), hW.len, hW.low, SOwn.kept hW.own hg (Classical.em _), hW.apart, hW.rd.grown hg (by simp), hW.last, hW.nil, fun x hx => Nat.lt_of_lt_of_le (hW.lastlt x hx) hg.size⟩
theorem WrIs.lt {w : World} {base p : Nat} {l : List Bool} (h : WrIs w base p l) : p < w.heap.size := by obtain ⟨vF, a, N, c, hW⟩ := h; exact hW.row.lt
/-- What is made behind the writer is free. -/
theorem wr_new {w w' : World} {base p j : Nat} {l : List Bool} (h : WrIs w base p l) (hg : w.grownBy w' none) (hj : w.heap.size ≤ j) (hj2 : j < w'.heap.size) : Free w' p j := by
  obtain ⟨vF, a, N, c, hW⟩ := h
  have hr : w'.rowIs p 62 3 (WrF vF (.slice a N c) (l.length % 8)) := hW.row.of_block (hg.block p hW.row.lt (by simp))
  have hp := hW.row.lt
  refine ⟨hj2, by omega, ?_, ?_⟩
  · intro v hv
    have h := hr.cell (i := 0) (by omega)
    rw [hv] at h
    simp only [Option.some.injEq] at h
    subst h
    intro e
    have := (SOwn.block hW.own j e).2
    omega
  · intro x n c' hv
    have h := hr.cell (i := 1) (by omega)
    rw [hv] at h
    have h : Value.slice (some x) n c' = Value.slice a N c := by simpa [WrF] using h
    simp only [Value.slice.injEq] at h
    have := hW.lastlt x h.1.symm
    omega
theorem wr_set {w : World} {base p j o : Nat} {l : List Bool} {u : Value} (h : WrIs w base p l) (hj : Free w p j) : WrIs (w.setCell ⟨j, o, none⟩ u) base p l ∧ (∀ j', Free w p j' → Free (w.setCell ⟨j, o, none⟩ u) p j') := by
  obtain ⟨vF, a, N, c, hW⟩ := h
  have hg : w.grownBy (w.setCell ⟨j, o, none⟩ u) (some j) := gb_set rfl
  have hb : (w.setCell ⟨j, o, none⟩ u).heap[p]? = w.heap[p]? := hg.block p hW.row.lt (fun e => hj.2.1 (by simpa using e.symm))
  have hrow := hW.row.of_block hb
  have hF := hj.2.2.1 vF (hW.row.cell (i := 0) (by omega))
  refine ⟨⟨vF, a, N, c, hrow, hW.len, hW.low, SOwn.kept hW.own hg (.inr hF), hW.apart, hW.rd.grown hg (fun x hx => ?_), hW.last, hW.nil, ?_⟩, ?_⟩
  · subst hx
    have := hj.2.2.2 x N c (hW.row.cell (i := 1) (by omega))
    simpa using this
  · intro x hx; exact Nat.lt_of_lt_of_le (hW.lastlt x hx) hg.size
  · intro j' ⟨h1, h2, h3, h4⟩
    refine ⟨Nat.lt_of_lt_of_le h1 hg.size, h2, ?_, ?_⟩
    · intro v hv
      refine h3 v ?_
      unfold World.cell? at hv ⊢
      simp only at hv ⊢
      rw [← hb]
      exact hv
    · intro x n c hv
      refine h4 x n c ?_
      unfold World.cell? at hv ⊢
      simp only at hv ⊢
      rw [← hb]
      exact hv
theorem rd_srd {w : World} {a : Option Addr} {zs : List Int} (h : Rd w a zs) : SRd byteE w a zs := by
  cases zs with
  | nil => exact .inl rfl
  | cons z r =>
    obtain ⟨b, off, rfl, _⟩ := h.at (by simp)
    refine .inr ⟨b, off, rfl, fun j v hj => ?_⟩
    have hn := h.news j v (by rw [byteE_flat] at hj; exact hj)
    rw [show (⟨b, off, none⟩ : Addr).add j = ⟨b, off + j, none⟩ by unfold Addr.add; split <;> simp_all] at hn
    exact hn
theorem Bf.since {w w' : World} {base : Nat} (h : Bf w) (hs : w.Since base w') (hb : 0 < base) : Bf w' := by
  have hb0 := hs.block 0 hb
  refine ⟨Nat.lt_of_lt_of_le h.1 hs.size, fun k hk => ?_⟩
  obtain ⟨h1, h2, h3⟩ := h.2 k hk
  unfold World.cell? at h1 h2 h3 ⊢
  simp only at h1 h2 h3 ⊢
  rw [hb0]
  exact ⟨h1, h2, h3⟩
theorem bits_u64 (k : Nat) (z : Int) (hk : k ≤ 64) : bitsI k (IntKind.u64.wrap z) = bitsI k z := by
  have hd : (2 ^ k : Int) ∣ 18446744073709551616 := ⟨2 ^ (64 - k), by rw [← Int.pow_add, show k + (64 - k) = 64 by omega]; rfl⟩
  rw [wrap_is, ← bitsI_mod, Int.emod_emod_of_dvd _ hd, bitsI_mod]
set_option maxHeartbeats 4000000 in
theorem f_putBend (base p : Nat) (l : List Bool) (z : Int) (w : World) (h : WrIs w base p l) (hz : rngZ z) (hl : l.length ≤ 1099511627700) (hb : base ≤ w.heap.size) (hb0 : 0 < base) (hB : Bf w) :
    Calls Tryd.prog 37 #[.pointer (some ⟨p, 0, none⟩), .int .i64 z] w fun e w' => e = .returned (.tuple #[]) ∧ WrIs w' base p (l ++ encZ z) ∧ w.Since base w' ∧ Frees w w' p := by
  have HF : Hid (Calls Tryd.prog 52 #[.int .i64 z] w fun e w' => e = .returned (.int .i64 (formN z)) ∧ w = w') := d_formOf z w hz hB
  have HP : Hid (∀ (l : List Bool) (v : Int) (k : Nat) (w : World), WrIs w base p l → 0 ≤ v ∧ v ≤ 18446744073709551615 → k ≤ 64 → l.length ≤ 1099511627776 → base ≤ w.heap.size → Calls Tryd.prog 36 #[.pointer (some ⟨p, 0, none⟩), .int .u64 v, .int .i64 k] w fun e w' => e = .returned (.tuple #[]) ∧ WrIs w' base p (l ++ bitsI k v) ∧ w.Since base w' ∧ Frees w w' p) := fun l v k w h hv hk hl hb => f_put base p l v k w h hv hk hl hb
  obtain ⟨k, ek⟩ : ∃ k, k = formN z := ⟨_, rfl⟩
  have hk4 : k ≤ 4 := by rw [ek]; exact formN_le z
  have HEZ : Hid (encZ z = bitsI (markB k) (markN k) ++ bitsI (bitsN k) z) := by show _ = _; rw [mark_bits k hk4, encZ_form, ek]
  rw [← ek] at HF
  obtain ⟨c0, c1, c2⟩ := hB.2 k hk4
  have hmk : markN k ≤ 15 ∧ markB k ≤ 4 ∧ bitsN k ≤ 64 := by
    match k, hk4 with
    | 0, _ => decide
    | 1, _ => decide
    | 2, _ => decide
    | 3, _ => decide
    | 4, _ => decide
  obtain ⟨mk, emk⟩ : ∃ mk, mk = markN k := ⟨_, rfl⟩
  obtain ⟨mb, emb⟩ : ∃ mb, mb = markB k := ⟨_, rfl⟩
  obtain ⟨bn, ebn⟩ : ∃ bn, bn = bitsN k := ⟨_, rfl⟩
  rw [← emk] at c0
  rw [← emb] at c1
  rw [← ebn] at c2
  rw [← emk, ← emb, ← ebn] at HEZ hmk
  have hki : (k : Int) < 5 := by omega
  have HU : Hid (0 ≤ IntKind.u64.wrap z ∧ IntKind.u64.wrap z ≤ 18446744073709551615 ∧ bitsI bn (IntKind.u64.wrap z) = bitsI bn z) := by
    refine ⟨(wrap_u_bd z).1, (wrap_u_bd z).2, ?_⟩
    exact bits_u64 bn z hmk.2.2
  have HW : Hid (WrIs w base p l) := h
  clear h hz hB ek emk emb ebn
  go_enter Tryd.func37, Tryd.ntmps37
  go_wp2_with fail
  refine HF.out.mono ?_
  rintro e w' ⟨rfl, rfl⟩
  have HA : Hid (w.grownBy (w.alloc (.cells #[.int .u64 mk, .int .i64 mb, .int .i64 bn] 87)) none) := World.grownBy_alloc _ _ none
  go_wp2_with fail
  refine (HP.out l (mk : Int) mb _ (wr_grown HW.out HA.out) (by omega) (by omega) (by omega) (Nat.le_trans hb HA.out.size)).mono ?_
  rintro e w2 ⟨rfl, ht, hs, hfr⟩
  have HT : Hid (WrIs w2 base p (l ++ bitsI mb mk)) := ht
  have HS : Hid (w.Since base w2) := ⟨hs.os, hs.tape, hs.output, Nat.le_trans HA.out.size hs.size, fun k hk => (hs.block k hk).trans (HA.out.block k (Nat.lt_of_lt_of_le hk hb) (by simp))⟩
  have HBS : Hid (base ≤ w2.heap.size) := Nat.le_trans hb HS.out.size
  have HFR : Hid (Frees w w2 p) := (frees_grown HA.out HW.out.lt).trans hfr
  have k2 : w2.cell? ⟨w.heap.size, 2, none⟩ = some (.int .i64 bn) := hfr.cell (wr_new HW.out HA.out (Nat.le_refl _) (by show _ < (w.alloc _).heap.size; rw [World.alloc, Array.size_push]; omega)) (World.cell?_alloc_new _ _ _ _)
  clear ht hs hfr
  go_wp2_with fail
  refine (HP.out _ (IntKind.u64.wrap z) bn w2 HT.out ⟨HU.out.1, HU.out.2.1⟩ (by omega) (by simp [bitsI_len]; omega) HBS.out).mono ?_
  rintro e w3 ⟨rfl, ht, hs, hfr⟩
  rw [HU.out.2.2, List.append_assoc, ← HEZ.out] at ht
  have HT3 : Hid (WrIs w3 base p (l ++ encZ z)) := ht
  have HS3 : Hid (w.Since base w3) := HS.out.trans hs
  have HF3 : Hid (Frees w w3 p) := HFR.out.trans hfr
  clear ht hs hfr
  go_wp2
  go_end0
  exact ⟨rfl, HT3.out, HS3.out, HF3.out⟩
set_option maxHeartbeats 4000000 in
theorem f_bytes (base p : Nat) (l : List Bool) (w : World) (h : WrIs w base p l) (hl0 : l ≠ []) (hl : l.length ≤ 1099511627776) (hb : base ≤ w.heap.size) :
    Calls Tryd.prog 41 #[.pointer (some ⟨p, 0, none⟩)] w fun e w' => ∃ vB, e = .returned vB ∧ SOwn byteE 5 w' base vB ((l.length + 7) / 8) (pack l) ∧ w.Since base w' := by
  obtain ⟨vF, a, N, c, hW⟩ := h
  have c0 : w.cell? ⟨p, 0, none⟩ = some vF := hW.row.cell (i := 0) (by omega)
  have c1 : w.cell? ⟨p, 1, none⟩ = some (.slice a N c) := hW.row.cell (i := 1) (by omega)
  obtain ⟨ad, rfl⟩ : ∃ ad, a = some ad := by
    cases a with
    | none => exact absurd (hW.nil rfl).1 hl0
    | some ad => exact ⟨ad, rfl⟩
  have HW : Hid (WrAt w base p l vF (some ad) N c) := hW
  have HSR : Hid (SRd byteE w.drew (some ad) (pack (restL l))) := rd_srd hW.rd
  have HN : Hid (l.length / 8 + N = (l.length + 7) / 8 ∧ l.length / 8 ≤ 137438953472 ∧ N ≤ 2) := by
    have h := hW.len
    rw [pack_len, restL_len] at h
    show _ ∧ _
    omega
  clear hW
  go_enter Tryd.func41, Tryd.ntmps41
  go_wp2_with fail
  go_region_law (refine step_append_b rfl (.tmp 6) (.tmp 10) rfl base vF (l.length / 8) (fullB l) (by simp [Act.eval]) HW.out.own ad (pack (restL l)) N c (by simp [Act.eval]) HW.out.len HSR.out ?b1 ?b2 hb ?_; (case b1 => have := HN.out; omega); (case b2 => have := HN.out; unfold maxLen; omega); intro v2 w2 ho2 hg2 hwh)
  all_goals
    have HO2 : Hid (SOwn byteE 5 w2 base v2 ((l.length + 7) / 8) (pack l)) := by rw [full_rest l, HN.out.1] at ho2; exact ho2
    have HS2 : Hid (w.Since base w2) := by
      have h2 : w.grownBy w2 vF.ownBlock := ⟨hg2.os, hg2.tape, hg2.output, hg2.size, hg2.block⟩
      exact (World.Since.refl base w).grown h2 hb (fun k hk => (SOwn.block HW.out.own k hk).1)
    clear ho2 hg2 hwh
  all_goals go_wp2
  all_goals go_ret
  all_goals exact ⟨v2, rfl, HO2.out, HS2.out⟩
end Go.Proofs.YteahhkpbjkcmhaaDoor
