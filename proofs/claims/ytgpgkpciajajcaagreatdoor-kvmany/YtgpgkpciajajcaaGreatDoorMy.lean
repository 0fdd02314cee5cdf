/- Several texts in one: Ko. -/
import Derived.Test.YtgpgkpciajajcaaGreatDoorMx
/- KvMany: the walk. (Printed by mk_many.py.) -/
namespace Go.Proofs.YtgpgkpciajajcaaGreatDoor
open Go.RowKit Go.Maps Go.Sort
set_option linter.unusedVariables false
set_option maxRecDepth 20000

theorem wrap_id (x : Int) (h : -9223372036854775808 ≤ x ∧ x ≤ 9223372036854775807) : IntKind.i64.wrap x = x := by
  unfold IntKind.wrap
  simp only [IntKind.bits, IntKind.signed]
  simp
  split <;> omega
theorem wrap_idU (x : Int) (h : 0 ≤ x ∧ x ≤ 18446744073709551615) : IntKind.u64.wrap x = x := by
  unfold IntKind.wrap
  simp only [IntKind.bits, IntKind.signed]
  simp
  omega
theorem wpList_append_g {α : Type} {E : Elem α} {P : Program} {t e : TypeId} {bytes : Nat} (T : ElemOf E P t e bytes) {w : World} {ops : Array Oper} {rest : List Oper} {o : Oper} {a : Act} {Q : Exit → Act → World → Prop} (hw : Region.wanted o (yielded ops a.tmps) = true) (s x : Operand)
    (ho : o.op = .call { callee := .builtin .append, args := #[s, x], argTypes := #[t, t] }) (base : Nat) (v : Value) (n : Nat) (xs : List α) (hs : a.eval s = v) (hown : SOwn E e w base v n xs)
    (ad : Addr) (zs : List α) (m cap : Nat) (hx : a.eval x = .slice (some ad) m cap) (hm : zs.length = m) (hr : SRd E w (some ad) zs) (hm0 : 0 < m) (hlen : (n + m) * bytes ≤ 140737488355328) (hmax : n + m ≤ maxLen) (hb : base ≤ w.heap.size)
    (h : ∀ g c w', SOwn E e w' base (.slice (some ⟨g, 0, none⟩) (n + m) c) (n + m) (xs ++ zs) → w.grownBy w' v.ownBlock → (v.ownBlock = some g ∨ g = w.heap.size) → wpList P ops Q rest (a.put o.dst (.slice (some ⟨g, 0, none⟩) (n + m) c)) w') : wpList P ops Q (o :: rest) a w := by
  obtain ⟨i0, z, hi, hz0, hz1, hz2, hz3⟩ := T.info
  subst hm
  show if Region.wanted o (yielded ops a.tmps) then _ else _
  rw [if_pos hw]
  refine .inl (wp_append_lies w s x t ho base e i0 z E.size bytes T.under hi hz0 hz1 hz2 hz3 E.pos _ n (E.flat xs) hs hown ad zs.length cap (E.flat zs) hx (E.flat_len zs) hr.news (E.flat_one zs) hm0 hmax hlen hb w.heap.size rfl ?_)
  intro g c w' hown' hg hgg _
  rw [← E.flat_app] at hown'
  exact h g c w' hown' hg hgg
/-- What a round of KvMany has made so far: the keys' row, the copy, the byte's row, what was appended. -/
structure Mk9 (w W : World) (za : List Int) (L : Nat) (y : Int) (os : Option Nat) (oc : Option (Nat × Nat)) (ob : Option Nat) (oa : Option (Nat × Nat)) : Prop where
  gr : w.grownBy W none
  str : ∀ g, os = some g → W.heap[g]? = some (.cells #[.string ⟨#[97]⟩, .string ⟨#[98]⟩] 9 (0, 0))
  cop : ∀ t, oc = some t → SOwn byteE 5 W w.heap.size (.slice (some ⟨t.1, 0, none⟩) L t.2) L za
  lit : ∀ g, ob = some g → SRd byteE W (some ⟨g, 0, none⟩) [y]
  don : ∀ t, oa = some t → Rd W (some ⟨t.1, 0, none⟩) (za ++ [y])
section
variable {w W W' : World} {za : List Int} {L : Nat} {y : Int} {os : Option Nat} {oc : Option (Nat × Nat)} {ob : Option Nat} {oa : Option (Nat × Nat)}
theorem Mk9.next (h : Mk9 w W za L y os oc ob oa) (hg : W.grownBy W' none) : Mk9 w W' za L y os oc ob oa :=
  ⟨h.gr.trans hg, fun g e => (hg.block g (Array.getElem?_eq_some_iff.1 (h.str g e)).1 (by simp)).trans (h.str g e), fun t e => SOwn.kept (h.cop t e) hg (by simp [Value.ownBlock]), fun g e => (h.lit g e).grown hg (by simp), fun t e => (h.don t e).grown hg (by simp)⟩
theorem Mk9.strs (h : Mk9 w W za L y os oc ob oa) : Mk9 w (W.alloc (.cells #[.string ⟨#[97]⟩, .string ⟨#[98]⟩] 9)) za L y (some W.heap.size) oc ob oa := by
  have h' := h.next (World.grownBy_alloc W (.cells #[.string ⟨#[97]⟩, .string ⟨#[98]⟩] 9) none)
  exact ⟨h'.gr, fun g e => by cases e; exact heap_alloc_new W _, h'.cop, h'.lit, h'.don⟩
theorem Mk9.byte (h : Mk9 w W za L y os oc ob oa) (hy : 0 ≤ y ∧ y ≤ 255) : Mk9 w (W.alloc (.cells #[.int .u8 y] 5)) za L y os oc (some W.heap.size) oa := by
  have h' := h.next (World.grownBy_alloc W (.cells #[.int .u8 y] 5) none)
  exact ⟨h'.gr, h'.str, h'.cop, fun g e => by cases e; exact rd_srd (rd_lit W [y] (by simpa using hy)), h'.don⟩
theorem own_sown {w : World} {base g n c : Nat} {zs : List Int} (h : Own w base g n c zs) : SOwn byteE 5 w base (.slice (some ⟨g, 0, none⟩) n c) n zs := by
  have h1 := h.1
  unfold SOwn
  rw [byteE_flat]
  exact h1
theorem Mk9.copied {g c : Nat} (h : Mk9 w W za L y os oc ob oa) (ho : Own W' W.heap.size g L c za) (hg : W.grownBy W' none) : Mk9 w W' za L y os (some (g, c)) ob oa := by
  have h' := h.next hg
  exact ⟨h'.gr, h'.str, fun t e => by cases e; exact SOwn.base (own_sown ho) h.gr.size, h'.lit, h'.don⟩
theorem Mk9.own (h : Mk9 w W za L y os oc ob oa) (t : Nat × Nat) (e : oc = some t) : SOwn byteE 5 W w.heap.size (.slice (some ⟨t.1, 0, none⟩) L t.2) L za := h.cop t e
theorem Mk9.lrd (h : Mk9 w W za L y os oc ob oa) (g : Nat) (e : ob = some g) : SRd byteE W (some ⟨g, 0, none⟩) [y] := h.lit g e
theorem Mk9.done (h : Mk9 w W za L y os oc ob oa) (t : Nat × Nat) (e : oa = some t) : Rd W (some ⟨t.1, 0, none⟩) (za ++ [y]) := h.don t e
theorem Mk9.apped {g7 c7 g c : Nat} (h : Mk9 w W za L y os (some (g7, c7)) ob oa) (ho : SOwn byteE 5 W' w.heap.size (.slice (some ⟨g, 0, none⟩) (L + 1) c) (L + 1) (za ++ [y])) (hg : W.grownBy W' (Value.ownBlock (.slice (some ⟨g7, 0, none⟩) L c7))) (hz : ∀ z ∈ za ++ [y], 0 ≤ z ∧ z ≤ 255) : Mk9 w W' za L y os none none (some (g, c)) := by
  have hc := h.cop _ rfl
  refine ⟨gb_trans h.gr hg (fun k hk => .inl (hc.block k hk).1), fun g' e => ?_, fun t e => (by cases e), fun g e => (by cases e), fun t e => by cases e; exact srd_rd (SOwn.rd ho) hz⟩
  have hs := h.str g' e
  have hne : some g' ≠ Value.ownBlock (.slice (some ⟨g7, 0, none⟩) L c7) := by
    intro e'
    have e2 : g' = g7 := Option.some.inj e'
    subst e2
    rcases hc.2 with ⟨h', _⟩ | ⟨g0, cap, cur, h', h1, h2, _⟩
    · cases h'
    · have e3 : g' = g0 := by injection h' with h'; exact congrArg Addr.block (Option.some.inj h')
      subst e3
      rw [hs] at h2
      simp at h2
  exact (hg.block g' (Array.getElem?_eq_some_iff.1 hs).1 hne).trans hs
end
theorem Mk9.cell {w W : World} {za : List Int} {L : Nat} {y : Int} {g : Nat} {oc : Option (Nat × Nat)} {ob : Option Nat} {oa : Option (Nat × Nat)} {i ix : Nat} (h : Mk9 w W za L y (some g) oc ob oa) (hx : ix = i % 2) : W.cell? ⟨g, ix, none⟩ = some (.string (keyN i)) := by
  rw [cell_of_row W g ix _ _ _ (h.str g rfl)]
  have : i % 2 = 0 ∨ i % 2 = 1 := by omega
  rcases this with h0 | h0
  · rw [hx, h0]; simp [keyN, h0, kA]
  · rw [hx, h0]; simp [keyN, h0, kBb]
set_option maxHeartbeats 40000000 in
theorem kv_many (t : Int) (aa : Option Addr) (za : List Int) (La ca : Nat) (w : World) (ht : Tab w) (hra : Rd w aa za) (hLa : za.length = La) (hna : aa = none → ca = 0) (hza : La ≤ 140737488351232) :
    Calls Tryz.prog 6 #[.int .i64 t, .slice aa La ca] w fun e w' => e = .returned (.bool true) ∧ w.grownBy w' none := by
  have HD : Hid (Calls Tryz.prog 7 #[] w fun e w' => ∃ d mb B, e = .returned (.pointer (some ⟨d, 0, none⟩)) ∧ De w w' d mb 0 x0 dirK none [] B ∧ w.grownBy w' none) := kv_disk w ht
  have HAW : Hid (∀ w1, w.grownBy w1 none → Calls Tryz.prog 16 #[] w1 fun e w' => e = .returned (.bool true) ∧ w.grownBy w' none) := fun w1 hg => by
    refine (kv_awake w1 (ht.grown hg)).mono ?_
    rintro e w' ⟨rfl, h⟩
    exact ⟨rfl, hg.trans h⟩
  have HCA : Hid (∀ w1, w.grownBy w1 none → Calls Tryz.prog 23 #[.slice aa La ca] w1 fun e w' => ∃ g c, e = .returned (.slice (some ⟨g, 0, none⟩) La c) ∧ Own w' w1.heap.size g La c za ∧ w1.grownBy w' none) := fun w1 hg => by
    have := copy_any aa za ca w1 (hra.grown hg (by simp)) hna (by omega)
    rw [hLa] at this
    exact this
  have HRA : Hid (Rd w aa za ∧ za.length = La) := ⟨hra, hLa⟩
  clear ht hra hLa hna
  by_cases hl : La ≤ 2000
  · have q1 : decide ((2000 : Int) < (La : Int)) = false := by simp; omega
    go_enter Tryz.func6, Tryz.ntmps6
    go_wp2_with fail
    refine HD.out.mono ?_
    rintro e w1 ⟨d, mb, B, rfl, hde, hg1⟩
    have HO := kv_open0 hde
    clear HD hde hg1
    go_wp2_with fail
    refine HO.mono ?_
    rintro e w2 ⟨sb, rfl, hkv, hg2⟩
    have HT2 : Hid (ManyAt w w2 d mb sb 0 za) := hkv
    clear HO hg2 hkv
    go_wp2_with fail
    refine (Low_any t w2).mono ?_
    rintro e w3 ⟨r, rfl, hr0, hr1, rfl⟩
    obtain ⟨Nm, hNm⟩ := Int.eq_ofNat_of_zero_le (show 0 ≤ r % 400 by omega)
    have HNm : Hid (r % 400 = (Nm : Int)) := hNm
    have h400 : Nm < 400 := by omega
    clear hNm
    go_wp2_with fail
    rw [HNm.out]
    go_loopw [9] (fun t9 wr => ∃ i : Nat, i ≤ Nm ∧ t9 = .int .i64 i ∧ ManyAt w wr d mb sb i za) (fun t9 _ => Nm - (intOf t9).toNat)
    case atStart => exact ⟨0, Nat.zero_le _, rfl, HT2.out⟩
    case round =>
      obtain ⟨i, hi, rfl, hM⟩ := hrel
      have HM : Hid (ManyAt w wr d mb sb i za) := hM
      have HFR : Hid (w.grownBy wr none) := KvS.from_ hM
      clear hM HT2
      by_cases hlt : i < Nm
      · have hii : (i : Int) < (Nm : Int) := by omega
        obtain ⟨ix, hix⟩ : ∃ ix, ix = i % 2 := ⟨_, rfl⟩
        obtain ⟨q, hq⟩ : ∃ q, q = i / 2 := ⟨_, rfl⟩
        obtain ⟨I, hI⟩ : ∃ I : Int, I = (i : Int) := ⟨_, rfl⟩
        obtain ⟨y, hy⟩ : ∃ y : Int, y = (i : Int) % 256 := ⟨_, rfl⟩
        have HIX : Hid (ix = i % 2) := hix
        have HYB : Hid (0 ≤ y ∧ y ≤ 255) := by show _ ∧ _; omega
        have HYA : Hid (∀ z ∈ za ++ [y], 0 ≤ z ∧ z ≤ 255) := fun z hz => by
          rcases List.mem_append.1 hz with h | h
          · exact HRA.out.1.2 z h
          · simp at h; subst h; exact HYB.out
        have HSET : Hid (∀ W g c, wr.grownBy W none → Rd W (some ⟨g, 0, none⟩) (za ++ [y]) → Calls Tryz.prog 19 #[.pointer (some ⟨sb, 0, none⟩), .string (keyN i), .slice (some ⟨g, 0, none⟩) (La + 1) c, .int .u64 (q : Int)] W fun e w' => (∃ u, e = .returned (.tuple #[u, .int .i64 0])) ∧ ManyAt w w' d mb sb (i + 1) za) := fun W g c hg hr =>
          many_set (KvS.grown HM.out hg) (by rw [HRA.out.2]; exact hl) (by omega) (some ⟨g, 0, none⟩) (La + 1) c q y hr (by rw [HRA.out.2]) hy hq
        have HST0 : Hid (Mk9 wr wr.drew za La y none none none none) := ⟨gb_drew (World.grownBy.refl _ _), fun _ e => (by cases e), fun _ e => (by cases e), fun _ e => (by cases e), fun _ e => (by cases e)⟩
        have b0 : 0 ≤ I := by omega
        have b1 : I ≤ 400 := by omega
        have r1 : I % 2 = (ix : Int) := by omega
        have r2 : I / 2 = (q : Int) := by omega
        have r5 : I.tmod 2 = (ix : Int) := by rw [Int.tmod_eq_emod_of_nonneg b0]; exact r1
        have r6 : I.tdiv 2 = (q : Int) := by rw [Int.tdiv_eq_ediv_of_nonneg b0]; exact r2
        have r7 : IntKind.i64.wrap (I.tdiv 2) = (q : Int) := by rw [r6]; exact wrap_id _ (by omega)
        have r9 : IntKind.i64.wrap (q : Int) = (q : Int) := wrap_id _ (by omega)
        have r8 : IntKind.u64.wrap (q : Int) = (q : Int) := wrap_idU _ (by omega)
        have r3 : IntKind.u8.wrap I = y := by rw [hI, hy]; simp [IntKind.wrap, IntKind.bits, IntKind.signed]
        have r4 : I % 256 = y := by rw [hI, hy]
        have b2 : (ix : Int) < 2 := by omega
        have b3 : (q : Int) ≤ 200 := by omega
        have b4 : ix < 2 := by omega
        go_upto_region 9 with fail
        rw [← hI]
        go_cut [10, 11] from 45 to 70 (fun t10 t11 wc => t11 = .int .i64 0 ∧ ManyAt w wc d mb sb (i + 1) za)
        case first =>
          clear hix hq hI hy HM
          refine wp_region_held_drew (S := fun W => w.grownBy W none) (by kernel_rfl) (HFR.out.trans HST0.out.gr) (fun hHeld => ?_)
          generalize wr.drew = W0 at HST0 hHeld ⊢
          refine wpAnyH_take (i := 0) (v := .pointer (some ⟨sb, 0, none⟩)) rfl (by kernel_rfl) (by kernel_rfl) (by kernel_rfl) (fun _ _ _ h => h) (Or.inl ⟨by rfl, fun w hSw => ?_⟩) (by assumption) ?_
          · go_simp
          (try simp only [Act.put]); (try simp only [List.setIfInBounds_toArray]); (try simp only [List.set_cons_succ]); (try simp only [List.set_cons_zero])
          refine wpAnyH_take (i := 2) (v := .int .i64 I) rfl (by kernel_rfl) (by kernel_rfl) (by kernel_rfl) (fun _ _ _ h => h) (Or.inl ⟨by rfl, fun w hSw => ?_⟩) (by assumption) ?_
          · go_simp
          (try simp only [Act.put]); (try simp only [List.setIfInBounds_toArray]); (try simp only [List.set_cons_succ]); (try simp only [List.set_cons_zero])
          refine wpAnyH_take (i := 3) (v := .int .i64 (ix : Int)) rfl (by kernel_rfl) (by kernel_rfl) (by kernel_rfl) (fun _ _ _ h => h) (Or.inl ⟨by rfl, fun w hSw => ?_⟩) (by assumption) ?_
          · go_simp
          (try simp only [Act.put]); (try simp only [List.setIfInBounds_toArray]); (try simp only [List.set_cons_succ]); (try simp only [List.set_cons_zero])
          refine wpAnyH_take (i := 6) (v := .slice aa La ca) rfl (by kernel_rfl) (by kernel_rfl) (by kernel_rfl) (fun _ _ _ h => h) (Or.inl ⟨by rfl, fun w hSw => ?_⟩) (by assumption) ?_
          · go_simp
          (try simp only [Act.put]); (try simp only [List.setIfInBounds_toArray]); (try simp only [List.set_cons_succ]); (try simp only [List.set_cons_zero])
          refine wpAnyH_take (i := 8) (v := .int .i64 I) rfl (by kernel_rfl) (by kernel_rfl) (by kernel_rfl) (fun _ _ _ h => h) (Or.inl ⟨by rfl, fun w hSw => ?_⟩) (by assumption) ?_
          · go_simp
          (try simp only [Act.put]); (try simp only [List.setIfInBounds_toArray]); (try simp only [List.set_cons_succ]); (try simp only [List.set_cons_zero])
          refine wpAnyH_take (i := 9) (v := .int .u8 y) rfl (by kernel_rfl) (by kernel_rfl) (by kernel_rfl) (fun _ _ _ h => h) (Or.inl ⟨by rfl, fun w hSw => ?_⟩) (by assumption) ?_
          · go_simp
          (try simp only [Act.put]); (try simp only [List.setIfInBounds_toArray]); (try simp only [List.set_cons_succ]); (try simp only [List.set_cons_zero])
          refine wpAnyH_take (i := 12) (v := .int .i64 I) rfl (by kernel_rfl) (by kernel_rfl) (by kernel_rfl) (fun _ _ _ h => h) (Or.inl ⟨by rfl, fun w hSw => ?_⟩) (by assumption) ?_
          · go_simp
          (try simp only [Act.put]); (try simp only [List.setIfInBounds_toArray]); (try simp only [List.set_cons_succ]); (try simp only [List.set_cons_zero])
          refine wpAnyH_take (i := 13) (v := .int .i64 (q : Int)) rfl (by kernel_rfl) (by kernel_rfl) (by kernel_rfl) (fun _ _ _ h => h) (Or.inl ⟨by rfl, fun w hSw => ?_⟩) (by assumption) ?_
          · go_simp
          (try simp only [Act.put]); (try simp only [List.setIfInBounds_toArray]); (try simp only [List.set_cons_succ]); (try simp only [List.set_cons_zero])
          refine wpAnyH_take (i := 14) (v := .int .u64 (q : Int)) rfl (by kernel_rfl) (by kernel_rfl) (by kernel_rfl) (fun _ _ _ h => h) (Or.inl ⟨by rfl, fun w hSw => ?_⟩) (by assumption) ?_
          · go_simp
          (try simp only [Act.put]); (try simp only [List.setIfInBounds_toArray]); (try simp only [List.set_cons_succ]); (try simp only [List.set_cons_zero])
          refine wpAnyH_ready (rs := [1, 7, 10]) (by kernel_rfl) (by simp) (AllReadyH.cons (i := 1) rfl (fun K hK => ?_) (AllReadyH.cons (i := 7) rfl (fun K hK => ?_) (AllReadyH.cons (i := 10) rfl (fun K hK => ?_) AllReadyH.nil)))
          · go_simp
            have HST1 : Hid (Mk9 wr (W0.alloc (.cells #[.string ⟨#[97]⟩, .string ⟨#[98]⟩] 9)) za La y (some (W0.heap.size)) none none none) := HST0.out.strs
            refine hK.out _ _ (HFR.out.trans HST1.out.gr) (fun hHeld => ?_)
            clear hK K
            generalize W0.alloc (.cells #[.string ⟨#[97]⟩, .string ⟨#[98]⟩] 9) = W1 at HST1 hHeld ⊢
            generalize W0.heap.size = s1 at HST1 ⊢
            clear HST0
            (try simp only [Act.put]); (try simp only [List.setIfInBounds_toArray]); (try simp only [List.set_cons_succ]); (try simp only [List.set_cons_zero])
            refine wpAnyH_take (i := 4) (v := .pointer (some ⟨s1, ix, none⟩)) rfl (by kernel_rfl) (by kernel_rfl) (by kernel_rfl) (fun _ _ _ h => h) (Or.inl ⟨by rfl, fun w hSw => ?_⟩) (by assumption) ?_
            · go_simp
            (try simp only [Act.put]); (try simp only [List.setIfInBounds_toArray]); (try simp only [List.set_cons_succ]); (try simp only [List.set_cons_zero])
            refine wpAnyH_ready (rs := [5, 7, 10]) (by kernel_rfl) (by simp) (AllReadyH.cons (i := 5) rfl (fun K hK => ?_) (AllReadyH.cons (i := 7) rfl (fun K hK => ?_) (AllReadyH.cons (i := 10) rfl (fun K hK => ?_) AllReadyH.nil)))
            · have z5 := HST1.out.cell HIX.out
              go_simp
              refine hK.out _ _ (HFR.out.trans HST1.out.gr) (fun hHeld => ?_)
              clear hK K z5
              (try simp only [Act.put]); (try simp only [List.setIfInBounds_toArray]); (try simp only [List.set_cons_succ]); (try simp only [List.set_cons_zero])
              refine wpAnyH_ready (rs := [7, 10]) (by kernel_rfl) (by simp) (AllReadyH.cons (i := 7) rfl (fun K hK => ?_) (AllReadyH.cons (i := 10) rfl (fun K hK => ?_) AllReadyH.nil))
              · go_simp
                refine (HCA.out W1 (HFR.out.trans HST1.out.gr)).mono ?_
                rintro e W3 ⟨g3, c3, rfl, ho, hg⟩
                have HST3 : Hid (Mk9 wr W3 za La y (some s1) (some (g3, c3)) none none) := HST1.out.copied ho hg
                refine hK.out _ _ (HFR.out.trans HST3.out.gr) (fun hHeld => ?_)
                clear hK K ho hg
                clear HST1
                (try simp only [Act.put]); (try simp only [List.setIfInBounds_toArray]); (try simp only [List.set_cons_succ]); (try simp only [List.set_cons_zero])
                refine wpAnyH_ready (rs := [10]) (by kernel_rfl) (by simp) (AllReadyH.cons (i := 10) rfl (fun K hK => ?_) AllReadyH.nil)
                · go_simp
                  have HST4 : Hid (Mk9 wr (W3.alloc (.cells #[.int .u8 y] 5)) za La y (some s1) (some (g3, c3)) (some (W3.heap.size)) none) := HST3.out.byte HYB.out
                  refine hK.out _ _ (HFR.out.trans HST4.out.gr) (fun hHeld => ?_)
                  clear hK K
                  generalize W3.alloc (.cells #[.int .u8 y] 5) = W4 at HST4 hHeld ⊢
                  generalize W3.heap.size = b4 at HST4 ⊢
                  clear HST3
                  (try simp only [Act.put]); (try simp only [List.setIfInBounds_toArray]); (try simp only [List.set_cons_succ]); (try simp only [List.set_cons_zero])
                  refine wpAnyH_ready (rs := [11]) (by kernel_rfl) (by simp) (AllReadyH.cons (i := 11) rfl (fun K hK => ?_) AllReadyH.nil)
                  · refine step_append_e byteET rfl (.tmp 58) (.tmp 61) rfl wr.heap.size (.slice (some ⟨g3, 0, none⟩) La c3) La za (by simp [Act.eval]) (HST4.out.own _ rfl) ⟨b4, 0, none⟩ [y] 1 1 (by simp [Act.eval]) rfl (HST4.out.lrd _ rfl) (by omega) (by omega) (by unfold maxLen; omega) HST4.out.gr.size ?_
                    intro g5 c5 W5 ho hg hgg
                    have HST5 : Hid (Mk9 wr W5 za La y (some s1) none none (some (g5, c5))) := HST4.out.apped ho hg HYA.out
                    refine hK.out _ _ (HFR.out.trans HST5.out.gr) (fun hHeld => ?_)
                    clear hK K ho hg hgg
                    clear HST4
                    (try simp only [Act.put]); (try simp only [List.setIfInBounds_toArray]); (try simp only [List.set_cons_succ]); (try simp only [List.set_cons_zero])
                    refine wpAnyH_ready (rs := [15]) (by kernel_rfl) (by simp) (AllReadyH.cons (i := 15) rfl (fun K hK => ?_) AllReadyH.nil)
                    · go_simp
                      refine (HSET.out W5 g5 c5 HST5.out.gr (HST5.out.done _ rfl)).mono ?_
                      rintro e W6 ⟨⟨u9, rfl⟩, hM⟩
                      have HM9 : Hid (ManyAt w W6 d mb sb (i + 1) za) := hM
                      refine hK.out _ _ (KvS.from_ hM) (fun hHeld => ?_)
                      clear hK K hM
                      clear HST5
                      (try simp only [Act.put]); (try simp only [List.setIfInBounds_toArray]); (try simp only [List.set_cons_succ]); (try simp only [List.set_cons_zero])
                      refine wpAnyH_take (i := 16) (v := .tuple #[u9, .int .i64 0]) rfl (by kernel_rfl) (by kernel_rfl) (by kernel_rfl) (fun _ _ _ h => h) (Or.inl ⟨by rfl, fun w hSw => ?_⟩) (by assumption) ?_
                      · go_simp
                      (try simp only [Act.put]); (try simp only [List.setIfInBounds_toArray]); (try simp only [List.set_cons_succ]); (try simp only [List.set_cons_zero])
                      refine wpAnyH_take (i := 17) (v := u9) rfl (by kernel_rfl) (by kernel_rfl) (by kernel_rfl) (fun _ _ _ h => h) (Or.inl ⟨by rfl, fun w hSw => ?_⟩) (by assumption) ?_
                      · go_simp
                      (try simp only [Act.put]); (try simp only [List.setIfInBounds_toArray]); (try simp only [List.set_cons_succ]); (try simp only [List.set_cons_zero])
                      refine wpAnyH_take (i := 18) (v := .int .i64 0) rfl (by kernel_rfl) (by kernel_rfl) (by kernel_rfl) (fun _ _ _ h => h) (Or.inl ⟨by rfl, fun w hSw => ?_⟩) (by assumption) ?_
                      · go_simp
                      (try simp only [Act.put]); (try simp only [List.setIfInBounds_toArray]); (try simp only [List.set_cons_succ]); (try simp only [List.set_cons_zero])
                      refine wpAnyH_ready (rs := [19]) (by kernel_rfl) (by simp) (AllReadyH.cons (i := 19) rfl (fun K hK => ?_) AllReadyH.nil)
                      go_simp
                      refine hK.out _ _ (KvS.from_ HM9.out) (fun hHeld => ?_)
                      clear hK K
                      (try simp only [Act.put]); (try simp only [List.setIfInBounds_toArray]); (try simp only [List.set_cons_succ]); (try simp only [List.set_cons_zero])
                      refine wpAnyH_ready (rs := [20]) (by kernel_rfl) (by simp) (AllReadyH.cons (i := 20) rfl (fun K hK => ?_) AllReadyH.nil)
                      go_simp
                      refine hK.out _ _ (KvS.from_ HM9.out) (fun hHeld => ?_)
                      clear hK K
                      (try simp only [Act.put]); (try simp only [List.setIfInBounds_toArray]); (try simp only [List.set_cons_succ]); (try simp only [List.set_cons_zero])
                      refine wpAnyH_done (by kernel_rfl) ?_ _
                      go_wp2
                      go_meet
                      case rel => exact ⟨rfl, HM9.out⟩
              · go_simp
                have HST7 : Hid (Mk9 wr (W1.alloc (.cells #[.int .u8 y] 5)) za La y (some s1) none (some (W1.heap.size)) none) := HST1.out.byte HYB.out
                refine hK.out _ _ (HFR.out.trans HST7.out.gr) (fun hHeld => ?_)
                clear hK K
                generalize W1.alloc (.cells #[.int .u8 y] 5) = W7 at HST7 hHeld ⊢
                generalize W1.heap.size = b7 at HST7 ⊢
                clear HST1
                (try simp only [Act.put]); (try simp only [List.setIfInBounds_toArray]); (try simp only [List.set_cons_succ]); (try simp only [List.set_cons_zero])
                refine wpAnyH_ready (rs := [7]) (by kernel_rfl) (by simp) (AllReadyH.cons (i := 7) rfl (fun K hK => ?_) AllReadyH.nil)
                · go_simp
                  refine (HCA.out W7 (HFR.out.trans HST7.out.gr)).mono ?_
                  rintro e W8 ⟨g8, c8, rfl, ho, hg⟩
                  have HST8 : Hid (Mk9 wr W8 za La y (some s1) (some (g8, c8)) (some b7) none) := HST7.out.copied ho hg
                  refine hK.out _ _ (HFR.out.trans HST8.out.gr) (fun hHeld => ?_)
                  clear hK K ho hg
                  clear HST7
                  (try simp only [Act.put]); (try simp only [List.setIfInBounds_toArray]); (try simp only [List.set_cons_succ]); (try simp only [List.set_cons_zero])
                  refine wpAnyH_ready (rs := [11]) (by kernel_rfl) (by simp) (AllReadyH.cons (i := 11) rfl (fun K hK => ?_) AllReadyH.nil)
                  · refine step_append_e byteET rfl (.tmp 58) (.tmp 61) rfl wr.heap.size (.slice (some ⟨g8, 0, none⟩) La c8) La za (by simp [Act.eval]) (HST8.out.own _ rfl) ⟨b7, 0, none⟩ [y] 1 1 (by simp [Act.eval]) rfl (HST8.out.lrd _ rfl) (by omega) (by omega) (by unfold maxLen; omega) HST8.out.gr.size ?_
                    intro g9 c9 W9 ho hg hgg
                    have HST9 : Hid (Mk9 wr W9 za La y (some s1) none none (some (g9, c9))) := HST8.out.apped ho hg HYA.out
                    refine hK.out _ _ (HFR.out.trans HST9.out.gr) (fun hHeld => ?_)
                    clear hK K ho hg hgg
                    clear HST8
                    (try simp only [Act.put]); (try simp only [List.setIfInBounds_toArray]); (try simp only [List.set_cons_succ]); (try simp only [List.set_cons_zero])
                    refine wpAnyH_ready (rs := [15]) (by kernel_rfl) (by simp) (AllReadyH.cons (i := 15) rfl (fun K hK => ?_) AllReadyH.nil)
                    · go_simp
                      refine (HSET.out W9 g9 c9 HST9.out.gr (HST9.out.done _ rfl)).mono ?_
                      rintro e W10 ⟨⟨u9, rfl⟩, hM⟩
                      have HM9 : Hid (ManyAt w W10 d mb sb (i + 1) za) := hM
                      refine hK.out _ _ (KvS.from_ hM) (fun hHeld => ?_)
                      clear hK K hM
                      clear HST9
                      (try simp only [Act.put]); (try simp only [List.setIfInBounds_toArray]); (try simp only [List.set_cons_succ]); (try simp only [List.set_cons_zero])
                      refine wpAnyH_take (i := 16) (v := .tuple #[u9, .int .i64 0]) rfl (by kernel_rfl) (by kernel_rfl) (by kernel_rfl) (fun _ _ _ h => h) (Or.inl ⟨by rfl, fun w hSw => ?_⟩) (by assumption) ?_
                      · go_simp
                      (try simp only [Act.put]); (try simp only [List.setIfInBounds_toArray]); (try simp only [List.set_cons_succ]); (try simp only [List.set_cons_zero])
                      refine wpAnyH_take (i := 17) (v := u9) rfl (by kernel_rfl) (by kernel_rfl) (by kernel_rfl) (fun _ _ _ h => h) (Or.inl ⟨by rfl, fun w hSw => ?_⟩) (by assumption) ?_
                      · go_simp
                      (try simp only [Act.put]); (try simp only [List.setIfInBounds_toArray]); (try simp only [List.set_cons_succ]); (try simp only [List.set_cons_zero])
                      refine wpAnyH_take (i := 18) (v := .int .i64 0) rfl (by kernel_rfl) (by kernel_rfl) (by kernel_rfl) (fun _ _ _ h => h) (Or.inl ⟨by rfl, fun w hSw => ?_⟩) (by assumption) ?_
                      · go_simp
                      (try simp only [Act.put]); (try simp only [List.setIfInBounds_toArray]); (try simp only [List.set_cons_succ]); (try simp only [List.set_cons_zero])
                      refine wpAnyH_ready (rs := [19]) (by kernel_rfl) (by simp) (AllReadyH.cons (i := 19) rfl (fun K hK => ?_) AllReadyH.nil)
                      go_simp
                      refine hK.out _ _ (KvS.from_ HM9.out) (fun hHeld => ?_)
                      clear hK K
                      (try simp only [Act.put]); (try simp only [List.setIfInBounds_toArray]); (try simp only [List.set_cons_succ]); (try simp only [List.set_cons_zero])
                      refine wpAnyH_ready (rs := [20]) (by kernel_rfl) (by simp) (AllReadyH.cons (i := 20) rfl (fun K hK => ?_) AllReadyH.nil)
                      go_simp
                      refine hK.out _ _ (KvS.from_ HM9.out) (fun hHeld => ?_)
                      clear hK K
                      (try simp only [Act.put]); (try simp only [List.setIfInBounds_toArray]); (try simp only [List.set_cons_succ]); (try simp only [List.set_cons_zero])
                      refine wpAnyH_done (by kernel_rfl) ?_ _
                      go_wp2
                      go_meet
                      case rel => exact ⟨rfl, HM9.out⟩
            · go_simp
              refine (HCA.out W1 (HFR.out.trans HST1.out.gr)).mono ?_
              rintro e W11 ⟨g11, c11, rfl, ho, hg⟩
              have HST11 : Hid (Mk9 wr W11 za La y (some s1) (some (g11, c11)) none none) := HST1.out.copied ho hg
              refine hK.out _ _ (HFR.out.trans HST11.out.gr) (fun hHeld => ?_)
              clear hK K ho hg
              clear HST1
              (try simp only [Act.put]); (try simp only [List.setIfInBounds_toArray]); (try simp only [List.set_cons_succ]); (try simp only [List.set_cons_zero])
              refine wpAnyH_ready (rs := [5, 10]) (by kernel_rfl) (by simp) (AllReadyH.cons (i := 5) rfl (fun K hK => ?_) (AllReadyH.cons (i := 10) rfl (fun K hK => ?_) AllReadyH.nil))
              · have z5 := HST11.out.cell HIX.out
                go_simp
                refine hK.out _ _ (HFR.out.trans HST11.out.gr) (fun hHeld => ?_)
                clear hK K z5
                (try simp only [Act.put]); (try simp only [List.setIfInBounds_toArray]); (try simp only [List.set_cons_succ]); (try simp only [List.set_cons_zero])
                refine wpAnyH_ready (rs := [10]) (by kernel_rfl) (by simp) (AllReadyH.cons (i := 10) rfl (fun K hK => ?_) AllReadyH.nil)
                · go_simp
                  have HST13 : Hid (Mk9 wr (W11.alloc (.cells #[.int .u8 y] 5)) za La y (some s1) (some (g11, c11)) (some (W11.heap.size)) none) := HST11.out.byte HYB.out
                  refine hK.out _ _ (HFR.out.trans HST13.out.gr) (fun hHeld => ?_)
                  clear hK K
                  generalize W11.alloc (.cells #[.int .u8 y] 5) = W13 at HST13 hHeld ⊢
                  generalize W11.heap.size = b13 at HST13 ⊢
                  clear HST11
                  (try simp only [Act.put]); (try simp only [List.setIfInBounds_toArray]); (try simp only [List.set_cons_succ]); (try simp only [List.set_cons_zero])
                  refine wpAnyH_ready (rs := [11]) (by kernel_rfl) (by simp) (AllReadyH.cons (i := 11) rfl (fun K hK => ?_) AllReadyH.nil)
                  · refine step_append_e byteET rfl (.tmp 58) (.tmp 61) rfl wr.heap.size (.slice (some ⟨g11, 0, none⟩) La c11) La za (by simp [Act.eval]) (HST13.out.own _ rfl) ⟨b13, 0, none⟩ [y] 1 1 (by simp [Act.eval]) rfl (HST13.out.lrd _ rfl) (by omega) (by omega) (by unfold maxLen; omega) HST13.out.gr.size ?_
                    intro g14 c14 W14 ho hg hgg
                    have HST14 : Hid (Mk9 wr W14 za La y (some s1) none none (some (g14, c14))) := HST13.out.apped ho hg HYA.out
                    refine hK.out _ _ (HFR.out.trans HST14.out.gr) (fun hHeld => ?_)
                    clear hK K ho hg hgg
                    clear HST13
                    (try simp only [Act.put]); (try simp only [List.setIfInBounds_toArray]); (try simp only [List.set_cons_succ]); (try simp only [List.set_cons_zero])
                    refine wpAnyH_ready (rs := [15]) (by kernel_rfl) (by simp) (AllReadyH.cons (i := 15) rfl (fun K hK => ?_) AllReadyH.nil)
                    · go_simp
                      refine (HSET.out W14 g14 c14 HST14.out.gr (HST14.out.done _ rfl)).mono ?_
                      rintro e W15 ⟨⟨u9, rfl⟩, hM⟩
                      have HM9 : Hid (ManyAt w W15 d mb sb (i + 1) za) := hM
                      refine hK.out _ _ (KvS.from_ hM) (fun hHeld => ?_)
                      clear hK K hM
                      clear HST14
                      (try simp only [Act.put]); (try simp only [List.setIfInBounds_toArray]); (try simp only [List.set_cons_succ]); (try simp only [List.set_cons_zero])
                      refine wpAnyH_take (i := 16) (v := .tuple #[u9, .int .i64 0]) rfl (by kernel_rfl) (by kernel_rfl) (by kernel_rfl) (fun _ _ _ h => h) (Or.inl ⟨by rfl, fun w hSw => ?_⟩) (by assumption) ?_
                      · go_simp
                      (try simp only [Act.put]); (try simp only [List.setIfInBounds_toArray]); (try simp only [List.set_cons_succ]); (try simp only [List.set_cons_zero])
                      refine wpAnyH_take (i := 17) (v := u9) rfl (by kernel_rfl) (by kernel_rfl) (by kernel_rfl) (fun _ _ _ h => h) (Or.inl ⟨by rfl, fun w hSw => ?_⟩) (by assumption) ?_
                      · go_simp
                      (try simp only [Act.put]); (try simp only [List.setIfInBounds_toArray]); (try simp only [List.set_cons_succ]); (try simp only [List.set_cons_zero])
                      refine wpAnyH_take (i := 18) (v := .int .i64 0) rfl (by kernel_rfl) (by kernel_rfl) (by kernel_rfl) (fun _ _ _ h => h) (Or.inl ⟨by rfl, fun w hSw => ?_⟩) (by assumption) ?_
                      · go_simp
                      (try simp only [Act.put]); (try simp only [List.setIfInBounds_toArray]); (try simp only [List.set_cons_succ]); (try simp only [List.set_cons_zero])
                      refine wpAnyH_ready (rs := [19]) (by kernel_rfl) (by simp) (AllReadyH.cons (i := 19) rfl (fun K hK => ?_) AllReadyH.nil)
                      go_simp
                      refine hK.out _ _ (KvS.from_ HM9.out) (fun hHeld => ?_)
                      clear hK K
                      (try simp only [Act.put]); (try simp only [List.setIfInBounds_toArray]); (try simp only [List.set_cons_succ]); (try simp only [List.set_cons_zero])
                      refine wpAnyH_ready (rs := [20]) (by kernel_rfl) (by simp) (AllReadyH.cons (i := 20) rfl (fun K hK => ?_) AllReadyH.nil)
                      go_simp
                      refine hK.out _ _ (KvS.from_ HM9.out) (fun hHeld => ?_)
                      clear hK K
                      (try simp only [Act.put]); (try simp only [List.setIfInBounds_toArray]); (try simp only [List.set_cons_succ]); (try simp only [List.set_cons_zero])
                      refine wpAnyH_done (by kernel_rfl) ?_ _
                      go_wp2
                      go_meet
                      case rel => exact ⟨rfl, HM9.out⟩
              · go_simp
                have HST16 : Hid (Mk9 wr (W11.alloc (.cells #[.int .u8 y] 5)) za La y (some s1) (some (g11, c11)) (some (W11.heap.size)) none) := HST11.out.byte HYB.out
                refine hK.out _ _ (HFR.out.trans HST16.out.gr) (fun hHeld => ?_)
                clear hK K
                generalize W11.alloc (.cells #[.int .u8 y] 5) = W16 at HST16 hHeld ⊢
                generalize W11.heap.size = b16 at HST16 ⊢
                clear HST11
                (try simp only [Act.put]); (try simp only [List.setIfInBounds_toArray]); (try simp only [List.set_cons_succ]); (try simp only [List.set_cons_zero])
                refine wpAnyH_ready (rs := [5, 11]) (by kernel_rfl) (by simp) (AllReadyH.cons (i := 5) rfl (fun K hK => ?_) (AllReadyH.cons (i := 11) rfl (fun K hK => ?_) AllReadyH.nil))
                · have z5 := HST16.out.cell HIX.out
                  go_simp
                  refine hK.out _ _ (HFR.out.trans HST16.out.gr) (fun hHeld => ?_)
                  clear hK K z5
                  (try simp only [Act.put]); (try simp only [List.setIfInBounds_toArray]); (try simp only [List.set_cons_succ]); (try simp only [List.set_cons_zero])
                  refine wpAnyH_ready (rs := [11]) (by kernel_rfl) (by simp) (AllReadyH.cons (i := 11) rfl (fun K hK => ?_) AllReadyH.nil)
                  · refine step_append_e byteET rfl (.tmp 58) (.tmp 61) rfl wr.heap.size (.slice (some ⟨g11, 0, none⟩) La c11) La za (by simp [Act.eval]) (HST16.out.own _ rfl) ⟨b16, 0, none⟩ [y] 1 1 (by simp [Act.eval]) rfl (HST16.out.lrd _ rfl) (by omega) (by omega) (by unfold maxLen; omega) HST16.out.gr.size ?_
                    intro g18 c18 W18 ho hg hgg
                    have HST18 : Hid (Mk9 wr W18 za La y (some s1) none none (some (g18, c18))) := HST16.out.apped ho hg HYA.out
                    refine hK.out _ _ (HFR.out.trans HST18.out.gr) (fun hHeld => ?_)
                    clear hK K ho hg hgg
                    clear HST16
                    (try simp only [Act.put]); (try simp only [List.setIfInBounds_toArray]); (try simp only [List.set_cons_succ]); (try simp only [List.set_cons_zero])
                    refine wpAnyH_ready (rs := [15]) (by kernel_rfl) (by simp) (AllReadyH.cons (i := 15) rfl (fun K hK => ?_) AllReadyH.nil)
                    · go_simp
                      refine (HSET.out W18 g18 c18 HST18.out.gr (HST18.out.done _ rfl)).mono ?_
                      rintro e W19 ⟨⟨u9, rfl⟩, hM⟩
                      have HM9 : Hid (ManyAt w W19 d mb sb (i + 1) za) := hM
                      refine hK.out _ _ (KvS.from_ hM) (fun hHeld => ?_)
                      clear hK K hM
                      clear HST18
                      (try simp only [Act.put]); (try simp only [List.setIfInBounds_toArray]); (try simp only [List.set_cons_succ]); (try simp only [List.set_cons_zero])
                      refine wpAnyH_take (i := 16) (v := .tuple #[u9, .int .i64 0]) rfl (by kernel_rfl) (by kernel_rfl) (by kernel_rfl) (fun _ _ _ h => h) (Or.inl ⟨by rfl, fun w hSw => ?_⟩) (by assumption) ?_
                      · go_simp
                      (try simp only [Act.put]); (try simp only [List.setIfInBounds_toArray]); (try simp only [List.set_cons_succ]); (try simp only [List.set_cons_zero])
                      refine wpAnyH_take (i := 17) (v := u9) rfl (by kernel_rfl) (by kernel_rfl) (by kernel_rfl) (fun _ _ _ h => h) (Or.inl ⟨by rfl, fun w hSw => ?_⟩) (by assumption) ?_
                      · go_simp
                      (try simp only [Act.put]); (try simp only [List.setIfInBounds_toArray]); (try simp only [List.set_cons_succ]); (try simp only [List.set_cons_zero])
                      refine wpAnyH_take (i := 18) (v := .int .i64 0) rfl (by kernel_rfl) (by kernel_rfl) (by kernel_rfl) (fun _ _ _ h => h) (Or.inl ⟨by rfl, fun w hSw => ?_⟩) (by assumption) ?_
                      · go_simp
                      (try simp only [Act.put]); (try simp only [List.setIfInBounds_toArray]); (try simp only [List.set_cons_succ]); (try simp only [List.set_cons_zero])
                      refine wpAnyH_ready (rs := [19]) (by kernel_rfl) (by simp) (AllReadyH.cons (i := 19) rfl (fun K hK => ?_) AllReadyH.nil)
                      go_simp
                      refine hK.out _ _ (KvS.from_ HM9.out) (fun hHeld => ?_)
                      clear hK K
                      (try simp only [Act.put]); (try simp only [List.setIfInBounds_toArray]); (try simp only [List.set_cons_succ]); (try simp only [List.set_cons_zero])
                      refine wpAnyH_ready (rs := [20]) (by kernel_rfl) (by simp) (AllReadyH.cons (i := 20) rfl (fun K hK => ?_) AllReadyH.nil)
                      go_simp
                      refine hK.out _ _ (KvS.from_ HM9.out) (fun hHeld => ?_)
                      clear hK K
                      (try simp only [Act.put]); (try simp only [List.setIfInBounds_toArray]); (try simp only [List.set_cons_succ]); (try simp only [List.set_cons_zero])
                      refine wpAnyH_done (by kernel_rfl) ?_ _
                      go_wp2
                      go_meet
                      case rel => exact ⟨rfl, HM9.out⟩
                · refine step_append_e byteET rfl (.tmp 58) (.tmp 61) rfl wr.heap.size (.slice (some ⟨g11, 0, none⟩) La c11) La za (by simp [Act.eval]) (HST16.out.own _ rfl) ⟨b16, 0, none⟩ [y] 1 1 (by simp [Act.eval]) rfl (HST16.out.lrd _ rfl) (by omega) (by omega) (by unfold maxLen; omega) HST16.out.gr.size ?_
                  intro g20 c20 W20 ho hg hgg
                  have HST20 : Hid (Mk9 wr W20 za La y (some s1) none none (some (g20, c20))) := HST16.out.apped ho hg HYA.out
                  refine hK.out _ _ (HFR.out.trans HST20.out.gr) (fun hHeld => ?_)
                  clear hK K ho hg hgg
                  clear HST16
                  (try simp only [Act.put]); (try simp only [List.setIfInBounds_toArray]); (try simp only [List.set_cons_succ]); (try simp only [List.set_cons_zero])
                  refine wpAnyH_ready (rs := [5]) (by kernel_rfl) (by simp) (AllReadyH.cons (i := 5) rfl (fun K hK => ?_) AllReadyH.nil)
                  · have z5 := HST20.out.cell HIX.out
                    go_simp
                    refine hK.out _ _ (HFR.out.trans HST20.out.gr) (fun hHeld => ?_)
                    clear hK K z5
                    (try simp only [Act.put]); (try simp only [List.setIfInBounds_toArray]); (try simp only [List.set_cons_succ]); (try simp only [List.set_cons_zero])
                    refine wpAnyH_ready (rs := [15]) (by kernel_rfl) (by simp) (AllReadyH.cons (i := 15) rfl (fun K hK => ?_) AllReadyH.nil)
                    · go_simp
                      refine (HSET.out W20 g20 c20 HST20.out.gr (HST20.out.done _ rfl)).mono ?_
                      rintro e W22 ⟨⟨u9, rfl⟩, hM⟩
                      have HM9 : Hid (ManyAt w W22 d mb sb (i + 1) za) := hM
                      refine hK.out _ _ (KvS.from_ hM) (fun hHeld => ?_)
                      clear hK K hM
                      clear HST20
                      (try simp only [Act.put]); (try simp only [List.setIfInBounds_toArray]); (try simp only [List.set_cons_succ]); (try simp only [List.set_cons_zero])
                      refine wpAnyH_take (i := 16) (v := .tuple #[u9, .int .i64 0]) rfl (by kernel_rfl) (by kernel_rfl) (by kernel_rfl) (fun _ _ _ h => h) (Or.inl ⟨by rfl, fun w hSw => ?_⟩) (by assumption) ?_
                      · go_simp
                      (try simp only [Act.put]); (try simp only [List.setIfInBounds_toArray]); (try simp only [List.set_cons_succ]); (try simp only [List.set_cons_zero])
                      refine wpAnyH_take (i := 17) (v := u9) rfl (by kernel_rfl) (by kernel_rfl) (by kernel_rfl) (fun _ _ _ h => h) (Or.inl ⟨by rfl, fun w hSw => ?_⟩) (by assumption) ?_
                      · go_simp
                      (try simp only [Act.put]); (try simp only [List.setIfInBounds_toArray]); (try simp only [List.set_cons_succ]); (try simp only [List.set_cons_zero])
                      refine wpAnyH_take (i := 18) (v := .int .i64 0) rfl (by kernel_rfl) (by kernel_rfl) (by kernel_rfl) (fun _ _ _ h => h) (Or.inl ⟨by rfl, fun w hSw => ?_⟩) (by assumption) ?_
                      · go_simp
                      (try simp only [Act.put]); (try simp only [List.setIfInBounds_toArray]); (try simp only [List.set_cons_succ]); (try simp only [List.set_cons_zero])
                      refine wpAnyH_ready (rs := [19]) (by kernel_rfl) (by simp) (AllReadyH.cons (i := 19) rfl (fun K hK => ?_) AllReadyH.nil)
                      go_simp
                      refine hK.out _ _ (KvS.from_ HM9.out) (fun hHeld => ?_)
                      clear hK K
                      (try simp only [Act.put]); (try simp only [List.setIfInBounds_toArray]); (try simp only [List.set_cons_succ]); (try simp only [List.set_cons_zero])
                      refine wpAnyH_ready (rs := [20]) (by kernel_rfl) (by simp) (AllReadyH.cons (i := 20) rfl (fun K hK => ?_) AllReadyH.nil)
                      go_simp
                      refine hK.out _ _ (KvS.from_ HM9.out) (fun hHeld => ?_)
                      clear hK K
                      (try simp only [Act.put]); (try simp only [List.setIfInBounds_toArray]); (try simp only [List.set_cons_succ]); (try simp only [List.set_cons_zero])
                      refine wpAnyH_done (by kernel_rfl) ?_ _
                      go_wp2
                      go_meet
                      case rel => exact ⟨rfl, HM9.out⟩
            · go_simp
              have HST23 : Hid (Mk9 wr (W1.alloc (.cells #[.int .u8 y] 5)) za La y (some s1) none (some (W1.heap.size)) none) := HST1.out.byte HYB.out
              refine hK.out _ _ (HFR.out.trans HST23.out.gr) (fun hHeld => ?_)
              clear hK K
              generalize W1.alloc (.cells #[.int .u8 y] 5) = W23 at HST23 hHeld ⊢
              generalize W1.heap.size = b23 at HST23 ⊢
              clear HST1
              (try simp only [Act.put]); (try simp only [List.setIfInBounds_toArray]); (try simp only [List.set_cons_succ]); (try simp only [List.set_cons_zero])
              refine wpAnyH_ready (rs := [5, 7]) (by kernel_rfl) (by simp) (AllReadyH.cons (i := 5) rfl (fun K hK => ?_) (AllReadyH.cons (i := 7) rfl (fun K hK => ?_) AllReadyH.nil))
              · have z5 := HST23.out.cell HIX.out
                go_simp
                refine hK.out _ _ (HFR.out.trans HST23.out.gr) (fun hHeld => ?_)
                clear hK K z5
                (try simp only [Act.put]); (try simp only [List.setIfInBounds_toArray]); (try simp only [List.set_cons_succ]); (try simp only [List.set_cons_zero])
                refine wpAnyH_ready (rs := [7]) (by kernel_rfl) (by simp) (AllReadyH.cons (i := 7) rfl (fun K hK => ?_) AllReadyH.nil)
                · go_simp
                  refine (HCA.out W23 (HFR.out.trans HST23.out.gr)).mono ?_
                  rintro e W25 ⟨g25, c25, rfl, ho, hg⟩
                  have HST25 : Hid (Mk9 wr W25 za La y (some s1) (some (g25, c25)) (some b23) none) := HST23.out.copied ho hg
                  refine hK.out _ _ (HFR.out.trans HST25.out.gr) (fun hHeld => ?_)
                  clear hK K ho hg
                  clear HST23
                  (try simp only [Act.put]); (try simp only [List.setIfInBounds_toArray]); (try simp only [List.set_cons_succ]); (try simp only [List.set_cons_zero])
                  refine wpAnyH_ready (rs := [11]) (by kernel_rfl) (by simp) (AllReadyH.cons (i := 11) rfl (fun K hK => ?_) AllReadyH.nil)
                  · refine step_append_e byteET rfl (.tmp 58) (.tmp 61) rfl wr.heap.size (.slice (some ⟨g25, 0, none⟩) La c25) La za (by simp [Act.eval]) (HST25.out.own _ rfl) ⟨b23, 0, none⟩ [y] 1 1 (by simp [Act.eval]) rfl (HST25.out.lrd _ rfl) (by omega) (by omega) (by unfold maxLen; omega) HST25.out.gr.size ?_
                    intro g26 c26 W26 ho hg hgg
                    have HST26 : Hid (Mk9 wr W26 za La y (some s1) none none (some (g26, c26))) := HST25.out.apped ho hg HYA.out
                    refine hK.out _ _ (HFR.out.trans HST26.out.gr) (fun hHeld => ?_)
                    clear hK K ho hg hgg
                    clear HST25
                    (try simp only [Act.put]); (try simp only [List.setIfInBounds_toArray]); (try simp only [List.set_cons_succ]); (try simp only [List.set_cons_zero])
                    refine wpAnyH_ready (rs := [15]) (by kernel_rfl) (by simp) (AllReadyH.cons (i := 15) rfl (fun K hK => ?_) AllReadyH.nil)
                    · go_simp
                      refine (HSET.out W26 g26 c26 HST26.out.gr (HST26.out.done _ rfl)).mono ?_
                      rintro e W27 ⟨⟨u9, rfl⟩, hM⟩
                      have HM9 : Hid (ManyAt w W27 d mb sb (i + 1) za) := hM
                      refine hK.out _ _ (KvS.from_ hM) (fun hHeld => ?_)
                      clear hK K hM
                      clear HST26
                      (try simp only [Act.put]); (try simp only [List.setIfInBounds_toArray]); (try simp only [List.set_cons_succ]); (try simp only [List.set_cons_zero])
                      refine wpAnyH_take (i := 16) (v := .tuple #[u9, .int .i64 0]) rfl (by kernel_rfl) (by kernel_rfl) (by kernel_rfl) (fun _ _ _ h => h) (Or.inl ⟨by rfl, fun w hSw => ?_⟩) (by assumption) ?_
                      · go_simp
                      (try simp only [Act.put]); (try simp only [List.setIfInBounds_toArray]); (try simp only [List.set_cons_succ]); (try simp only [List.set_cons_zero])
                      refine wpAnyH_take (i := 17) (v := u9) rfl (by kernel_rfl) (by kernel_rfl) (by kernel_rfl) (fun _ _ _ h => h) (Or.inl ⟨by rfl, fun w hSw => ?_⟩) (by assumption) ?_
                      · go_simp
                      (try simp only [Act.put]); (try simp only [List.setIfInBounds_toArray]); (try simp only [List.set_cons_succ]); (try simp only [List.set_cons_zero])
                      refine wpAnyH_take (i := 18) (v := .int .i64 0) rfl (by kernel_rfl) (by kernel_rfl) (by kernel_rfl) (fun _ _ _ h => h) (Or.inl ⟨by rfl, fun w hSw => ?_⟩) (by assumption) ?_
                      · go_simp
                      (try simp only [Act.put]); (try simp only [List.setIfInBounds_toArray]); (try simp only [List.set_cons_succ]); (try simp only [List.set_cons_zero])
                      refine wpAnyH_ready (rs := [19]) (by kernel_rfl) (by simp) (AllReadyH.cons (i := 19) rfl (fun K hK => ?_) AllReadyH.nil)
                      go_simp
                      refine hK.out _ _ (KvS.from_ HM9.out) (fun hHeld => ?_)
                      clear hK K
                      (try simp only [Act.put]); (try simp only [List.setIfInBounds_toArray]); (try simp only [List.set_cons_succ]); (try simp only [List.set_cons_zero])
                      refine wpAnyH_ready (rs := [20]) (by kernel_rfl) (by simp) (AllReadyH.cons (i := 20) rfl (fun K hK => ?_) AllReadyH.nil)
                      go_simp
                      refine hK.out _ _ (KvS.from_ HM9.out) (fun hHeld => ?_)
                      clear hK K
                      (try simp only [Act.put]); (try simp only [List.setIfInBounds_toArray]); (try simp only [List.set_cons_succ]); (try simp only [List.set_cons_zero])
                      refine wpAnyH_done (by kernel_rfl) ?_ _
                      go_wp2
                      go_meet
                      case rel => exact ⟨rfl, HM9.out⟩
              · go_simp
                refine (HCA.out W23 (HFR.out.trans HST23.out.gr)).mono ?_
                rintro e W28 ⟨g28, c28, rfl, ho, hg⟩
                have HST28 : Hid (Mk9 wr W28 za La y (some s1) (some (g28, c28)) (some b23) none) := HST23.out.copied ho hg
                refine hK.out _ _ (HFR.out.trans HST28.out.gr) (fun hHeld => ?_)
                clear hK K ho hg
                clear HST23
                (try simp only [Act.put]); (try simp only [List.setIfInBounds_toArray]); (try simp only [List.set_cons_succ]); (try simp only [List.set_cons_zero])
                refine wpAnyH_ready (rs := [5, 11]) (by kernel_rfl) (by simp) (AllReadyH.cons (i := 5) rfl (fun K hK => ?_) (AllReadyH.cons (i := 11) rfl (fun K hK => ?_) AllReadyH.nil))
                · have z5 := HST28.out.cell HIX.out
                  go_simp
                  refine hK.out _ _ (HFR.out.trans HST28.out.gr) (fun hHeld => ?_)
                  clear hK K z5
                  (try simp only [Act.put]); (try simp only [List.setIfInBounds_toArray]); (try simp only [List.set_cons_succ]); (try simp only [List.set_cons_zero])
                  refine wpAnyH_ready (rs := [11]) (by kernel_rfl) (by simp) (AllReadyH.cons (i := 11) rfl (fun K hK => ?_) AllReadyH.nil)
                  · refine step_append_e byteET rfl (.tmp 58) (.tmp 61) rfl wr.heap.size (.slice (some ⟨g28, 0, none⟩) La c28) La za (by simp [Act.eval]) (HST28.out.own _ rfl) ⟨b23, 0, none⟩ [y] 1 1 (by simp [Act.eval]) rfl (HST28.out.lrd _ rfl) (by omega) (by omega) (by unfold maxLen; omega) HST28.out.gr.size ?_
                    intro g30 c30 W30 ho hg hgg
                    have HST30 : Hid (Mk9 wr W30 za La y (some s1) none none (some (g30, c30))) := HST28.out.apped ho hg HYA.out
                    refine hK.out _ _ (HFR.out.trans HST30.out.gr) (fun hHeld => ?_)
                    clear hK K ho hg hgg
                    clear HST28
                    (try simp only [Act.put]); (try simp only [List.setIfInBounds_toArray]); (try simp only [List.set_cons_succ]); (try simp only [List.set_cons_zero])
                    refine wpAnyH_ready (rs := [15]) (by kernel_rfl) (by simp) (AllReadyH.cons (i := 15) rfl (fun K hK => ?_) AllReadyH.nil)
                    · go_simp
                      refine (HSET.out W30 g30 c30 HST30.out.gr (HST30.out.done _ rfl)).mono ?_
                      rintro e W31 ⟨⟨u9, rfl⟩, hM⟩
                      have HM9 : Hid (ManyAt w W31 d mb sb (i + 1) za) := hM
                      refine hK.out _ _ (KvS.from_ hM) (fun hHeld => ?_)
                      clear hK K hM
                      clear HST30
                      (try simp only [Act.put]); (try simp only [List.setIfInBounds_toArray]); (try simp only [List.set_cons_succ]); (try simp only [List.set_cons_zero])
                      refine wpAnyH_take (i := 16) (v := .tuple #[u9, .int .i64 0]) rfl (by kernel_rfl) (by kernel_rfl) (by kernel_rfl) (fun _ _ _ h => h) (Or.inl ⟨by rfl, fun w hSw => ?_⟩) (by assumption) ?_
                      · go_simp
                      (try simp only [Act.put]); (try simp only [List.setIfInBounds_toArray]); (try simp only [List.set_cons_succ]); (try simp only [List.set_cons_zero])
                      refine wpAnyH_take (i := 17) (v := u9) rfl (by kernel_rfl) (by kernel_rfl) (by kernel_rfl) (fun _ _ _ h => h) (Or.inl ⟨by rfl, fun w hSw => ?_⟩) (by assumption) ?_
                      · go_simp
                      (try simp only [Act.put]); (try simp only [List.setIfInBounds_toArray]); (try simp only [List.set_cons_succ]); (try simp only [List.set_cons_zero])
                      refine wpAnyH_take (i := 18) (v := .int .i64 0) rfl (by kernel_rfl) (by kernel_rfl) (by kernel_rfl) (fun _ _ _ h => h) (Or.inl ⟨by rfl, fun w hSw => ?_⟩) (by assumption) ?_
                      · go_simp
                      (try simp only [Act.put]); (try simp only [List.setIfInBounds_toArray]); (try simp only [List.set_cons_succ]); (try simp only [List.set_cons_zero])
                      refine wpAnyH_ready (rs := [19]) (by kernel_rfl) (by simp) (AllReadyH.cons (i := 19) rfl (fun K hK => ?_) AllReadyH.nil)
                      go_simp
                      refine hK.out _ _ (KvS.from_ HM9.out) (fun hHeld => ?_)
                      clear hK K
                      (try simp only [Act.put]); (try simp only [List.setIfInBounds_toArray]); (try simp only [List.set_cons_succ]); (try simp only [List.set_cons_zero])
                      refine wpAnyH_ready (rs := [20]) (by kernel_rfl) (by simp) (AllReadyH.cons (i := 20) rfl (fun K hK => ?_) AllReadyH.nil)
                      go_simp
                      refine hK.out _ _ (KvS.from_ HM9.out) (fun hHeld => ?_)
                      clear hK K
                      (try simp only [Act.put]); (try simp only [List.setIfInBounds_toArray]); (try simp only [List.set_cons_succ]); (try simp only [List.set_cons_zero])
                      refine wpAnyH_done (by kernel_rfl) ?_ _
                      go_wp2
                      go_meet
                      case rel => exact ⟨rfl, HM9.out⟩
                · refine step_append_e byteET rfl (.tmp 58) (.tmp 61) rfl wr.heap.size (.slice (some ⟨g28, 0, none⟩) La c28) La za (by simp [Act.eval]) (HST28.out.own _ rfl) ⟨b23, 0, none⟩ [y] 1 1 (by simp [Act.eval]) rfl (HST28.out.lrd _ rfl) (by omega) (by omega) (by unfold maxLen; omega) HST28.out.gr.size ?_
                  intro g32 c32 W32 ho hg hgg
                  have HST32 : Hid (Mk9 wr W32 za La y (some s1) none none (some (g32, c32))) := HST28.out.apped ho hg HYA.out
                  refine hK.out _ _ (HFR.out.trans HST32.out.gr) (fun hHeld => ?_)
                  clear hK K ho hg hgg
                  clear HST28
                  (try simp only [Act.put]); (try simp only [List.setIfInBounds_toArray]); (try simp only [List.set_cons_succ]); (try simp only [List.set_cons_zero])
                  refine wpAnyH_ready (rs := [5]) (by kernel_rfl) (by simp) (AllReadyH.cons (i := 5) rfl (fun K hK => ?_) AllReadyH.nil)
                  · have z5 := HST32.out.cell HIX.out
                    go_simp
                    refine hK.out _ _ (HFR.out.trans HST32.out.gr) (fun hHeld => ?_)
                    clear hK K z5
                    (try simp only [Act.put]); (try simp only [List.setIfInBounds_toArray]); (try simp only [List.set_cons_succ]); (try simp only [List.set_cons_zero])
                    refine wpAnyH_ready (rs := [15]) (by kernel_rfl) (by simp) (AllReadyH.cons (i := 15) rfl (fun K hK => ?_) AllReadyH.nil)
                    · go_simp
                      refine (HSET.out W32 g32 c32 HST32.out.gr (HST32.out.done _ rfl)).mono ?_
                      rintro e W34 ⟨⟨u9, rfl⟩, hM⟩
                      have HM9 : Hid (ManyAt w W34 d mb sb (i + 1) za) := hM
                      refine hK.out _ _ (KvS.from_ hM) (fun hHeld => ?_)
                      clear hK K hM
                      clear HST32
                      (try simp only [Act.put]); (try simp only [List.setIfInBounds_toArray]); (try simp only [List.set_cons_succ]); (try simp only [List.set_cons_zero])
                      refine wpAnyH_take (i := 16) (v := .tuple #[u9, .int .i64 0]) rfl (by kernel_rfl) (by kernel_rfl) (by kernel_rfl) (fun _ _ _ h => h) (Or.inl ⟨by rfl, fun w hSw => ?_⟩) (by assumption) ?_
                      · go_simp
                      (try simp only [Act.put]); (try simp only [List.setIfInBounds_toArray]); (try simp only [List.set_cons_succ]); (try simp only [List.set_cons_zero])
                      refine wpAnyH_take (i := 17) (v := u9) rfl (by kernel_rfl) (by kernel_rfl) (by kernel_rfl) (fun _ _ _ h => h) (Or.inl ⟨by rfl, fun w hSw => ?_⟩) (by assumption) ?_
                      · go_simp
                      (try simp only [Act.put]); (try simp only [List.setIfInBounds_toArray]); (try simp only [List.set_cons_succ]); (try simp only [List.set_cons_zero])
                      refine wpAnyH_take (i := 18) (v := .int .i64 0) rfl (by kernel_rfl) (by kernel_rfl) (by kernel_rfl) (fun _ _ _ h => h) (Or.inl ⟨by rfl, fun w hSw => ?_⟩) (by assumption) ?_
                      · go_simp
                      (try simp only [Act.put]); (try simp only [List.setIfInBounds_toArray]); (try simp only [List.set_cons_succ]); (try simp only [List.set_cons_zero])
                      refine wpAnyH_ready (rs := [19]) (by kernel_rfl) (by simp) (AllReadyH.cons (i := 19) rfl (fun K hK => ?_) AllReadyH.nil)
                      go_simp
                      refine hK.out _ _ (KvS.from_ HM9.out) (fun hHeld => ?_)
                      clear hK K
                      (try simp only [Act.put]); (try simp only [List.setIfInBounds_toArray]); (try simp only [List.set_cons_succ]); (try simp only [List.set_cons_zero])
                      refine wpAnyH_ready (rs := [20]) (by kernel_rfl) (by simp) (AllReadyH.cons (i := 20) rfl (fun K hK => ?_) AllReadyH.nil)
                      go_simp
                      refine hK.out _ _ (KvS.from_ HM9.out) (fun hHeld => ?_)
                      clear hK K
                      (try simp only [Act.put]); (try simp only [List.setIfInBounds_toArray]); (try simp only [List.set_cons_succ]); (try simp only [List.set_cons_zero])
                      refine wpAnyH_done (by kernel_rfl) ?_ _
                      go_wp2
                      go_meet
                      case rel => exact ⟨rfl, HM9.out⟩
          · go_simp
            refine (HCA.out W0 (HFR.out.trans HST0.out.gr)).mono ?_
            rintro e W35 ⟨g35, c35, rfl, ho, hg⟩
            have HST35 : Hid (Mk9 wr W35 za La y none (some (g35, c35)) none none) := HST0.out.copied ho hg
            refine hK.out _ _ (HFR.out.trans HST35.out.gr) (fun hHeld => ?_)
            clear hK K ho hg
            clear HST0
            (try simp only [Act.put]); (try simp only [List.setIfInBounds_toArray]); (try simp only [List.set_cons_succ]); (try simp only [List.set_cons_zero])
            refine wpAnyH_ready (rs := [1, 10]) (by kernel_rfl) (by simp) (AllReadyH.cons (i := 1) rfl (fun K hK => ?_) (AllReadyH.cons (i := 10) rfl (fun K hK => ?_) AllReadyH.nil))
            · go_simp
              have HST36 : Hid (Mk9 wr (W35.alloc (.cells #[.string ⟨#[97]⟩, .string ⟨#[98]⟩] 9)) za La y (some (W35.heap.size)) (some (g35, c35)) none none) := HST35.out.strs
              refine hK.out _ _ (HFR.out.trans HST36.out.gr) (fun hHeld => ?_)
              clear hK K
              generalize W35.alloc (.cells #[.string ⟨#[97]⟩, .string ⟨#[98]⟩] 9) = W36 at HST36 hHeld ⊢
              generalize W35.heap.size = s36 at HST36 ⊢
              clear HST35
              (try simp only [Act.put]); (try simp only [List.setIfInBounds_toArray]); (try simp only [List.set_cons_succ]); (try simp only [List.set_cons_zero])
              refine wpAnyH_take (i := 4) (v := .pointer (some ⟨s36, ix, none⟩)) rfl (by kernel_rfl) (by kernel_rfl) (by kernel_rfl) (fun _ _ _ h => h) (Or.inl ⟨by rfl, fun w hSw => ?_⟩) (by assumption) ?_
              · go_simp
              (try simp only [Act.put]); (try simp only [List.setIfInBounds_toArray]); (try simp only [List.set_cons_succ]); (try simp only [List.set_cons_zero])
              refine wpAnyH_ready (rs := [5, 10]) (by kernel_rfl) (by simp) (AllReadyH.cons (i := 5) rfl (fun K hK => ?_) (AllReadyH.cons (i := 10) rfl (fun K hK => ?_) AllReadyH.nil))
              · have z5 := HST36.out.cell HIX.out
                go_simp
                refine hK.out _ _ (HFR.out.trans HST36.out.gr) (fun hHeld => ?_)
                clear hK K z5
                (try simp only [Act.put]); (try simp only [List.setIfInBounds_toArray]); (try simp only [List.set_cons_succ]); (try simp only [List.set_cons_zero])
                refine wpAnyH_ready (rs := [10]) (by kernel_rfl) (by simp) (AllReadyH.cons (i := 10) rfl (fun K hK => ?_) AllReadyH.nil)
                · go_simp
                  have HST38 : Hid (Mk9 wr (W36.alloc (.cells #[.int .u8 y] 5)) za La y (some s36) (some (g35, c35)) (some (W36.heap.size)) none) := HST36.out.byte HYB.out
                  refine hK.out _ _ (HFR.out.trans HST38.out.gr) (fun hHeld => ?_)
                  clear hK K
                  generalize W36.alloc (.cells #[.int .u8 y] 5) = W38 at HST38 hHeld ⊢
                  generalize W36.heap.size = b38 at HST38 ⊢
                  clear HST36
                  (try simp only [Act.put]); (try simp only [List.setIfInBounds_toArray]); (try simp only [List.set_cons_succ]); (try simp only [List.set_cons_zero])
                  refine wpAnyH_ready (rs := [11]) (by kernel_rfl) (by simp) (AllReadyH.cons (i := 11) rfl (fun K hK => ?_) AllReadyH.nil)
                  · refine step_append_e byteET rfl (.tmp 58) (.tmp 61) rfl wr.heap.size (.slice (some ⟨g35, 0, none⟩) La c35) La za (by simp [Act.eval]) (HST38.out.own _ rfl) ⟨b38, 0, none⟩ [y] 1 1 (by simp [Act.eval]) rfl (HST38.out.lrd _ rfl) (by omega) (by omega) (by unfold maxLen; omega) HST38.out.gr.size ?_
                    intro g39 c39 W39 ho hg hgg
                    have HST39 : Hid (Mk9 wr W39 za La y (some s36) none none (some (g39, c39))) := HST38.out.apped ho hg HYA.out
                    refine hK.out _ _ (HFR.out.trans HST39.out.gr) (fun hHeld => ?_)
                    clear hK K ho hg hgg
                    clear HST38
                    (try simp only [Act.put]); (try simp only [List.setIfInBounds_toArray]); (try simp only [List.set_cons_succ]); (try simp only [List.set_cons_zero])
                    refine wpAnyH_ready (rs := [15]) (by kernel_rfl) (by simp) (AllReadyH.cons (i := 15) rfl (fun K hK => ?_) AllReadyH.nil)
                    · go_simp
                      refine (HSET.out W39 g39 c39 HST39.out.gr (HST39.out.done _ rfl)).mono ?_
                      rintro e W40 ⟨⟨u9, rfl⟩, hM⟩
                      have HM9 : Hid (ManyAt w W40 d mb sb (i + 1) za) := hM
                      refine hK.out _ _ (KvS.from_ hM) (fun hHeld => ?_)
                      clear hK K hM
                      clear HST39
                      (try simp only [Act.put]); (try simp only [List.setIfInBounds_toArray]); (try simp only [List.set_cons_succ]); (try simp only [List.set_cons_zero])
                      refine wpAnyH_take (i := 16) (v := .tuple #[u9, .int .i64 0]) rfl (by kernel_rfl) (by kernel_rfl) (by kernel_rfl) (fun _ _ _ h => h) (Or.inl ⟨by rfl, fun w hSw => ?_⟩) (by assumption) ?_
                      · go_simp
                      (try simp only [Act.put]); (try simp only [List.setIfInBounds_toArray]); (try simp only [List.set_cons_succ]); (try simp only [List.set_cons_zero])
                      refine wpAnyH_take (i := 17) (v := u9) rfl (by kernel_rfl) (by kernel_rfl) (by kernel_rfl) (fun _ _ _ h => h) (Or.inl ⟨by rfl, fun w hSw => ?_⟩) (by assumption) ?_
                      · go_simp
                      (try simp only [Act.put]); (try simp only [List.setIfInBounds_toArray]); (try simp only [List.set_cons_succ]); (try simp only [List.set_cons_zero])
                      refine wpAnyH_take (i := 18) (v := .int .i64 0) rfl (by kernel_rfl) (by kernel_rfl) (by kernel_rfl) (fun _ _ _ h => h) (Or.inl ⟨by rfl, fun w hSw => ?_⟩) (by assumption) ?_
                      · go_simp
                      (try simp only [Act.put]); (try simp only [List.setIfInBounds_toArray]); (try simp only [List.set_cons_succ]); (try simp only [List.set_cons_zero])
                      refine wpAnyH_ready (rs := [19]) (by kernel_rfl) (by simp) (AllReadyH.cons (i := 19) rfl (fun K hK => ?_) AllReadyH.nil)
                      go_simp
                      refine hK.out _ _ (KvS.from_ HM9.out) (fun hHeld => ?_)
                      clear hK K
                      (try simp only [Act.put]); (try simp only [List.setIfInBounds_toArray]); (try simp only [List.set_cons_succ]); (try simp only [List.set_cons_zero])
                      refine wpAnyH_ready (rs := [20]) (by kernel_rfl) (by simp) (AllReadyH.cons (i := 20) rfl (fun K hK => ?_) AllReadyH.nil)
                      go_simp
                      refine hK.out _ _ (KvS.from_ HM9.out) (fun hHeld => ?_)
                      clear hK K
                      (try simp only [Act.put]); (try simp only [List.setIfInBounds_toArray]); (try simp only [List.set_cons_succ]); (try simp only [List.set_cons_zero])
                      refine wpAnyH_done (by kernel_rfl) ?_ _
                      go_wp2
                      go_meet
                      case rel => exact ⟨rfl, HM9.out⟩
              · go_simp
                have HST41 : Hid (Mk9 wr (W36.alloc (.cells #[.int .u8 y] 5)) za La y (some s36) (some (g35, c35)) (some (W36.heap.size)) none) := HST36.out.byte HYB.out
                refine hK.out _ _ (HFR.out.trans HST41.out.gr) (fun hHeld => ?_)
                clear hK K
                generalize W36.alloc (.cells #[.int .u8 y] 5) = W41 at HST41 hHeld ⊢
                generalize W36.heap.size = b41 at HST41 ⊢
                clear HST36
                (try simp only [Act.put]); (try simp only [List.setIfInBounds_toArray]); (try simp only [List.set_cons_succ]); (try simp only [List.set_cons_zero])
                refine wpAnyH_ready (rs := [5, 11]) (by kernel_rfl) (by simp) (AllReadyH.cons (i := 5) rfl (fun K hK => ?_) (AllReadyH.cons (i := 11) rfl (fun K hK => ?_) AllReadyH.nil))
                · have z5 := HST41.out.cell HIX.out
                  go_simp
                  refine hK.out _ _ (HFR.out.trans HST41.out.gr) (fun hHeld => ?_)
                  clear hK K z5
                  (try simp only [Act.put]); (try simp only [List.setIfInBounds_toArray]); (try simp only [List.set_cons_succ]); (try simp only [List.set_cons_zero])
                  refine wpAnyH_ready (rs := [11]) (by kernel_rfl) (by simp) (AllReadyH.cons (i := 11) rfl (fun K hK => ?_) AllReadyH.nil)
                  · refine step_append_e byteET rfl (.tmp 58) (.tmp 61) rfl wr.heap.size (.slice (some ⟨g35, 0, none⟩) La c35) La za (by simp [Act.eval]) (HST41.out.own _ rfl) ⟨b41, 0, none⟩ [y] 1 1 (by simp [Act.eval]) rfl (HST41.out.lrd _ rfl) (by omega) (by omega) (by unfold maxLen; omega) HST41.out.gr.size ?_
                    intro g43 c43 W43 ho hg hgg
                    have HST43 : Hid (Mk9 wr W43 za La y (some s36) none none (some (g43, c43))) := HST41.out.apped ho hg HYA.out
                    refine hK.out _ _ (HFR.out.trans HST43.out.gr) (fun hHeld => ?_)
                    clear hK K ho hg hgg
                    clear HST41
                    (try simp only [Act.put]); (try simp only [List.setIfInBounds_toArray]); (try simp only [List.set_cons_succ]); (try simp only [List.set_cons_zero])
                    refine wpAnyH_ready (rs := [15]) (by kernel_rfl) (by simp) (AllReadyH.cons (i := 15) rfl (fun K hK => ?_) AllReadyH.nil)
                    · go_simp
                      refine (HSET.out W43 g43 c43 HST43.out.gr (HST43.out.done _ rfl)).mono ?_
                      rintro e W44 ⟨⟨u9, rfl⟩, hM⟩
                      have HM9 : Hid (ManyAt w W44 d mb sb (i + 1) za) := hM
                      refine hK.out _ _ (KvS.from_ hM) (fun hHeld => ?_)
                      clear hK K hM
                      clear HST43
                      (try simp only [Act.put]); (try simp only [List.setIfInBounds_toArray]); (try simp only [List.set_cons_succ]); (try simp only [List.set_cons_zero])
                      refine wpAnyH_take (i := 16) (v := .tuple #[u9, .int .i64 0]) rfl (by kernel_rfl) (by kernel_rfl) (by kernel_rfl) (fun _ _ _ h => h) (Or.inl ⟨by rfl, fun w hSw => ?_⟩) (by assumption) ?_
                      · go_simp
                      (try simp only [Act.put]); (try simp only [List.setIfInBounds_toArray]); (try simp only [List.set_cons_succ]); (try simp only [List.set_cons_zero])
                      refine wpAnyH_take (i := 17) (v := u9) rfl (by kernel_rfl) (by kernel_rfl) (by kernel_rfl) (fun _ _ _ h => h) (Or.inl ⟨by rfl, fun w hSw => ?_⟩) (by assumption) ?_
                      · go_simp
                      (try simp only [Act.put]); (try simp only [List.setIfInBounds_toArray]); (try simp only [List.set_cons_succ]); (try simp only [List.set_cons_zero])
                      refine wpAnyH_take (i := 18) (v := .int .i64 0) rfl (by kernel_rfl) (by kernel_rfl) (by kernel_rfl) (fun _ _ _ h => h) (Or.inl ⟨by rfl, fun w hSw => ?_⟩) (by assumption) ?_
                      · go_simp
                      (try simp only [Act.put]); (try simp only [List.setIfInBounds_toArray]); (try simp only [List.set_cons_succ]); (try simp only [List.set_cons_zero])
                      refine wpAnyH_ready (rs := [19]) (by kernel_rfl) (by simp) (AllReadyH.cons (i := 19) rfl (fun K hK => ?_) AllReadyH.nil)
                      go_simp
                      refine hK.out _ _ (KvS.from_ HM9.out) (fun hHeld => ?_)
                      clear hK K
                      (try simp only [Act.put]); (try simp only [List.setIfInBounds_toArray]); (try simp only [List.set_cons_succ]); (try simp only [List.set_cons_zero])
                      refine wpAnyH_ready (rs := [20]) (by kernel_rfl) (by simp) (AllReadyH.cons (i := 20) rfl (fun K hK => ?_) AllReadyH.nil)
                      go_simp
                      refine hK.out _ _ (KvS.from_ HM9.out) (fun hHeld => ?_)
                      clear hK K
                      (try simp only [Act.put]); (try simp only [List.setIfInBounds_toArray]); (try simp only [List.set_cons_succ]); (try simp only [List.set_cons_zero])
                      refine wpAnyH_done (by kernel_rfl) ?_ _
                      go_wp2
                      go_meet
                      case rel => exact ⟨rfl, HM9.out⟩
                · refine step_append_e byteET rfl (.tmp 58) (.tmp 61) rfl wr.heap.size (.slice (some ⟨g35, 0, none⟩) La c35) La za (by simp [Act.eval]) (HST41.out.own _ rfl) ⟨b41, 0, none⟩ [y] 1 1 (by simp [Act.eval]) rfl (HST41.out.lrd _ rfl) (by omega) (by omega) (by unfold maxLen; omega) HST41.out.gr.size ?_
                  intro g45 c45 W45 ho hg hgg
                  have HST45 : Hid (Mk9 wr W45 za La y (some s36) none none (some (g45, c45))) := HST41.out.apped ho hg HYA.out
                  refine hK.out _ _ (HFR.out.trans HST45.out.gr) (fun hHeld => ?_)
                  clear hK K ho hg hgg
                  clear HST41
                  (try simp only [Act.put]); (try simp only [List.setIfInBounds_toArray]); (try simp only [List.set_cons_succ]); (try simp only [List.set_cons_zero])
                  refine wpAnyH_ready (rs := [5]) (by kernel_rfl) (by simp) (AllReadyH.cons (i := 5) rfl (fun K hK => ?_) AllReadyH.nil)
                  · have z5 := HST45.out.cell HIX.out
                    go_simp
                    refine hK.out _ _ (HFR.out.trans HST45.out.gr) (fun hHeld => ?_)
                    clear hK K z5
                    (try simp only [Act.put]); (try simp only [List.setIfInBounds_toArray]); (try simp only [List.set_cons_succ]); (try simp only [List.set_cons_zero])
                    refine wpAnyH_ready (rs := [15]) (by kernel_rfl) (by simp) (AllReadyH.cons (i := 15) rfl (fun K hK => ?_) AllReadyH.nil)
                    · go_simp
                      refine (HSET.out W45 g45 c45 HST45.out.gr (HST45.out.done _ rfl)).mono ?_
                      rintro e W47 ⟨⟨u9, rfl⟩, hM⟩
                      have HM9 : Hid (ManyAt w W47 d mb sb (i + 1) za) := hM
                      refine hK.out _ _ (KvS.from_ hM) (fun hHeld => ?_)
                      clear hK K hM
                      clear HST45
                      (try simp only [Act.put]); (try simp only [List.setIfInBounds_toArray]); (try simp only [List.set_cons_succ]); (try simp only [List.set_cons_zero])
                      refine wpAnyH_take (i := 16) (v := .tuple #[u9, .int .i64 0]) rfl (by kernel_rfl) (by kernel_rfl) (by kernel_rfl) (fun _ _ _ h => h) (Or.inl ⟨by rfl, fun w hSw => ?_⟩) (by assumption) ?_
                      · go_simp
                      (try simp only [Act.put]); (try simp only [List.setIfInBounds_toArray]); (try simp only [List.set_cons_succ]); (try simp only [List.set_cons_zero])
                      refine wpAnyH_take (i := 17) (v := u9) rfl (by kernel_rfl) (by kernel_rfl) (by kernel_rfl) (fun _ _ _ h => h) (Or.inl ⟨by rfl, fun w hSw => ?_⟩) (by assumption) ?_
                      · go_simp
                      (try simp only [Act.put]); (try simp only [List.setIfInBounds_toArray]); (try simp only [List.set_cons_succ]); (try simp only [List.set_cons_zero])
                      refine wpAnyH_take (i := 18) (v := .int .i64 0) rfl (by kernel_rfl) (by kernel_rfl) (by kernel_rfl) (fun _ _ _ h => h) (Or.inl ⟨by rfl, fun w hSw => ?_⟩) (by assumption) ?_
                      · go_simp
                      (try simp only [Act.put]); (try simp only [List.setIfInBounds_toArray]); (try simp only [List.set_cons_succ]); (try simp only [List.set_cons_zero])
                      refine wpAnyH_ready (rs := [19]) (by kernel_rfl) (by simp) (AllReadyH.cons (i := 19) rfl (fun K hK => ?_) AllReadyH.nil)
                      go_simp
                      refine hK.out _ _ (KvS.from_ HM9.out) (fun hHeld => ?_)
                      clear hK K
                      (try simp only [Act.put]); (try simp only [List.setIfInBounds_toArray]); (try simp only [List.set_cons_succ]); (try simp only [List.set_cons_zero])
                      refine wpAnyH_ready (rs := [20]) (by kernel_rfl) (by simp) (AllReadyH.cons (i := 20) rfl (fun K hK => ?_) AllReadyH.nil)
                      go_simp
                      refine hK.out _ _ (KvS.from_ HM9.out) (fun hHeld => ?_)
                      clear hK K
                      (try simp only [Act.put]); (try simp only [List.setIfInBounds_toArray]); (try simp only [List.set_cons_succ]); (try simp only [List.set_cons_zero])
                      refine wpAnyH_done (by kernel_rfl) ?_ _
                      go_wp2
                      go_meet
                      case rel => exact ⟨rfl, HM9.out⟩
            · go_simp
              have HST48 : Hid (Mk9 wr (W35.alloc (.cells #[.int .u8 y] 5)) za La y none (some (g35, c35)) (some (W35.heap.size)) none) := HST35.out.byte HYB.out
              refine hK.out _ _ (HFR.out.trans HST48.out.gr) (fun hHeld => ?_)
              clear hK K
              generalize W35.alloc (.cells #[.int .u8 y] 5) = W48 at HST48 hHeld ⊢
              generalize W35.heap.size = b48 at HST48 ⊢
              clear HST35
              (try simp only [Act.put]); (try simp only [List.setIfInBounds_toArray]); (try simp only [List.set_cons_succ]); (try simp only [List.set_cons_zero])
              refine wpAnyH_ready (rs := [1, 11]) (by kernel_rfl) (by simp) (AllReadyH.cons (i := 1) rfl (fun K hK => ?_) (AllReadyH.cons (i := 11) rfl (fun K hK => ?_) AllReadyH.nil))
              · go_simp
                have HST49 : Hid (Mk9 wr (W48.alloc (.cells #[.string ⟨#[97]⟩, .string ⟨#[98]⟩] 9)) za La y (some (W48.heap.size)) (some (g35, c35)) (some b48) none) := HST48.out.strs
                refine hK.out _ _ (HFR.out.trans HST49.out.gr) (fun hHeld => ?_)
                clear hK K
                generalize W48.alloc (.cells #[.string ⟨#[97]⟩, .string ⟨#[98]⟩] 9) = W49 at HST49 hHeld ⊢
                generalize W48.heap.size = s49 at HST49 ⊢
                clear HST48
                (try simp only [Act.put]); (try simp only [List.setIfInBounds_toArray]); (try simp only [List.set_cons_succ]); (try simp only [List.set_cons_zero])
                refine wpAnyH_take (i := 4) (v := .pointer (some ⟨s49, ix, none⟩)) rfl (by kernel_rfl) (by kernel_rfl) (by kernel_rfl) (fun _ _ _ h => h) (Or.inl ⟨by rfl, fun w hSw => ?_⟩) (by assumption) ?_
                · go_simp
                (try simp only [Act.put]); (try simp only [List.setIfInBounds_toArray]); (try simp only [List.set_cons_succ]); (try simp only [List.set_cons_zero])
                refine wpAnyH_ready (rs := [5, 11]) (by kernel_rfl) (by simp) (AllReadyH.cons (i := 5) rfl (fun K hK => ?_) (AllReadyH.cons (i := 11) rfl (fun K hK => ?_) AllReadyH.nil))
                · have z5 := HST49.out.cell HIX.out
                  go_simp
                  refine hK.out _ _ (HFR.out.trans HST49.out.gr) (fun hHeld => ?_)
                  clear hK K z5
                  (try simp only [Act.put]); (try simp only [List.setIfInBounds_toArray]); (try simp only [List.set_cons_succ]); (try simp only [List.set_cons_zero])
                  refine wpAnyH_ready (rs := [11]) (by kernel_rfl) (by simp) (AllReadyH.cons (i := 11) rfl (fun K hK => ?_) AllReadyH.nil)
                  · refine step_append_e byteET rfl (.tmp 58) (.tmp 61) rfl wr.heap.size (.slice (some ⟨g35, 0, none⟩) La c35) La za (by simp [Act.eval]) (HST49.out.own _ rfl) ⟨b48, 0, none⟩ [y] 1 1 (by simp [Act.eval]) rfl (HST49.out.lrd _ rfl) (by omega) (by omega) (by unfold maxLen; omega) HST49.out.gr.size ?_
                    intro g51 c51 W51 ho hg hgg
                    have HST51 : Hid (Mk9 wr W51 za La y (some s49) none none (some (g51, c51))) := HST49.out.apped ho hg HYA.out
                    refine hK.out _ _ (HFR.out.trans HST51.out.gr) (fun hHeld => ?_)
                    clear hK K ho hg hgg
                    clear HST49
                    (try simp only [Act.put]); (try simp only [List.setIfInBounds_toArray]); (try simp only [List.set_cons_succ]); (try simp only [List.set_cons_zero])
                    refine wpAnyH_ready (rs := [15]) (by kernel_rfl) (by simp) (AllReadyH.cons (i := 15) rfl (fun K hK => ?_) AllReadyH.nil)
                    · go_simp
                      refine (HSET.out W51 g51 c51 HST51.out.gr (HST51.out.done _ rfl)).mono ?_
                      rintro e W52 ⟨⟨u9, rfl⟩, hM⟩
                      have HM9 : Hid (ManyAt w W52 d mb sb (i + 1) za) := hM
                      refine hK.out _ _ (KvS.from_ hM) (fun hHeld => ?_)
                      clear hK K hM
                      clear HST51
                      (try simp only [Act.put]); (try simp only [List.setIfInBounds_toArray]); (try simp only [List.set_cons_succ]); (try simp only [List.set_cons_zero])
                      refine wpAnyH_take (i := 16) (v := .tuple #[u9, .int .i64 0]) rfl (by kernel_rfl) (by kernel_rfl) (by kernel_rfl) (fun _ _ _ h => h) (Or.inl ⟨by rfl, fun w hSw => ?_⟩) (by assumption) ?_
                      · go_simp
                      (try simp only [Act.put]); (try simp only [List.setIfInBounds_toArray]); (try simp only [List.set_cons_succ]); (try simp only [List.set_cons_zero])
                      refine wpAnyH_take (i := 17) (v := u9) rfl (by kernel_rfl) (by kernel_rfl) (by kernel_rfl) (fun _ _ _ h => h) (Or.inl ⟨by rfl, fun w hSw => ?_⟩) (by assumption) ?_
                      · go_simp
                      (try simp only [Act.put]); (try simp only [List.setIfInBounds_toArray]); (try simp only [List.set_cons_succ]); (try simp only [List.set_cons_zero])
                      refine wpAnyH_take (i := 18) (v := .int .i64 0) rfl (by kernel_rfl) (by kernel_rfl) (by kernel_rfl) (fun _ _ _ h => h) (Or.inl ⟨by rfl, fun w hSw => ?_⟩) (by assumption) ?_
                      · go_simp
                      (try simp only [Act.put]); (try simp only [List.setIfInBounds_toArray]); (try simp only [List.set_cons_succ]); (try simp only [List.set_cons_zero])
                      refine wpAnyH_ready (rs := [19]) (by kernel_rfl) (by simp) (AllReadyH.cons (i := 19) rfl (fun K hK => ?_) AllReadyH.nil)
                      go_simp
                      refine hK.out _ _ (KvS.from_ HM9.out) (fun hHeld => ?_)
                      clear hK K
                      (try simp only [Act.put]); (try simp only [List.setIfInBounds_toArray]); (try simp only [List.set_cons_succ]); (try simp only [List.set_cons_zero])
                      refine wpAnyH_ready (rs := [20]) (by kernel_rfl) (by simp) (AllReadyH.cons (i := 20) rfl (fun K hK => ?_) AllReadyH.nil)
                      go_simp
                      refine hK.out _ _ (KvS.from_ HM9.out) (fun hHeld => ?_)
                      clear hK K
                      (try simp only [Act.put]); (try simp only [List.setIfInBounds_toArray]); (try simp only [List.set_cons_succ]); (try simp only [List.set_cons_zero])
                      refine wpAnyH_done (by kernel_rfl) ?_ _
                      go_wp2
                      go_meet
                      case rel => exact ⟨rfl, HM9.out⟩
                · refine step_append_e byteET rfl (.tmp 58) (.tmp 61) rfl wr.heap.size (.slice (some ⟨g35, 0, none⟩) La c35) La za (by simp [Act.eval]) (HST49.out.own _ rfl) ⟨b48, 0, none⟩ [y] 1 1 (by simp [Act.eval]) rfl (HST49.out.lrd _ rfl) (by omega) (by omega) (by unfold maxLen; omega) HST49.out.gr.size ?_
                  intro g53 c53 W53 ho hg hgg
                  have HST53 : Hid (Mk9 wr W53 za La y (some s49) none none (some (g53, c53))) := HST49.out.apped ho hg HYA.out
                  refine hK.out _ _ (HFR.out.trans HST53.out.gr) (fun hHeld => ?_)
                  clear hK K ho hg hgg
                  clear HST49
                  (try simp only [Act.put]); (try simp only [List.setIfInBounds_toArray]); (try simp only [List.set_cons_succ]); (try simp only [List.set_cons_zero])
                  refine wpAnyH_ready (rs := [5]) (by kernel_rfl) (by simp) (AllReadyH.cons (i := 5) rfl (fun K hK => ?_) AllReadyH.nil)
                  · have z5 := HST53.out.cell HIX.out
                    go_simp
                    refine hK.out _ _ (HFR.out.trans HST53.out.gr) (fun hHeld => ?_)
                    clear hK K z5
                    (try simp only [Act.put]); (try simp only [List.setIfInBounds_toArray]); (try simp only [List.set_cons_succ]); (try simp only [List.set_cons_zero])
                    refine wpAnyH_ready (rs := [15]) (by kernel_rfl) (by simp) (AllReadyH.cons (i := 15) rfl (fun K hK => ?_) AllReadyH.nil)
                    · go_simp
                      refine (HSET.out W53 g53 c53 HST53.out.gr (HST53.out.done _ rfl)).mono ?_
                      rintro e W55 ⟨⟨u9, rfl⟩, hM⟩
                      have HM9 : Hid (ManyAt w W55 d mb sb (i + 1) za) := hM
                      refine hK.out _ _ (KvS.from_ hM) (fun hHeld => ?_)
                      clear hK K hM
                      clear HST53
                      (try simp only [Act.put]); (try simp only [List.setIfInBounds_toArray]); (try simp only [List.set_cons_succ]); (try simp only [List.set_cons_zero])
                      refine wpAnyH_take (i := 16) (v := .tuple #[u9, .int .i64 0]) rfl (by kernel_rfl) (by kernel_rfl) (by kernel_rfl) (fun _ _ _ h => h) (Or.inl ⟨by rfl, fun w hSw => ?_⟩) (by assumption) ?_
                      · go_simp
                      (try simp only [Act.put]); (try simp only [List.setIfInBounds_toArray]); (try simp only [List.set_cons_succ]); (try simp only [List.set_cons_zero])
                      refine wpAnyH_take (i := 17) (v := u9) rfl (by kernel_rfl) (by kernel_rfl) (by kernel_rfl) (fun _ _ _ h => h) (Or.inl ⟨by rfl, fun w hSw => ?_⟩) (by assumption) ?_
                      · go_simp
                      (try simp only [Act.put]); (try simp only [List.setIfInBounds_toArray]); (try simp only [List.set_cons_succ]); (try simp only [List.set_cons_zero])
                      refine wpAnyH_take (i := 18) (v := .int .i64 0) rfl (by kernel_rfl) (by kernel_rfl) (by kernel_rfl) (fun _ _ _ h => h) (Or.inl ⟨by rfl, fun w hSw => ?_⟩) (by assumption) ?_
                      · go_simp
                      (try simp only [Act.put]); (try simp only [List.setIfInBounds_toArray]); (try simp only [List.set_cons_succ]); (try simp only [List.set_cons_zero])
                      refine wpAnyH_ready (rs := [19]) (by kernel_rfl) (by simp) (AllReadyH.cons (i := 19) rfl (fun K hK => ?_) AllReadyH.nil)
                      go_simp
                      refine hK.out _ _ (KvS.from_ HM9.out) (fun hHeld => ?_)
                      clear hK K
                      (try simp only [Act.put]); (try simp only [List.setIfInBounds_toArray]); (try simp only [List.set_cons_succ]); (try simp only [List.set_cons_zero])
                      refine wpAnyH_ready (rs := [20]) (by kernel_rfl) (by simp) (AllReadyH.cons (i := 20) rfl (fun K hK => ?_) AllReadyH.nil)
                      go_simp
                      refine hK.out _ _ (KvS.from_ HM9.out) (fun hHeld => ?_)
                      clear hK K
                      (try simp only [Act.put]); (try simp only [List.setIfInBounds_toArray]); (try simp only [List.set_cons_succ]); (try simp only [List.set_cons_zero])
                      refine wpAnyH_done (by kernel_rfl) ?_ _
                      go_wp2
                      go_meet
                      case rel => exact ⟨rfl, HM9.out⟩
              · refine step_append_e byteET rfl (.tmp 58) (.tmp 61) rfl wr.heap.size (.slice (some ⟨g35, 0, none⟩) La c35) La za (by simp [Act.eval]) (HST48.out.own _ rfl) ⟨b48, 0, none⟩ [y] 1 1 (by simp [Act.eval]) rfl (HST48.out.lrd _ rfl) (by omega) (by omega) (by unfold maxLen; omega) HST48.out.gr.size ?_
                intro g56 c56 W56 ho hg hgg
                have HST56 : Hid (Mk9 wr W56 za La y none none none (some (g56, c56))) := HST48.out.apped ho hg HYA.out
                refine hK.out _ _ (HFR.out.trans HST56.out.gr) (fun hHeld => ?_)
                clear hK K ho hg hgg
                clear HST48
                (try simp only [Act.put]); (try simp only [List.setIfInBounds_toArray]); (try simp only [List.set_cons_succ]); (try simp only [List.set_cons_zero])
                refine wpAnyH_ready (rs := [1]) (by kernel_rfl) (by simp) (AllReadyH.cons (i := 1) rfl (fun K hK => ?_) AllReadyH.nil)
                · go_simp
                  have HST57 : Hid (Mk9 wr (W56.alloc (.cells #[.string ⟨#[97]⟩, .string ⟨#[98]⟩] 9)) za La y (some (W56.heap.size)) none none (some (g56, c56))) := HST56.out.strs
                  refine hK.out _ _ (HFR.out.trans HST57.out.gr) (fun hHeld => ?_)
                  clear hK K
                  generalize W56.alloc (.cells #[.string ⟨#[97]⟩, .string ⟨#[98]⟩] 9) = W57 at HST57 hHeld ⊢
                  generalize W56.heap.size = s57 at HST57 ⊢
                  clear HST56
                  (try simp only [Act.put]); (try simp only [List.setIfInBounds_toArray]); (try simp only [List.set_cons_succ]); (try simp only [List.set_cons_zero])
                  refine wpAnyH_take (i := 4) (v := .pointer (some ⟨s57, ix, none⟩)) rfl (by kernel_rfl) (by kernel_rfl) (by kernel_rfl) (fun _ _ _ h => h) (Or.inl ⟨by rfl, fun w hSw => ?_⟩) (by assumption) ?_
                  · go_simp
                  (try simp only [Act.put]); (try simp only [List.setIfInBounds_toArray]); (try simp only [List.set_cons_succ]); (try simp only [List.set_cons_zero])
                  refine wpAnyH_ready (rs := [5]) (by kernel_rfl) (by simp) (AllReadyH.cons (i := 5) rfl (fun K hK => ?_) AllReadyH.nil)
                  · have z5 := HST57.out.cell HIX.out
                    go_simp
                    refine hK.out _ _ (HFR.out.trans HST57.out.gr) (fun hHeld => ?_)
                    clear hK K z5
                    (try simp only [Act.put]); (try simp only [List.setIfInBounds_toArray]); (try simp only [List.set_cons_succ]); (try simp only [List.set_cons_zero])
                    refine wpAnyH_ready (rs := [15]) (by kernel_rfl) (by simp) (AllReadyH.cons (i := 15) rfl (fun K hK => ?_) AllReadyH.nil)
                    · go_simp
                      refine (HSET.out W57 g56 c56 HST57.out.gr (HST57.out.done _ rfl)).mono ?_
                      rintro e W59 ⟨⟨u9, rfl⟩, hM⟩
                      have HM9 : Hid (ManyAt w W59 d mb sb (i + 1) za) := hM
                      refine hK.out _ _ (KvS.from_ hM) (fun hHeld => ?_)
                      clear hK K hM
                      clear HST57
                      (try simp only [Act.put]); (try simp only [List.setIfInBounds_toArray]); (try simp only [List.set_cons_succ]); (try simp only [List.set_cons_zero])
                      refine wpAnyH_take (i := 16) (v := .tuple #[u9, .int .i64 0]) rfl (by kernel_rfl) (by kernel_rfl) (by kernel_rfl) (fun _ _ _ h => h) (Or.inl ⟨by rfl, fun w hSw => ?_⟩) (by assumption) ?_
                      · go_simp
                      (try simp only [Act.put]); (try simp only [List.setIfInBounds_toArray]); (try simp only [List.set_cons_succ]); (try simp only [List.set_cons_zero])
                      refine wpAnyH_take (i := 17) (v := u9) rfl (by kernel_rfl) (by kernel_rfl) (by kernel_rfl) (fun _ _ _ h => h) (Or.inl ⟨by rfl, fun w hSw => ?_⟩) (by assumption) ?_
                      · go_simp
                      (try simp only [Act.put]); (try simp only [List.setIfInBounds_toArray]); (try simp only [List.set_cons_succ]); (try simp only [List.set_cons_zero])
                      refine wpAnyH_take (i := 18) (v := .int .i64 0) rfl (by kernel_rfl) (by kernel_rfl) (by kernel_rfl) (fun _ _ _ h => h) (Or.inl ⟨by rfl, fun w hSw => ?_⟩) (by assumption) ?_
                      · go_simp
                      (try simp only [Act.put]); (try simp only [List.setIfInBounds_toArray]); (try simp only [List.set_cons_succ]); (try simp only [List.set_cons_zero])
                      refine wpAnyH_ready (rs := [19]) (by kernel_rfl) (by simp) (AllReadyH.cons (i := 19) rfl (fun K hK => ?_) AllReadyH.nil)
                      go_simp
                      refine hK.out _ _ (KvS.from_ HM9.out) (fun hHeld => ?_)
                      clear hK K
                      (try simp only [Act.put]); (try simp only [List.setIfInBounds_toArray]); (try simp only [List.set_cons_succ]); (try simp only [List.set_cons_zero])
                      refine wpAnyH_ready (rs := [20]) (by kernel_rfl) (by simp) (AllReadyH.cons (i := 20) rfl (fun K hK => ?_) AllReadyH.nil)
                      go_simp
                      refine hK.out _ _ (KvS.from_ HM9.out) (fun hHeld => ?_)
                      clear hK K
                      (try simp only [Act.put]); (try simp only [List.setIfInBounds_toArray]); (try simp only [List.set_cons_succ]); (try simp only [List.set_cons_zero])
                      refine wpAnyH_done (by kernel_rfl) ?_ _
                      go_wp2
                      go_meet
                      case rel => exact ⟨rfl, HM9.out⟩
          · go_simp
            have HST60 : Hid (Mk9 wr (W0.alloc (.cells #[.int .u8 y] 5)) za La y none none (some (W0.heap.size)) none) := HST0.out.byte HYB.out
            refine hK.out _ _ (HFR.out.trans HST60.out.gr) (fun hHeld => ?_)
            clear hK K
            generalize W0.alloc (.cells #[.int .u8 y] 5) = W60 at HST60 hHeld ⊢
            generalize W0.heap.size = b60 at HST60 ⊢
            clear HST0
            (try simp only [Act.put]); (try simp only [List.setIfInBounds_toArray]); (try simp only [List.set_cons_succ]); (try simp only [List.set_cons_zero])
            refine wpAnyH_ready (rs := [1, 7]) (by kernel_rfl) (by simp) (AllReadyH.cons (i := 1) rfl (fun K hK => ?_) (AllReadyH.cons (i := 7) rfl (fun K hK => ?_) AllReadyH.nil))
            · go_simp
              have HST61 : Hid (Mk9 wr (W60.alloc (.cells #[.string ⟨#[97]⟩, .string ⟨#[98]⟩] 9)) za La y (some (W60.heap.size)) none (some b60) none) := HST60.out.strs
              refine hK.out _ _ (HFR.out.trans HST61.out.gr) (fun hHeld => ?_)
              clear hK K
              generalize W60.alloc (.cells #[.string ⟨#[97]⟩, .string ⟨#[98]⟩] 9) = W61 at HST61 hHeld ⊢
              generalize W60.heap.size = s61 at HST61 ⊢
              clear HST60
              (try simp only [Act.put]); (try simp only [List.setIfInBounds_toArray]); (try simp only [List.set_cons_succ]); (try simp only [List.set_cons_zero])
              refine wpAnyH_take (i := 4) (v := .pointer (some ⟨s61, ix, none⟩)) rfl (by kernel_rfl) (by kernel_rfl) (by kernel_rfl) (fun _ _ _ h => h) (Or.inl ⟨by rfl, fun w hSw => ?_⟩) (by assumption) ?_
              · go_simp
              (try simp only [Act.put]); (try simp only [List.setIfInBounds_toArray]); (try simp only [List.set_cons_succ]); (try simp only [List.set_cons_zero])
              refine wpAnyH_ready (rs := [5, 7]) (by kernel_rfl) (by simp) (AllReadyH.cons (i := 5) rfl (fun K hK => ?_) (AllReadyH.cons (i := 7) rfl (fun K hK => ?_) AllReadyH.nil))
              · have z5 := HST61.out.cell HIX.out
                go_simp
                refine hK.out _ _ (HFR.out.trans HST61.out.gr) (fun hHeld => ?_)
                clear hK K z5
                (try simp only [Act.put]); (try simp only [List.setIfInBounds_toArray]); (try simp only [List.set_cons_succ]); (try simp only [List.set_cons_zero])
                refine wpAnyH_ready (rs := [7]) (by kernel_rfl) (by simp) (AllReadyH.cons (i := 7) rfl (fun K hK => ?_) AllReadyH.nil)
                · go_simp
                  refine (HCA.out W61 (HFR.out.trans HST61.out.gr)).mono ?_
                  rintro e W63 ⟨g63, c63, rfl, ho, hg⟩
                  have HST63 : Hid (Mk9 wr W63 za La y (some s61) (some (g63, c63)) (some b60) none) := HST61.out.copied ho hg
                  refine hK.out _ _ (HFR.out.trans HST63.out.gr) (fun hHeld => ?_)
                  clear hK K ho hg
                  clear HST61
                  (try simp only [Act.put]); (try simp only [List.setIfInBounds_toArray]); (try simp only [List.set_cons_succ]); (try simp only [List.set_cons_zero])
                  refine wpAnyH_ready (rs := [11]) (by kernel_rfl) (by simp) (AllReadyH.cons (i := 11) rfl (fun K hK => ?_) AllReadyH.nil)
                  · refine step_append_e byteET rfl (.tmp 58) (.tmp 61) rfl wr.heap.size (.slice (some ⟨g63, 0, none⟩) La c63) La za (by simp [Act.eval]) (HST63.out.own _ rfl) ⟨b60, 0, none⟩ [y] 1 1 (by simp [Act.eval]) rfl (HST63.out.lrd _ rfl) (by omega) (by omega) (by unfold maxLen; omega) HST63.out.gr.size ?_
                    intro g64 c64 W64 ho hg hgg
                    have HST64 : Hid (Mk9 wr W64 za La y (some s61) none none (some (g64, c64))) := HST63.out.apped ho hg HYA.out
                    refine hK.out _ _ (HFR.out.trans HST64.out.gr) (fun hHeld => ?_)
                    clear hK K ho hg hgg
                    clear HST63
                    (try simp only [Act.put]); (try simp only [List.setIfInBounds_toArray]); (try simp only [List.set_cons_succ]); (try simp only [List.set_cons_zero])
                    refine wpAnyH_ready (rs := [15]) (by kernel_rfl) (by simp) (AllReadyH.cons (i := 15) rfl (fun K hK => ?_) AllReadyH.nil)
                    · go_simp
                      refine (HSET.out W64 g64 c64 HST64.out.gr (HST64.out.done _ rfl)).mono ?_
                      rintro e W65 ⟨⟨u9, rfl⟩, hM⟩
                      have HM9 : Hid (ManyAt w W65 d mb sb (i + 1) za) := hM
                      refine hK.out _ _ (KvS.from_ hM) (fun hHeld => ?_)
                      clear hK K hM
                      clear HST64
                      (try simp only [Act.put]); (try simp only [List.setIfInBounds_toArray]); (try simp only [List.set_cons_succ]); (try simp only [List.set_cons_zero])
                      refine wpAnyH_take (i := 16) (v := .tuple #[u9, .int .i64 0]) rfl (by kernel_rfl) (by kernel_rfl) (by kernel_rfl) (fun _ _ _ h => h) (Or.inl ⟨by rfl, fun w hSw => ?_⟩) (by assumption) ?_
                      · go_simp
                      (try simp only [Act.put]); (try simp only [List.setIfInBounds_toArray]); (try simp only [List.set_cons_succ]); (try simp only [List.set_cons_zero])
                      refine wpAnyH_take (i := 17) (v := u9) rfl (by kernel_rfl) (by kernel_rfl) (by kernel_rfl) (fun _ _ _ h => h) (Or.inl ⟨by rfl, fun w hSw => ?_⟩) (by assumption) ?_
                      · go_simp
                      (try simp only [Act.put]); (try simp only [List.setIfInBounds_toArray]); (try simp only [List.set_cons_succ]); (try simp only [List.set_cons_zero])
                      refine wpAnyH_take (i := 18) (v := .int .i64 0) rfl (by kernel_rfl) (by kernel_rfl) (by kernel_rfl) (fun _ _ _ h => h) (Or.inl ⟨by rfl, fun w hSw => ?_⟩) (by assumption) ?_
                      · go_simp
                      (try simp only [Act.put]); (try simp only [List.setIfInBounds_toArray]); (try simp only [List.set_cons_succ]); (try simp only [List.set_cons_zero])
                      refine wpAnyH_ready (rs := [19]) (by kernel_rfl) (by simp) (AllReadyH.cons (i := 19) rfl (fun K hK => ?_) AllReadyH.nil)
                      go_simp
                      refine hK.out _ _ (KvS.from_ HM9.out) (fun hHeld => ?_)
                      clear hK K
                      (try simp only [Act.put]); (try simp only [List.setIfInBounds_toArray]); (try simp only [List.set_cons_succ]); (try simp only [List.set_cons_zero])
                      refine wpAnyH_ready (rs := [20]) (by kernel_rfl) (by simp) (AllReadyH.cons (i := 20) rfl (fun K hK => ?_) AllReadyH.nil)
                      go_simp
                      refine hK.out _ _ (KvS.from_ HM9.out) (fun hHeld => ?_)
                      clear hK K
                      (try simp only [Act.put]); (try simp only [List.setIfInBounds_toArray]); (try simp only [List.set_cons_succ]); (try simp only [List.set_cons_zero])
                      refine wpAnyH_done (by kernel_rfl) ?_ _
                      go_wp2
                      go_meet
                      case rel => exact ⟨rfl, HM9.out⟩
              · go_simp
                refine (HCA.out W61 (HFR.out.trans HST61.out.gr)).mono ?_
                rintro e W66 ⟨g66, c66, rfl, ho, hg⟩
                have HST66 : Hid (Mk9 wr W66 za La y (some s61) (some (g66, c66)) (some b60) none) := HST61.out.copied ho hg
                refine hK.out _ _ (HFR.out.trans HST66.out.gr) (fun hHeld => ?_)
                clear hK K ho hg
                clear HST61
                (try simp only [Act.put]); (try simp only [List.setIfInBounds_toArray]); (try simp only [List.set_cons_succ]); (try simp only [List.set_cons_zero])
                refine wpAnyH_ready (rs := [5, 11]) (by kernel_rfl) (by simp) (AllReadyH.cons (i := 5) rfl (fun K hK => ?_) (AllReadyH.cons (i := 11) rfl (fun K hK => ?_) AllReadyH.nil))
                · have z5 := HST66.out.cell HIX.out
                  go_simp
                  refine hK.out _ _ (HFR.out.trans HST66.out.gr) (fun hHeld => ?_)
                  clear hK K z5
                  (try simp only [Act.put]); (try simp only [List.setIfInBounds_toArray]); (try simp only [List.set_cons_succ]); (try simp only [List.set_cons_zero])
                  refine wpAnyH_ready (rs := [11]) (by kernel_rfl) (by simp) (AllReadyH.cons (i := 11) rfl (fun K hK => ?_) AllReadyH.nil)
                  · refine step_append_e byteET rfl (.tmp 58) (.tmp 61) rfl wr.heap.size (.slice (some ⟨g66, 0, none⟩) La c66) La za (by simp [Act.eval]) (HST66.out.own _ rfl) ⟨b60, 0, none⟩ [y] 1 1 (by simp [Act.eval]) rfl (HST66.out.lrd _ rfl) (by omega) (by omega) (by unfold maxLen; omega) HST66.out.gr.size ?_
                    intro g68 c68 W68 ho hg hgg
                    have HST68 : Hid (Mk9 wr W68 za La y (some s61) none none (some (g68, c68))) := HST66.out.apped ho hg HYA.out
                    refine hK.out _ _ (HFR.out.trans HST68.out.gr) (fun hHeld => ?_)
                    clear hK K ho hg hgg
                    clear HST66
                    (try simp only [Act.put]); (try simp only [List.setIfInBounds_toArray]); (try simp only [List.set_cons_succ]); (try simp only [List.set_cons_zero])
                    refine wpAnyH_ready (rs := [15]) (by kernel_rfl) (by simp) (AllReadyH.cons (i := 15) rfl (fun K hK => ?_) AllReadyH.nil)
                    · go_simp
                      refine (HSET.out W68 g68 c68 HST68.out.gr (HST68.out.done _ rfl)).mono ?_
                      rintro e W69 ⟨⟨u9, rfl⟩, hM⟩
                      have HM9 : Hid (ManyAt w W69 d mb sb (i + 1) za) := hM
                      refine hK.out _ _ (KvS.from_ hM) (fun hHeld => ?_)
                      clear hK K hM
                      clear HST68
                      (try simp only [Act.put]); (try simp only [List.setIfInBounds_toArray]); (try simp only [List.set_cons_succ]); (try simp only [List.set_cons_zero])
                      refine wpAnyH_take (i := 16) (v := .tuple #[u9, .int .i64 0]) rfl (by kernel_rfl) (by kernel_rfl) (by kernel_rfl) (fun _ _ _ h => h) (Or.inl ⟨by rfl, fun w hSw => ?_⟩) (by assumption) ?_
                      · go_simp
                      (try simp only [Act.put]); (try simp only [List.setIfInBounds_toArray]); (try simp only [List.set_cons_succ]); (try simp only [List.set_cons_zero])
                      refine wpAnyH_take (i := 17) (v := u9) rfl (by kernel_rfl) (by kernel_rfl) (by kernel_rfl) (fun _ _ _ h => h) (Or.inl ⟨by rfl, fun w hSw => ?_⟩) (by assumption) ?_
                      · go_simp
                      (try simp only [Act.put]); (try simp only [List.setIfInBounds_toArray]); (try simp only [List.set_cons_succ]); (try simp only [List.set_cons_zero])
                      refine wpAnyH_take (i := 18) (v := .int .i64 0) rfl (by kernel_rfl) (by kernel_rfl) (by kernel_rfl) (fun _ _ _ h => h) (Or.inl ⟨by rfl, fun w hSw => ?_⟩) (by assumption) ?_
                      · go_simp
                      (try simp only [Act.put]); (try simp only [List.setIfInBounds_toArray]); (try simp only [List.set_cons_succ]); (try simp only [List.set_cons_zero])
                      refine wpAnyH_ready (rs := [19]) (by kernel_rfl) (by simp) (AllReadyH.cons (i := 19) rfl (fun K hK => ?_) AllReadyH.nil)
                      go_simp
                      refine hK.out _ _ (KvS.from_ HM9.out) (fun hHeld => ?_)
                      clear hK K
                      (try simp only [Act.put]); (try simp only [List.setIfInBounds_toArray]); (try simp only [List.set_cons_succ]); (try simp only [List.set_cons_zero])
                      refine wpAnyH_ready (rs := [20]) (by kernel_rfl) (by simp) (AllReadyH.cons (i := 20) rfl (fun K hK => ?_) AllReadyH.nil)
                      go_simp
                      refine hK.out _ _ (KvS.from_ HM9.out) (fun hHeld => ?_)
                      clear hK K
                      (try simp only [Act.put]); (try simp only [List.setIfInBounds_toArray]); (try simp only [List.set_cons_succ]); (try simp only [List.set_cons_zero])
                      refine wpAnyH_done (by kernel_rfl) ?_ _
                      go_wp2
                      go_meet
                      case rel => exact ⟨rfl, HM9.out⟩
                · refine step_append_e byteET rfl (.tmp 58) (.tmp 61) rfl wr.heap.size (.slice (some ⟨g66, 0, none⟩) La c66) La za (by simp [Act.eval]) (HST66.out.own _ rfl) ⟨b60, 0, none⟩ [y] 1 1 (by simp [Act.eval]) rfl (HST66.out.lrd _ rfl) (by omega) (by omega) (by unfold maxLen; omega) HST66.out.gr.size ?_
                  intro g70 c70 W70 ho hg hgg
                  have HST70 : Hid (Mk9 wr W70 za La y (some s61) none none (some (g70, c70))) := HST66.out.apped ho hg HYA.out
                  refine hK.out _ _ (HFR.out.trans HST70.out.gr) (fun hHeld => ?_)
                  clear hK K ho hg hgg
                  clear HST66
                  (try simp only [Act.put]); (try simp only [List.setIfInBounds_toArray]); (try simp only [List.set_cons_succ]); (try simp only [List.set_cons_zero])
                  refine wpAnyH_ready (rs := [5]) (by kernel_rfl) (by simp) (AllReadyH.cons (i := 5) rfl (fun K hK => ?_) AllReadyH.nil)
                  · have z5 := HST70.out.cell HIX.out
                    go_simp
                    refine hK.out _ _ (HFR.out.trans HST70.out.gr) (fun hHeld => ?_)
                    clear hK K z5
                    (try simp only [Act.put]); (try simp only [List.setIfInBounds_toArray]); (try simp only [List.set_cons_succ]); (try simp only [List.set_cons_zero])
                    refine wpAnyH_ready (rs := [15]) (by kernel_rfl) (by simp) (AllReadyH.cons (i := 15) rfl (fun K hK => ?_) AllReadyH.nil)
                    · go_simp
                      refine (HSET.out W70 g70 c70 HST70.out.gr (HST70.out.done _ rfl)).mono ?_
                      rintro e W72 ⟨⟨u9, rfl⟩, hM⟩
                      have HM9 : Hid (ManyAt w W72 d mb sb (i + 1) za) := hM
                      refine hK.out _ _ (KvS.from_ hM) (fun hHeld => ?_)
                      clear hK K hM
                      clear HST70
                      (try simp only [Act.put]); (try simp only [List.setIfInBounds_toArray]); (try simp only [List.set_cons_succ]); (try simp only [List.set_cons_zero])
                      refine wpAnyH_take (i := 16) (v := .tuple #[u9, .int .i64 0]) rfl (by kernel_rfl) (by kernel_rfl) (by kernel_rfl) (fun _ _ _ h => h) (Or.inl ⟨by rfl, fun w hSw => ?_⟩) (by assumption) ?_
                      · go_simp
                      (try simp only [Act.put]); (try simp only [List.setIfInBounds_toArray]); (try simp only [List.set_cons_succ]); (try simp only [List.set_cons_zero])
                      refine wpAnyH_take (i := 17) (v := u9) rfl (by kernel_rfl) (by kernel_rfl) (by kernel_rfl) (fun _ _ _ h => h) (Or.inl ⟨by rfl, fun w hSw => ?_⟩) (by assumption) ?_
                      · go_simp
                      (try simp only [Act.put]); (try simp only [List.setIfInBounds_toArray]); (try simp only [List.set_cons_succ]); (try simp only [List.set_cons_zero])
                      refine wpAnyH_take (i := 18) (v := .int .i64 0) rfl (by kernel_rfl) (by kernel_rfl) (by kernel_rfl) (fun _ _ _ h => h) (Or.inl ⟨by rfl, fun w hSw => ?_⟩) (by assumption) ?_
                      · go_simp
                      (try simp only [Act.put]); (try simp only [List.setIfInBounds_toArray]); (try simp only [List.set_cons_succ]); (try simp only [List.set_cons_zero])
                      refine wpAnyH_ready (rs := [19]) (by kernel_rfl) (by simp) (AllReadyH.cons (i := 19) rfl (fun K hK => ?_) AllReadyH.nil)
                      go_simp
                      refine hK.out _ _ (KvS.from_ HM9.out) (fun hHeld => ?_)
                      clear hK K
                      (try simp only [Act.put]); (try simp only [List.setIfInBounds_toArray]); (try simp only [List.set_cons_succ]); (try simp only [List.set_cons_zero])
                      refine wpAnyH_ready (rs := [20]) (by kernel_rfl) (by simp) (AllReadyH.cons (i := 20) rfl (fun K hK => ?_) AllReadyH.nil)
                      go_simp
                      refine hK.out _ _ (KvS.from_ HM9.out) (fun hHeld => ?_)
                      clear hK K
                      (try simp only [Act.put]); (try simp only [List.setIfInBounds_toArray]); (try simp only [List.set_cons_succ]); (try simp only [List.set_cons_zero])
                      refine wpAnyH_done (by kernel_rfl) ?_ _
                      go_wp2
                      go_meet
                      case rel => exact ⟨rfl, HM9.out⟩
            · go_simp
              refine (HCA.out W60 (HFR.out.trans HST60.out.gr)).mono ?_
              rintro e W73 ⟨g73, c73, rfl, ho, hg⟩
              have HST73 : Hid (Mk9 wr W73 za La y none (some (g73, c73)) (some b60) none) := HST60.out.copied ho hg
              refine hK.out _ _ (HFR.out.trans HST73.out.gr) (fun hHeld => ?_)
              clear hK K ho hg
              clear HST60
              (try simp only [Act.put]); (try simp only [List.setIfInBounds_toArray]); (try simp only [List.set_cons_succ]); (try simp only [List.set_cons_zero])
              refine wpAnyH_ready (rs := [1, 11]) (by kernel_rfl) (by simp) (AllReadyH.cons (i := 1) rfl (fun K hK => ?_) (AllReadyH.cons (i := 11) rfl (fun K hK => ?_) AllReadyH.nil))
              · go_simp
                have HST74 : Hid (Mk9 wr (W73.alloc (.cells #[.string ⟨#[97]⟩, .string ⟨#[98]⟩] 9)) za La y (some (W73.heap.size)) (some (g73, c73)) (some b60) none) := HST73.out.strs
                refine hK.out _ _ (HFR.out.trans HST74.out.gr) (fun hHeld => ?_)
                clear hK K
                generalize W73.alloc (.cells #[.string ⟨#[97]⟩, .string ⟨#[98]⟩] 9) = W74 at HST74 hHeld ⊢
                generalize W73.heap.size = s74 at HST74 ⊢
                clear HST73
                (try simp only [Act.put]); (try simp only [List.setIfInBounds_toArray]); (try simp only [List.set_cons_succ]); (try simp only [List.set_cons_zero])
                refine wpAnyH_take (i := 4) (v := .pointer (some ⟨s74, ix, none⟩)) rfl (by kernel_rfl) (by kernel_rfl) (by kernel_rfl) (fun _ _ _ h => h) (Or.inl ⟨by rfl, fun w hSw => ?_⟩) (by assumption) ?_
                · go_simp
                (try simp only [Act.put]); (try simp only [List.setIfInBounds_toArray]); (try simp only [List.set_cons_succ]); (try simp only [List.set_cons_zero])
                refine wpAnyH_ready (rs := [5, 11]) (by kernel_rfl) (by simp) (AllReadyH.cons (i := 5) rfl (fun K hK => ?_) (AllReadyH.cons (i := 11) rfl (fun K hK => ?_) AllReadyH.nil))
                · have z5 := HST74.out.cell HIX.out
                  go_simp
                  refine hK.out _ _ (HFR.out.trans HST74.out.gr) (fun hHeld => ?_)
                  clear hK K z5
                  (try simp only [Act.put]); (try simp only [List.setIfInBounds_toArray]); (try simp only [List.set_cons_succ]); (try simp only [List.set_cons_zero])
                  refine wpAnyH_ready (rs := [11]) (by kernel_rfl) (by simp) (AllReadyH.cons (i := 11) rfl (fun K hK => ?_) AllReadyH.nil)
                  · refine step_append_e byteET rfl (.tmp 58) (.tmp 61) rfl wr.heap.size (.slice (some ⟨g73, 0, none⟩) La c73) La za (by simp [Act.eval]) (HST74.out.own _ rfl) ⟨b60, 0, none⟩ [y] 1 1 (by simp [Act.eval]) rfl (HST74.out.lrd _ rfl) (by omega) (by omega) (by unfold maxLen; omega) HST74.out.gr.size ?_
                    intro g76 c76 W76 ho hg hgg
                    have HST76 : Hid (Mk9 wr W76 za La y (some s74) none none (some (g76, c76))) := HST74.out.apped ho hg HYA.out
                    refine hK.out _ _ (HFR.out.trans HST76.out.gr) (fun hHeld => ?_)
                    clear hK K ho hg hgg
                    clear HST74
                    (try simp only [Act.put]); (try simp only [List.setIfInBounds_toArray]); (try simp only [List.set_cons_succ]); (try simp only [List.set_cons_zero])
                    refine wpAnyH_ready (rs := [15]) (by kernel_rfl) (by simp) (AllReadyH.cons (i := 15) rfl (fun K hK => ?_) AllReadyH.nil)
                    · go_simp
                      refine (HSET.out W76 g76 c76 HST76.out.gr (HST76.out.done _ rfl)).mono ?_
                      rintro e W77 ⟨⟨u9, rfl⟩, hM⟩
                      have HM9 : Hid (ManyAt w W77 d mb sb (i + 1) za) := hM
                      refine hK.out _ _ (KvS.from_ hM) (fun hHeld => ?_)
                      clear hK K hM
                      clear HST76
                      (try simp only [Act.put]); (try simp only [List.setIfInBounds_toArray]); (try simp only [List.set_cons_succ]); (try simp only [List.set_cons_zero])
                      refine wpAnyH_take (i := 16) (v := .tuple #[u9, .int .i64 0]) rfl (by kernel_rfl) (by kernel_rfl) (by kernel_rfl) (fun _ _ _ h => h) (Or.inl ⟨by rfl, fun w hSw => ?_⟩) (by assumption) ?_
                      · go_simp
                      (try simp only [Act.put]); (try simp only [List.setIfInBounds_toArray]); (try simp only [List.set_cons_succ]); (try simp only [List.set_cons_zero])
                      refine wpAnyH_take (i := 17) (v := u9) rfl (by kernel_rfl) (by kernel_rfl) (by kernel_rfl) (fun _ _ _ h => h) (Or.inl ⟨by rfl, fun w hSw => ?_⟩) (by assumption) ?_
                      · go_simp
                      (try simp only [Act.put]); (try simp only [List.setIfInBounds_toArray]); (try simp only [List.set_cons_succ]); (try simp only [List.set_cons_zero])
                      refine wpAnyH_take (i := 18) (v := .int .i64 0) rfl (by kernel_rfl) (by kernel_rfl) (by kernel_rfl) (fun _ _ _ h => h) (Or.inl ⟨by rfl, fun w hSw => ?_⟩) (by assumption) ?_
                      · go_simp
                      (try simp only [Act.put]); (try simp only [List.setIfInBounds_toArray]); (try simp only [List.set_cons_succ]); (try simp only [List.set_cons_zero])
                      refine wpAnyH_ready (rs := [19]) (by kernel_rfl) (by simp) (AllReadyH.cons (i := 19) rfl (fun K hK => ?_) AllReadyH.nil)
                      go_simp
                      refine hK.out _ _ (KvS.from_ HM9.out) (fun hHeld => ?_)
                      clear hK K
                      (try simp only [Act.put]); (try simp only [List.setIfInBounds_toArray]); (try simp only [List.set_cons_succ]); (try simp only [List.set_cons_zero])
                      refine wpAnyH_ready (rs := [20]) (by kernel_rfl) (by simp) (AllReadyH.cons (i := 20) rfl (fun K hK => ?_) AllReadyH.nil)
                      go_simp
                      refine hK.out _ _ (KvS.from_ HM9.out) (fun hHeld => ?_)
                      clear hK K
                      (try simp only [Act.put]); (try simp only [List.setIfInBounds_toArray]); (try simp only [List.set_cons_succ]); (try simp only [List.set_cons_zero])
                      refine wpAnyH_done (by kernel_rfl) ?_ _
                      go_wp2
                      go_meet
                      case rel => exact ⟨rfl, HM9.out⟩
                · refine step_append_e byteET rfl (.tmp 58) (.tmp 61) rfl wr.heap.size (.slice (some ⟨g73, 0, none⟩) La c73) La za (by simp [Act.eval]) (HST74.out.own _ rfl) ⟨b60, 0, none⟩ [y] 1 1 (by simp [Act.eval]) rfl (HST74.out.lrd _ rfl) (by omega) (by omega) (by unfold maxLen; omega) HST74.out.gr.size ?_
                  intro g78 c78 W78 ho hg hgg
                  have HST78 : Hid (Mk9 wr W78 za La y (some s74) none none (some (g78, c78))) := HST74.out.apped ho hg HYA.out
                  refine hK.out _ _ (HFR.out.trans HST78.out.gr) (fun hHeld => ?_)
                  clear hK K ho hg hgg
                  clear HST74
                  (try simp only [Act.put]); (try simp only [List.setIfInBounds_toArray]); (try simp only [List.set_cons_succ]); (try simp only [List.set_cons_zero])
                  refine wpAnyH_ready (rs := [5]) (by kernel_rfl) (by simp) (AllReadyH.cons (i := 5) rfl (fun K hK => ?_) AllReadyH.nil)
                  · have z5 := HST78.out.cell HIX.out
                    go_simp
                    refine hK.out _ _ (HFR.out.trans HST78.out.gr) (fun hHeld => ?_)
                    clear hK K z5
                    (try simp only [Act.put]); (try simp only [List.setIfInBounds_toArray]); (try simp only [List.set_cons_succ]); (try simp only [List.set_cons_zero])
                    refine wpAnyH_ready (rs := [15]) (by kernel_rfl) (by simp) (AllReadyH.cons (i := 15) rfl (fun K hK => ?_) AllReadyH.nil)
                    · go_simp
                      refine (HSET.out W78 g78 c78 HST78.out.gr (HST78.out.done _ rfl)).mono ?_
                      rintro e W80 ⟨⟨u9, rfl⟩, hM⟩
                      have HM9 : Hid (ManyAt w W80 d mb sb (i + 1) za) := hM
                      refine hK.out _ _ (KvS.from_ hM) (fun hHeld => ?_)
                      clear hK K hM
                      clear HST78
                      (try simp only [Act.put]); (try simp only [List.setIfInBounds_toArray]); (try simp only [List.set_cons_succ]); (try simp only [List.set_cons_zero])
                      refine wpAnyH_take (i := 16) (v := .tuple #[u9, .int .i64 0]) rfl (by kernel_rfl) (by kernel_rfl) (by kernel_rfl) (fun _ _ _ h => h) (Or.inl ⟨by rfl, fun w hSw => ?_⟩) (by assumption) ?_
                      · go_simp
                      (try simp only [Act.put]); (try simp only [List.setIfInBounds_toArray]); (try simp only [List.set_cons_succ]); (try simp only [List.set_cons_zero])
                      refine wpAnyH_take (i := 17) (v := u9) rfl (by kernel_rfl) (by kernel_rfl) (by kernel_rfl) (fun _ _ _ h => h) (Or.inl ⟨by rfl, fun w hSw => ?_⟩) (by assumption) ?_
                      · go_simp
                      (try simp only [Act.put]); (try simp only [List.setIfInBounds_toArray]); (try simp only [List.set_cons_succ]); (try simp only [List.set_cons_zero])
                      refine wpAnyH_take (i := 18) (v := .int .i64 0) rfl (by kernel_rfl) (by kernel_rfl) (by kernel_rfl) (fun _ _ _ h => h) (Or.inl ⟨by rfl, fun w hSw => ?_⟩) (by assumption) ?_
                      · go_simp
                      (try simp only [Act.put]); (try simp only [List.setIfInBounds_toArray]); (try simp only [List.set_cons_succ]); (try simp only [List.set_cons_zero])
                      refine wpAnyH_ready (rs := [19]) (by kernel_rfl) (by simp) (AllReadyH.cons (i := 19) rfl (fun K hK => ?_) AllReadyH.nil)
                      go_simp
                      refine hK.out _ _ (KvS.from_ HM9.out) (fun hHeld => ?_)
                      clear hK K
                      (try simp only [Act.put]); (try simp only [List.setIfInBounds_toArray]); (try simp only [List.set_cons_succ]); (try simp only [List.set_cons_zero])
                      refine wpAnyH_ready (rs := [20]) (by kernel_rfl) (by simp) (AllReadyH.cons (i := 20) rfl (fun K hK => ?_) AllReadyH.nil)
                      go_simp
                      refine hK.out _ _ (KvS.from_ HM9.out) (fun hHeld => ?_)
                      clear hK K
                      (try simp only [Act.put]); (try simp only [List.setIfInBounds_toArray]); (try simp only [List.set_cons_succ]); (try simp only [List.set_cons_zero])
                      refine wpAnyH_done (by kernel_rfl) ?_ _
                      go_wp2
                      go_meet
                      case rel => exact ⟨rfl, HM9.out⟩
              · refine step_append_e byteET rfl (.tmp 58) (.tmp 61) rfl wr.heap.size (.slice (some ⟨g73, 0, none⟩) La c73) La za (by simp [Act.eval]) (HST73.out.own _ rfl) ⟨b60, 0, none⟩ [y] 1 1 (by simp [Act.eval]) rfl (HST73.out.lrd _ rfl) (by omega) (by omega) (by unfold maxLen; omega) HST73.out.gr.size ?_
                intro g81 c81 W81 ho hg hgg
                have HST81 : Hid (Mk9 wr W81 za La y none none none (some (g81, c81))) := HST73.out.apped ho hg HYA.out
                refine hK.out _ _ (HFR.out.trans HST81.out.gr) (fun hHeld => ?_)
                clear hK K ho hg hgg
                clear HST73
                (try simp only [Act.put]); (try simp only [List.setIfInBounds_toArray]); (try simp only [List.set_cons_succ]); (try simp only [List.set_cons_zero])
                refine wpAnyH_ready (rs := [1]) (by kernel_rfl) (by simp) (AllReadyH.cons (i := 1) rfl (fun K hK => ?_) AllReadyH.nil)
                · go_simp
                  have HST82 : Hid (Mk9 wr (W81.alloc (.cells #[.string ⟨#[97]⟩, .string ⟨#[98]⟩] 9)) za La y (some (W81.heap.size)) none none (some (g81, c81))) := HST81.out.strs
                  refine hK.out _ _ (HFR.out.trans HST82.out.gr) (fun hHeld => ?_)
                  clear hK K
                  generalize W81.alloc (.cells #[.string ⟨#[97]⟩, .string ⟨#[98]⟩] 9) = W82 at HST82 hHeld ⊢
                  generalize W81.heap.size = s82 at HST82 ⊢
                  clear HST81
                  (try simp only [Act.put]); (try simp only [List.setIfInBounds_toArray]); (try simp only [List.set_cons_succ]); (try simp only [List.set_cons_zero])
                  refine wpAnyH_take (i := 4) (v := .pointer (some ⟨s82, ix, none⟩)) rfl (by kernel_rfl) (by kernel_rfl) (by kernel_rfl) (fun _ _ _ h => h) (Or.inl ⟨by rfl, fun w hSw => ?_⟩) (by assumption) ?_
                  · go_simp
                  (try simp only [Act.put]); (try simp only [List.setIfInBounds_toArray]); (try simp only [List.set_cons_succ]); (try simp only [List.set_cons_zero])
                  refine wpAnyH_ready (rs := [5]) (by kernel_rfl) (by simp) (AllReadyH.cons (i := 5) rfl (fun K hK => ?_) AllReadyH.nil)
                  · have z5 := HST82.out.cell HIX.out
                    go_simp
                    refine hK.out _ _ (HFR.out.trans HST82.out.gr) (fun hHeld => ?_)
                    clear hK K z5
                    (try simp only [Act.put]); (try simp only [List.setIfInBounds_toArray]); (try simp only [List.set_cons_succ]); (try simp only [List.set_cons_zero])
                    refine wpAnyH_ready (rs := [15]) (by kernel_rfl) (by simp) (AllReadyH.cons (i := 15) rfl (fun K hK => ?_) AllReadyH.nil)
                    · go_simp
                      refine (HSET.out W82 g81 c81 HST82.out.gr (HST82.out.done _ rfl)).mono ?_
                      rintro e W84 ⟨⟨u9, rfl⟩, hM⟩
                      have HM9 : Hid (ManyAt w W84 d mb sb (i + 1) za) := hM
                      refine hK.out _ _ (KvS.from_ hM) (fun hHeld => ?_)
                      clear hK K hM
                      clear HST82
                      (try simp only [Act.put]); (try simp only [List.setIfInBounds_toArray]); (try simp only [List.set_cons_succ]); (try simp only [List.set_cons_zero])
                      refine wpAnyH_take (i := 16) (v := .tuple #[u9, .int .i64 0]) rfl (by kernel_rfl) (by kernel_rfl) (by kernel_rfl) (fun _ _ _ h => h) (Or.inl ⟨by rfl, fun w hSw => ?_⟩) (by assumption) ?_
                      · go_simp
                      (try simp only [Act.put]); (try simp only [List.setIfInBounds_toArray]); (try simp only [List.set_cons_succ]); (try simp only [List.set_cons_zero])
                      refine wpAnyH_take (i := 17) (v := u9) rfl (by kernel_rfl) (by kernel_rfl) (by kernel_rfl) (fun _ _ _ h => h) (Or.inl ⟨by rfl, fun w hSw => ?_⟩) (by assumption) ?_
                      · go_simp
                      (try simp only [Act.put]); (try simp only [List.setIfInBounds_toArray]); (try simp only [List.set_cons_succ]); (try simp only [List.set_cons_zero])
                      refine wpAnyH_take (i := 18) (v := .int .i64 0) rfl (by kernel_rfl) (by kernel_rfl) (by kernel_rfl) (fun _ _ _ h => h) (Or.inl ⟨by rfl, fun w hSw => ?_⟩) (by assumption) ?_
                      · go_simp
                      (try simp only [Act.put]); (try simp only [List.setIfInBounds_toArray]); (try simp only [List.set_cons_succ]); (try simp only [List.set_cons_zero])
                      refine wpAnyH_ready (rs := [19]) (by kernel_rfl) (by simp) (AllReadyH.cons (i := 19) rfl (fun K hK => ?_) AllReadyH.nil)
                      go_simp
                      refine hK.out _ _ (KvS.from_ HM9.out) (fun hHeld => ?_)
                      clear hK K
                      (try simp only [Act.put]); (try simp only [List.setIfInBounds_toArray]); (try simp only [List.set_cons_succ]); (try simp only [List.set_cons_zero])
                      refine wpAnyH_ready (rs := [20]) (by kernel_rfl) (by simp) (AllReadyH.cons (i := 20) rfl (fun K hK => ?_) AllReadyH.nil)
                      go_simp
                      refine hK.out _ _ (KvS.from_ HM9.out) (fun hHeld => ?_)
                      clear hK K
                      (try simp only [Act.put]); (try simp only [List.setIfInBounds_toArray]); (try simp only [List.set_cons_succ]); (try simp only [List.set_cons_zero])
                      refine wpAnyH_done (by kernel_rfl) ?_ _
                      go_wp2
                      go_meet
                      case rel => exact ⟨rfl, HM9.out⟩
        case rest =>
          obtain ⟨rfl, hM⟩ := hcut
          have HM9 : Hid (ManyAt w wc d mb sb (i + 1) za) := hM
          have HI : Hid (I = (i : Int)) := hI
          clear hM hix hq hI hy HM HST0 HSET HYA HYB HIX r1 r2 r3 r4 r5 r6 r7 r8 r9
          go_wp2
          go_roundw
          case rel => exact ⟨i + 1, by omega, by rw [HI.out]; go_num, HM9.out⟩
          case measure => have := HI.out; simp [intOf]; omega
      · have hiN : i = Nm := by omega
        subst hiN
        have HLS := many_list HM.out (by omega)
        clear HFR
        go_wp2_with fail
        refine HLS.mono ?_
        rintro e w4 ⟨la, lc, ll, rfl, hll, hg4⟩
        have q2 : decide ((66 : Int) < (ll : Int)) = false := by simp; omega
        have hM4 : ManyAt w w4 d mb sb i za := KvS.grown HM.out hg4
        have HAG := kv_again hM4 (by omega)
        have hll2 : (ll : Int) ≤ 66 := by omega
        clear HLS HM hg4 hM4 hll
        go_wp2_with fail
        refine HAG.mono ?_
        rintro e w5 ⟨sb2, rfl, hkv5, hg5⟩
        have HM5 : Hid (ManyAt w w5 d mb sb2 i za) := hkv5
        clear HAG hkv5 hg5
        go_wp2_with fail
        go_loopw [15] (fun t15 wr2 => ∃ k : Nat, k ≤ 2 ∧ t15 = .int .i64 k ∧ ManyAt w wr2 d mb sb2 i za) (fun t15 _ => 2 - (intOf t15).toNat)
        case atStart => exact ⟨0, by omega, rfl, HM5.out⟩
        case round =>
          obtain ⟨k, hk, rfl, hM⟩ := hrel
          rename World => wr2
          have HM6 : Hid (ManyAt w wr2 d mb sb2 i za) := hM
          clear hM HM5
          by_cases hkk : k < 2 ∧ k < i
          · obtain ⟨hk2, hki⟩ := hkk
            have h1 : (k : Int) < 2 := by omega
            have h2 : (k : Int) < (i : Int) := by omega
            obtain ⟨LS, eLS⟩ : ∃ LS, LS = lastN2 i k := ⟨_, rfl⟩
            obtain ⟨q3, eq3⟩ : ∃ q3, q3 = LS / 2 := ⟨_, rfl⟩
            obtain ⟨y2, ey2⟩ : ∃ y2 : Int, y2 = (LS : Int) % 256 := ⟨_, rfl⟩
            obtain ⟨LP, eLP⟩ : ∃ LP : Nat, i = LP + 1 := ⟨i - 1, by omega⟩
            have hLS : LS ≤ 400 := by rw [eLS]; unfold lastN2; split <;> omega
            have HY2 : Hid (0 ≤ y2 ∧ y2 ≤ 255) := by show _ ∧ _; omega
            have HGT : Hid (Calls Tryz.prog 20 #[.pointer (some ⟨sb2, 0, none⟩), .string (keyN k)] (wr2.alloc (.cells #[.string ⟨#[97]⟩, .string ⟨#[98]⟩] 9)) fun e w' => ∃ a C, e = .returned (.tuple #[.slice (some a) (La + 1) C, .int .u64 ((q3 : Int) + 1), .int .i64 0]) ∧ Rd w' (some a) (za ++ [y2]) ∧ ManyAt w w' d mb sb2 i za) := by
              have hgr := World.grownBy_alloc wr2 (.cells #[.string ⟨#[97]⟩, .string ⟨#[98]⟩] 9) none
              refine (many_read (KvS.grown HM6.out hgr) k hk2 hki HRA.out.1.2 La HRA.out.2).mono ?_
              rintro e w' ⟨a, C, rfl, k1, k2⟩
              rw [← eLS] at k1 ⊢
              rw [← ey2] at k1
              exact ⟨a, C, by rw [eq3]; simp, k1, KvS.grown (KvS.grown HM6.out hgr) k2⟩
            have hkey : keyN k = if k = 0 then ⟨#[97]⟩ else ⟨#[98]⟩ := by
              unfold keyN
              by_cases h0 : k = 0
              · subst h0; rfl
              · have : k = 1 := by omega
                subst this; rfl
            have s1 : IntKind.u8.wrap (LS : Int) = y2 := by rw [ey2]; simp [IntKind.wrap, IntKind.bits, IntKind.signed]
            have s2 : (LS : Int) % 256 = y2 := by rw [ey2]
            have s3 : (LS : Int).tdiv 2 = (q3 : Int) := by rw [Int.tdiv_eq_ediv_of_nonneg (by omega)]; omega
            have s4 : (LS : Int) / 2 = (q3 : Int) := by omega
            have s5 : IntKind.u64.wrap ((q3 : Int) + 1) = (q3 : Int) + 1 := wrap_idU _ (by omega)
            have s6 : IntKind.i64.wrap (q3 : Int) = (q3 : Int) := wrap_id _ (by omega)
            have s7 : (q3 : Int) ≤ 200 := by omega
            have p1 : (i : Int) - 1 = (LP : Int) := by omega
            have hm : (LP % 2 = k ∧ LS = LP) ∨ (LP % 2 ≠ k ∧ LS + 1 = LP) := by
              rw [eLS]
              unfold lastN2
              have e1 : i - 1 = LP := by omega
              rw [e1]
              by_cases h0 : LP % 2 = k
              · exact .inl ⟨h0, by rw [if_pos h0]⟩
              · exact .inr ⟨h0, by rw [if_neg h0]; omega⟩
            clear eLS eq3 ey2 HM6
            rcases hm with ⟨hm1, hm2⟩ | ⟨hm1, hm2⟩
            · have p2 : (LP : Int).tmod 2 = (k : Int) := by rw [Int.tmod_eq_emod_of_nonneg (by omega)]; omega
              have p3 : (LP : Int) % 2 = (k : Int) := by omega
              subst hm2
              have p4 : ((k : Int) != (k : Int)) = false := by simp
              obtain hk0 | hk0 : k = 0 ∨ k = 1 := by omega
              all_goals subst hk0
              all_goals clear hm1 hkey hki hk2 hk h1 eLP
              all_goals
                have HGT' := HGT.out
                go_wp2_with fail
                refine HGT'.mono ?_
                rintro e w7 ⟨xa, xC, rfl, hxr, hM7⟩
                have HXR : Hid (Rd w7 (some xa) (za ++ [y2])) := hxr
                have HM7 : Hid (ManyAt w w7 d mb sb2 i za) := hM7
                have HC7 := HCA.out w7 (KvS.from_ hM7)
                clear hxr hM7 HGT HGT'
                go_wp2_with fail
                refine HC7.mono ?_
                rintro e w8 ⟨g8, c8, rfl, ho8, hg8⟩
                have HO8 : Hid (SOwn byteE 5 (w8.alloc (.cells #[.int .u8 y2] 5)) w7.heap.size (.slice (some ⟨g8, 0, none⟩) La c8) La za) := SOwn.kept (own_sown ho8) (World.grownBy_alloc w8 _ none) (by simp [Value.ownBlock])
                have HLIT : Hid (SRd byteE (w8.alloc (.cells #[.int .u8 y2] 5)) (some ⟨w8.heap.size, 0, none⟩) [y2]) := rd_srd (rd_lit w8 [y2] (by simpa using HY2.out))
                have HG8 : Hid (w7.grownBy (w8.alloc (.cells #[.int .u8 y2] 5)) none) := hg8.trans (World.grownBy_alloc w8 _ none)
                clear ho8 hg8 HC7
                go_wp2_with (at_builtin; refine wpList_append_g byteET rfl (.tmp 129) (.tmp 132) rfl w7.heap.size (.slice (some ⟨g8, 0, none⟩) La c8) La za rfl HO8.out ⟨w8.heap.size, 0, none⟩ [y2] 1 1 rfl rfl HLIT.out (by decide) (by omega) (by unfold maxLen; omega) HG8.out.size ?_; intro g9 c9 w9 ho9 hg9 hgg9; have HG9 : Hid (w7.grownBy w9 none) := gb_trans HG8.out hg9 (fun x hx => .inl (HO8.out.block x hx).1); have HR9 : Hid (Rd w9 (some ⟨g9, 0, none⟩) (za ++ [y2])) := srd_rd (SOwn.rd ho9) (fun z hz => by rcases List.mem_append.1 hz with h | h; exact HRA.out.1.2 z h; simp at h; subst h; exact HY2.out); clear ho9 hg9 hgg9)
                have HSM : Hid (Calls Tryz.prog 21 #[.slice (some xa) (La + 1) xC, .slice (some ⟨g9, 0, none⟩) (La + 1) c9] w9 fun e w' => e = .returned (.bool true) ∧ w9.grownBy w' none) := by
                  refine (same_any (some xa) (some ⟨g9, 0, none⟩) (za ++ [y2]) (za ++ [y2]) (La + 1) (La + 1) xC c9 w9 (HXR.out.grown HG9.out (by simp)) HR9.out (by simp [HRA.out.2]) (by simp [HRA.out.2]) (by omega)).mono ?_
                  rintro e w' ⟨rfl, hg⟩
                  exact ⟨by simp, hg⟩
                clear HXR HR9 HO8 HLIT HG8
                refine HSM.out.mono ?_
                rintro e w10 ⟨rfl, hg10⟩
                have HM10 : Hid (ManyAt w w10 d mb sb2 i za) := KvS.grown (KvS.grown HM7.out HG9.out) hg10
                clear hg10 HSM HM7 HG9
                go_wp2
                go_roundw
                case rel => first | exact ⟨1, by omega, by go_num, HM10.out⟩ | exact ⟨2, by omega, by go_num, HM10.out⟩
                case measure => simp [intOf]
            · obtain ⟨m2, em2⟩ : ∃ m2, m2 = LP % 2 := ⟨_, rfl⟩
              have p2 : (LP : Int).tmod 2 = (m2 : Int) := by rw [Int.tmod_eq_emod_of_nonneg (by omega)]; omega
              have p3 : (LP : Int) % 2 = (m2 : Int) := by omega
              have p4 : ((m2 : Int) != (k : Int)) = true := by simp; omega
              have p5 : (LP : Int) - 1 = (LS : Int) := by omega
              obtain hk0 | hk0 : k = 0 ∨ k = 1 := by omega
              all_goals subst hk0
              all_goals clear hm1 hm2 hkey hki hk2 hk h1 eLP em2
              all_goals
                have HGT' := HGT.out
                go_wp2_with fail
                refine HGT'.mono ?_
                rintro e w7 ⟨xa, xC, rfl, hxr, hM7⟩
                have HXR : Hid (Rd w7 (some xa) (za ++ [y2])) := hxr
                have HM7 : Hid (ManyAt w w7 d mb sb2 i za) := hM7
                have HC7 := HCA.out w7 (KvS.from_ hM7)
                clear hxr hM7 HGT HGT'
                go_wp2_with fail
                refine HC7.mono ?_
                rintro e w8 ⟨g8, c8, rfl, ho8, hg8⟩
                have HO8 : Hid (SOwn byteE 5 (w8.alloc (.cells #[.int .u8 y2] 5)) w7.heap.size (.slice (some ⟨g8, 0, none⟩) La c8) La za) := SOwn.kept (own_sown ho8) (World.grownBy_alloc w8 _ none) (by simp [Value.ownBlock])
                have HLIT : Hid (SRd byteE (w8.alloc (.cells #[.int .u8 y2] 5)) (some ⟨w8.heap.size, 0, none⟩) [y2]) := rd_srd (rd_lit w8 [y2] (by simpa using HY2.out))
                have HG8 : Hid (w7.grownBy (w8.alloc (.cells #[.int .u8 y2] 5)) none) := hg8.trans (World.grownBy_alloc w8 _ none)
                clear ho8 hg8 HC7
                go_wp2_with (at_builtin; refine wpList_append_g byteET rfl (.tmp 129) (.tmp 132) rfl w7.heap.size (.slice (some ⟨g8, 0, none⟩) La c8) La za rfl HO8.out ⟨w8.heap.size, 0, none⟩ [y2] 1 1 rfl rfl HLIT.out (by decide) (by omega) (by unfold maxLen; omega) HG8.out.size ?_; intro g9 c9 w9 ho9 hg9 hgg9; have HG9 : Hid (w7.grownBy w9 none) := gb_trans HG8.out hg9 (fun x hx => .inl (HO8.out.block x hx).1); have HR9 : Hid (Rd w9 (some ⟨g9, 0, none⟩) (za ++ [y2])) := srd_rd (SOwn.rd ho9) (fun z hz => by rcases List.mem_append.1 hz with h | h; exact HRA.out.1.2 z h; simp at h; subst h; exact HY2.out); clear ho9 hg9 hgg9)
                have HSM : Hid (Calls Tryz.prog 21 #[.slice (some xa) (La + 1) xC, .slice (some ⟨g9, 0, none⟩) (La + 1) c9] w9 fun e w' => e = .returned (.bool true) ∧ w9.grownBy w' none) := by
                  refine (same_any (some xa) (some ⟨g9, 0, none⟩) (za ++ [y2]) (za ++ [y2]) (La + 1) (La + 1) xC c9 w9 (HXR.out.grown HG9.out (by simp)) HR9.out (by simp [HRA.out.2]) (by simp [HRA.out.2]) (by omega)).mono ?_
                  rintro e w' ⟨rfl, hg⟩
                  exact ⟨by simp, hg⟩
                clear HXR HR9 HO8 HLIT HG8
                refine HSM.out.mono ?_
                rintro e w10 ⟨rfl, hg10⟩
                have HM10 : Hid (ManyAt w w10 d mb sb2 i za) := KvS.grown (KvS.grown HM7.out HG9.out) hg10
                clear hg10 HSM HM7 HG9
                go_wp2
                go_roundw
                case rel => first | exact ⟨1, by omega, by go_num, HM10.out⟩ | exact ⟨2, by omega, by go_num, HM10.out⟩
                case measure => simp [intOf]
          · have HC := HAW.out _ (KvS.from_ HM6.out)
            have hex : k = 2 ∨ (k = 0 ∧ ¬ 0 < i) ∨ (k = 1 ∧ ¬ 1 < i) := by omega
            clear hkk
            rcases hex with rfl | ⟨rfl, e2⟩ | ⟨rfl, e2⟩
            all_goals try have e3 : ¬ (1 : Int) < (i : Int) := by omega
            all_goals try have e4 : ¬ (0 : Int) < (i : Int) := by omega
            all_goals
              go_wp2_with fail
              refine HC.mono ?_
              rintro e w9 ⟨rfl, hg9⟩
              have HG9 : Hid (w.grownBy w9 none) := hg9
              clear hg9 HC
              go_wp2
              go_ret
              exact ⟨rfl, HG9.out⟩
  · have q1 : decide ((2000 : Int) < (La : Int)) = true := by simp; omega
    go_enter Tryz.func6, Tryz.ntmps6
    go_wp2_with fail
    refine HD.out.mono ?_
    rintro e w1 ⟨d, mb, B, rfl, hde, hg1⟩
    have HO := kv_open0 hde
    have HG1 : Hid (w.grownBy w1 none) := hg1
    clear HD hde hg1
    go_wp2_with fail
    refine HO.mono ?_
    rintro e w2 ⟨sb, rfl, hkv, hg2⟩
    have HG2 : Hid (w.grownBy w2 none) := HG1.out.trans hg2
    clear HO hg2 hkv
    go_wp2_with fail
    refine (HAW.out _ HG2.out).mono ?_
    rintro e w5 ⟨rfl, hg5⟩
    have HG5 : Hid (w.grownBy w5 none) := hg5
    clear hg5
    go_wp2
    go_ret
    exact ⟨rfl, HG5.out⟩
end Go.Proofs.YtgpgkpciajajcaaGreatDoor

