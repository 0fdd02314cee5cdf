/- Synced bytes stay through every power cut; of the rest a beginning stays. (Printed by mk_synced.py.) -/
import Derived.Test.YtdnkdopjlobklaaWDiskArmed
import Derived.Deep.RegionHeld3
import Derived.Deep.CutRange
namespace Go.Proofs.Ytdnkdopjlobklaa
open Go.RowKit Go.Maps
set_option linter.unusedVariables false
set_option maxRecDepth 20000

theorem step_append_g {ops : Array Oper} {o : Oper} {a : Act} {w : World} {K : Act → World → Prop} {Q : Exit → Act → World → Prop} {E : Prop} (hw : Region.wanted o (yielded ops a.tmps) = true) (s x : Operand)
    (ho : o.op = .call { callee := .builtin .append, args := #[s, x], argTypes := #[31, 31] }) (base : Nat) (v : Value) (n : Nat) (xs : List Int) (hs : a.eval s = v) (hown : SOwn byteE 5 w base v n xs)
    (src : Option Addr) (zs : List Int) (m cap : Nat) (hx : a.eval x = .slice src m cap) (hm : zs.length = m) (hr : SRd byteE w src zs) (hnil : src = none → cap = 0) (hlen : (n + m) * 1 ≤ 140737488355328) (hmax : n + m ≤ maxLen) (hb : base ≤ w.heap.size)
    (h : ∀ v' w', SOwn byteE 5 w' base v' (n + m) (xs ++ zs) → w.grownBy w' v.ownBlock → K (a.put o.dst v') w') : if Region.wanted o (yielded ops a.tmps) = true then Oper.wp Try.prog o a w K Q else E := by
  rw [if_pos hw]
  obtain ⟨i0, z, hi, hz0, hz1, hz2, hz3⟩ := byteET.info
  subst hm
  cases src with
  | none =>
    obtain rfl := hnil rfl
    obtain rfl := hr.none
    have hrun := run_append_owned_none (P := Try.prog) (w := w) base 31 o.type 5 i0 byteE.size byteET.under hi v n (byteE.flat xs) hown
    unfold Oper.wp
    simp [execOp, ho, resolve, invoke, builtin, hs, hx, hrun, Result.andThen]
    exact h v w (by simpa using hown) (World.grownBy.refl _ _)
  | some ad =>
    obtain ⟨v', w', hrun, hown', hg, _, hwh⟩ := run_append_own_at (P := Try.prog) w base 31 o.type 5 i0 z byteE.size 1 byteET.under hi hz0 hz1 hz2 hz3 byteE.pos v n (byteE.flat xs) hown ad zs.length cap (byteE.flat zs) (byteE.flat_len zs) hr.news (byteE.flat_one zs) hmax hlen hb
    unfold Oper.wp
    simp [execOp, ho, resolve, invoke, builtin, hs, hx, hrun, Result.andThen]
    rw [← byteE.flat_app] at hown'
    exact h v' w' hown' hg
theorem rd_srd {w : World} {a : Option Addr} {zs : List Int} (h : Rd w a zs) : SRd byteE w a zs := by
  rcases h.1 with e | ⟨b, off, e, hc⟩
  · exact .inl e
  · refine .inr ⟨b, off, e, fun j v hj => ?_⟩
    rw [byteE_flat, List.getElem?_map] at hj
    cases hz : zs[j]? with
    | none => rw [hz] at hj; cases hj
    | some z =>
      rw [hz] at hj
      simp only [Option.map_some, Option.some.injEq] at hj
      have hl := (List.getElem?_eq_some_iff.1 hz).1
      rw [hc j hl, ← hj]
      simp [List.getD, hz]
theorem srd_take {w : World} {a : Option Addr} {l : List Int} (h : SRd byteE w a l) (k : Nat) : SRd byteE w a (l.take k) := by
  rcases h with h | ⟨b, off, e, h⟩
  · rw [h]; exact .inl (by simp)
  · refine .inr ⟨b, off, e, fun j v hj => h j v ?_⟩
    rw [byteE.flat_take] at hj
    rw [List.getElem?_take] at hj
    split at hj
    · exact hj
    · cases hj
theorem own_sown {w : World} {base g n c : Nat} {zs : List Int} (h : Own w base g n c zs) : SOwn byteE 5 w base (.slice (some ⟨g, 0, none⟩) n c) n zs := by
  unfold SOwn
  rw [byteE_flat]
  exact h.1
/-- What stays of b, as the law reckons it. -/
theorem keptN_law (keep : Int) (u : Nat) : (keptN keep u : Int) = if 0 < keep then keep % ((u : Int) + 1) else 0 := by
  unfold keptN
  have h1 := Int.emod_nonneg (if keep < 0 then 0 else keep) (show (u : Int) + 1 ≠ 0 by omega)
  rw [Int.toNat_of_nonneg h1]
  by_cases h : 0 < keep
  · rw [if_pos h, if_neg (by omega)]
  · rw [if_neg h]
    by_cases h' : keep < 0
    · rw [if_pos h']; simp
    · obtain rfl : keep = 0 := by omega
      simp
set_option maxHeartbeats 8000000 in
theorem diskSynced_arm (a0 : Option Addr) (z0 : List Int) (cap0 : Nat) (a1 : Option Addr) (z1 : List Int) (cap1 : Nat) (keep : Int) (W : World) (r0 : Rd W a0 z0) (n0 : a0 = none → cap0 = 0) (r1 : Rd W a1 z1) (n1 : a1 = none → cap1 = 0) (hc1 : z1.length ≤ cap1) (hsm : z0.length + z1.length ≤ 10000) (hk : -9223372036854775808 ≤ keep ∧ keep ≤ 9223372036854775807) :
    Calls Try.prog 5 #[.slice a0 z0.length cap0, .slice a1 z1.length cap1, .int .i64 keep, .bool true] W fun e w' => e = .returned (.bool true) ∧ Below W.heap.size W w' := by
  have HN : Hid (Calls Try.prog 8 #[] W fun e w' => ∃ d mb B, e = .returned (.pointer (some ⟨d, 0, none⟩)) ∧ DV w' W.heap.size d mb 0 false false 0 0 0 V0 B ∧ From W w' B) := by
    refine (v_new W).mono ?_
    rintro e w' ⟨d, mb, B, rfl, h1, h2, h3⟩
    exact ⟨d, mb, B, rfl, h1, h2, fun k hk hb => by have := h3 k hb; omega⟩
  have HC0 : Hid (∀ w, W.grownBy w none → Calls Try.prog 16 #[.slice a0 z0.length cap0] w fun e w' => ∃ g c, e = .returned (.slice (some ⟨g, 0, none⟩) z0.length c) ∧ Own w' w.heap.size g z0.length c z0 ∧ w.grownBy w' none) := fun w hg => copy_any a0 z0 cap0 w (r0.grown hg (by simp)) n0 (by omega)
  have HC1 : Hid (∀ w, W.grownBy w none → Calls Try.prog 16 #[.slice a1 z1.length cap1] w fun e w' => ∃ g c, e = .returned (.slice (some ⟨g, 0, none⟩) z1.length c) ∧ Own w' w.heap.size g z1.length c z1 ∧ w.grownBy w' none) := fun w hg => copy_any a1 z1 cap1 w (r1.grown hg (by simp)) n1 (by omega)
  have HA1 : Hid (∀ (d mb g c : Nat) (B : Nat → Prop) (w1 w2 : World), DV w1 W.heap.size d mb 0 false false 0 0 0 V0 B → From W w1 B → Own w2 w1.heap.size g z0.length c z0 → w1.grownBy w2 none → Calls Try.prog 15 #[.pointer (some ⟨d, 0, none⟩), .string ⟨#[102]⟩, .slice (some ⟨g, 0, none⟩) z0.length c] w2 fun e w' => e = .returned (.int .i64 0) ∧ ∃ n' B', n' ≤ 1 ∧ DV w' W.heap.size d mb n' false false 0 0 1 (setV V0 nmF (some (z0, 0))) B' ∧ From W w' B') := by
    intro d mb g c B w1 w2 h hf ho hg
    obtain ⟨l1, l2⟩ := h.lts
    have hge := ho.ge.1
    refine (v_append W.heap.size d mb 0 0 0 0 V0 B nmF ⟨g, 0, none⟩ z0 z0.length c w2 (h.kept hg) nameF (by omega) (by omega) (SOwn.rd (own_sown ho)) rfl ho.2 (by show 0 + z0.length ≤ _; omega) (Nat.le_trans hf.1.size hg.size) (by show g ≠ mb; omega) (by show g ≠ d; omega)).mono ?_
    rintro e w' ⟨rfl, n', B', hn', hd', hst⟩
    exact ⟨rfl, n', B', hn', hd', (hf.grown hg).step hst⟩
  have HS : Hid (∀ (d mb n : Nat) (B : Nat → Prop) (w1 : World), DV w1 W.heap.size d mb n false false 0 0 1 (setV V0 nmF (some (z0, 0))) B → From W w1 B → Calls Try.prog 17 #[.pointer (some ⟨d, 0, none⟩), .string ⟨#[102]⟩] w1 fun e w' => e = .returned (.int .i64 0) ∧ ∃ B', DV w' W.heap.size d mb n false false 0 0 2 (setV (setV V0 nmF (some (z0, 0))) nmF (some (z0, z0.length))) B' ∧ From W w' B') := by
    intro d mb n B w1 h hf
    refine (v_sync W.heap.size d mb n 0 0 1 _ B nmF z0 0 w1 h nameF (setV_same _ _ _) (by omega)).mono ?_
    rintro e w' ⟨rfl, B', h1, h2⟩
    exact ⟨rfl, B', h1, hf.step h2⟩
  have HAR : Hid (∀ (d mb n : Nat) (V : Cont) (B : Nat → Prop) (w1 : World), DV w1 W.heap.size d mb n false false 0 0 2 V B → From W w1 B → Calls Try.prog 18 #[.pointer (some ⟨d, 0, none⟩), .int .i64 0, .int .i64 keep] w1 fun e w' => e = .returned (.tuple #[]) ∧ DV w' W.heap.size d mb n false true 0 keep 2 V B ∧ From W w' B) := by
    intro d mb n V B w1 h hf
    refine (v_arm W.heap.size d mb n false false 0 0 2 0 keep V B w1 h (by omega)).mono ?_
    rintro e w' ⟨rfl, h1, h2⟩
    exact ⟨rfl, h1, hf.step h2⟩
  have HA2 : Hid (∀ (d mb n g c : Nat) (V : Cont) (B : Nat → Prop) (w1 w2 : World), n ≤ 1 → V nmF = some (z0, z0.length) → DV w1 W.heap.size d mb n false true 0 keep 2 V B → From W w1 B → Own w2 w1.heap.size g z1.length c z1 → w1.grownBy w2 none → Calls Try.prog 15 #[.pointer (some ⟨d, 0, none⟩), .string ⟨#[102]⟩, .slice (some ⟨g, 0, none⟩) z1.length c] w2 fun e w' => e = .returned (.int .i64 60) ∧ ∃ n' V' B', DV w' W.heap.size d mb n' true false 0 0 3 V' B' ∧ From W w' B' ∧ V' nmF = some (cutV keep (z0 ++ z1, z0.length))) := by
    intro d mb n g c V B w1 w2 hn hV h hf ho hg
    obtain ⟨l1, l2⟩ := h.lts
    have hge := ho.ge.1
    have eo : oldV V nmF = (z0, z0.length) := by unfold oldV; rw [hV]; rfl
    refine (v_appendCut W.heap.size d mb n keep 2 V B nmF ⟨g, 0, none⟩ z1 z1.length c w2 (h.kept hg) hk nameF (by omega) (by omega) (SOwn.rd (own_sown ho)) rfl ho.2 (by rw [eo]; show z0.length + z1.length ≤ 4194304; omega) (Nat.le_trans hf.1.size hg.size) (by show g ≠ mb; omega) (by show g ≠ d; omega)).mono ?_
    rintro e w' ⟨rfl, n', B', hn', hd', hst⟩
    exact ⟨rfl, n', _, B', hd', (hf.grown hg).step hst, by show (setV _ _ _ nmF).map _ = _; rw [setV_same, eo]; rfl⟩
  have HRO : Hid (∀ (d mb n : Nat) (V : Cont) (B : Nat → Prop) (w1 : World), DV w1 W.heap.size d mb n true false 0 0 3 V B → From W w1 B → Calls Try.prog 20 #[.pointer (some ⟨d, 0, none⟩), .string ⟨#[102]⟩] w1 fun e w' => e = .returned (.tuple #[.slice none 0 0, .int .i64 60]) ∧ DV w' W.heap.size d mb n true false 0 0 3 V B ∧ From W w' B) := by
    intro d mb n V B w1 h hf
    refine (v_readNot W.heap.size d mb n true false 0 0 3 V B nmF 60 w1 h nameF (.inl ⟨rfl, rfl⟩)).mono ?_
    rintro e w' ⟨rfl, hg⟩
    exact ⟨rfl, h.kept hg, hf.grown hg⟩
  have HON : Hid (∀ (d mb n : Nat) (V : Cont) (B : Nat → Prop) (w1 : World), DV w1 W.heap.size d mb n true false 0 0 3 V B → From W w1 B → Calls Try.prog 21 #[.pointer (some ⟨d, 0, none⟩)] w1 fun e w' => e = .returned (.tuple #[]) ∧ DV w' W.heap.size d mb n false false 0 0 3 V B ∧ From W w' B) := by
    intro d mb n V B w1 h hf
    refine (v_on W.heap.size d mb n true false 0 0 3 V B w1 h).mono ?_
    rintro e w' ⟨rfl, h1, h2⟩
    exact ⟨rfl, h1, hf.step h2⟩
  obtain ⟨kN, ekN⟩ : ∃ kN, kN = keptN keep z1.length := ⟨_, rfl⟩
  have hkN : kN ≤ z1.length := by rw [ekN]; exact keptN_le _ _
  have hkL : (kN : Int) = if 0 < keep then keep % ((z1.length : Int) + 1) else 0 := by rw [ekN]; exact keptN_law _ _
  have HR : Hid (∀ (d mb n : Nat) (V : Cont) (B : Nat → Prop) (w1 : World), DV w1 W.heap.size d mb n false false 0 0 3 V B → From W w1 B → V nmF = some (cutV keep (z0 ++ z1, z0.length)) → Calls Try.prog 20 #[.pointer (some ⟨d, 0, none⟩), .string ⟨#[102]⟩] w1 fun e w' => ∃ a' c', e = .returned (.tuple #[.slice a' (z0.length + kN) c', .int .i64 0]) ∧ Rd w' a' (z0 ++ z1.take kN) ∧ W.grownBy w' none) := by
    intro d mb n V B w1 h hf hV
    have e1 : cutV keep (z0 ++ z1, z0.length) = (z0 ++ z1.take kN, z0.length + kN) := by
      unfold cutV
      have e2 : (z0 ++ z1).length - z0.length = z1.length := by rw [List.length_append]; omega
      simp only [e2, ← ekN]
      rw [List.take_append, List.take_of_length_le (by omega)]
      congr 3
      omega
    rw [e1] at hV
    have hl : (z0 ++ z1.take kN).length = z0.length + kN := by rw [List.length_append, List.length_take]; omega
    refine (v_read W.heap.size d mb n false 0 0 3 V B nmF _ _ w1 h nameF hV).mono ?_
    rintro e w' ⟨a', c', rfl, ho, hby, _, hg⟩
    rw [hl] at ho ⊢
    exact ⟨a', c', rfl, srd_rd (SOwn.rd ho) hby, hf.1.trans hg⟩
  have HBY : Hid (∀ z ∈ z0 ++ z1.take kN, 0 ≤ z ∧ z ≤ 255) := by
    intro z hz
    rcases List.mem_append.1 hz with h | h
    · exact r0.2 z h
    · exact r1.2 z (List.mem_of_mem_take h)
  have HT1 : Hid (∀ w, W.grownBy w none → SRd byteE w a1 (z1.take kN)) := fun w hg => srd_take (rd_srd (r1.grown hg (by simp))) kN
  have HLT : Hid ((z1.take kN).length = kN) := by show _ = _; rw [List.length_take]; omega
  have HLS : Hid ((z0 ++ z1.take kN).length = z0.length + kN) := by show _ = _; rw [List.length_append, List.length_take]; omega
  have HN1 : Hid (a1 = none → cap1 = 0) := n1
  obtain ⟨L0, e0⟩ : ∃ L0, L0 = z0.length := ⟨_, rfl⟩
  obtain ⟨L1, e1⟩ : ∃ L1, L1 = z1.length := ⟨_, rfl⟩
  rw [← e0, ← e1] at hsm
  rw [← e1] at hkN hkL hc1
  rw [← e0] at HC0 HR HLS
  rw [← e1] at HC1
  rw [← e0] at HA1
  rw [← e1] at HA2
  rw [← e0, ← e1]
  have E0 : Hid (L0 = z0.length) := e0
  have E1 : Hid (L1 = z1.length) := e1
  clear r0 n0 r1 n1 e0 e1 hk ekN
  have qsm : decide ((10000 : Int) < (L0 : Int) + (L1 : Int)) = false := by simp; omega
  have hL0 : (L0 : Int) ≤ 10000 := by omega
  have hL1 : (L1 : Int) ≤ 10000 := by omega
  go_enter Try.func5, Try.ntmps5
  go_wp2_with fail
  refine HN.out.mono ?_
  rintro e w1 ⟨d, mb, B1, rfl, hd1, hf1⟩
  have HD1 : Hid (DV w1 W.heap.size d mb 0 false false 0 0 0 V0 B1) := hd1
  have HF1 : Hid (From W w1 B1) := hf1
  clear hd1 hf1 HN
  go_wp2_with fail
  refine (HC0.out w1 HF1.out.1).mono ?_
  rintro e w2 ⟨g2, c2, rfl, ho2, hg2⟩
  have HO2 : Hid (Own w2 w1.heap.size g2 L0 c2 z0) := ho2
  have HG2 : Hid (w1.grownBy w2 none) := hg2
  clear ho2 hg2
  go_wp2_with fail
  refine (HA1.out d mb g2 c2 B1 w1 w2 HD1.out HF1.out HO2.out HG2.out).mono ?_
  rintro e w3 ⟨rfl, n3, B3, hn3, hd3, hf3⟩
  have HD3 : Hid (DV w3 W.heap.size d mb n3 false false 0 0 1 (setV V0 nmF (some (z0, 0))) B3) := hd3
  have HF3 : Hid (From W w3 B3) := hf3
  clear hd3 hf3 HA1 HD1 HF1 HO2 HG2
  go_wp2_with fail
  refine (HS.out d mb n3 B3 w3 HD3.out HF3.out).mono ?_
  rintro e w4 ⟨rfl, B4, hd4, hf4⟩
  have HD4 : Hid (DV w4 W.heap.size d mb n3 false false 0 0 2 (setV (setV V0 nmF (some (z0, 0))) nmF (some (z0, z0.length))) B4) := hd4
  have HF4 : Hid (From W w4 B4) := hf4
  clear hd4 hf4 HS HD3 HF3
  go_wp2_with fail
  refine (HAR.out d mb n3 _ B4 w4 HD4.out HF4.out).mono ?_
  rintro e w41 ⟨rfl, hd41, hf41⟩
  have HD41 : Hid (DV w41 W.heap.size d mb n3 false true 0 keep 2 (setV (setV V0 nmF (some (z0, 0))) nmF (some (z0, z0.length))) B4) := hd41
  have HF41 : Hid (From W w41 B4) := hf41
  clear hd41 hf41 HAR HD4 HF4
  go_wp2_with fail
  refine (HC1.out w41 HF41.out.1).mono ?_
  rintro e w5 ⟨g5, c5, rfl, ho5, hg5⟩
  have HO5 : Hid (Own w5 w41.heap.size g5 L1 c5 z1) := ho5
  have HG5 : Hid (w41.grownBy w5 none) := hg5
  clear ho5 hg5
  go_wp2_with fail
  refine (HA2.out d mb n3 g5 c5 _ B4 w41 w5 hn3 (setV_same _ _ _) HD41.out HF41.out HO5.out HG5.out).mono ?_
  rintro e w6 ⟨rfl, n6, V6, B6, hd6, hf6, hv6⟩
  have HD6 : Hid (DV w6 W.heap.size d mb n6 true false 0 0 3 V6 B6) := hd6
  have HF6 : Hid (From W w6 B6) := hf6
  have HV6 : Hid (V6 nmF = some (cutV keep (z0 ++ z1, z0.length))) := hv6
  clear hd6 hf6 hv6 HA2 HD41 HF41 HO5 HG5
  go_wp2_with fail
  refine (HRO.out d mb n6 V6 B6 w6 HD6.out HF6.out).mono ?_
  rintro e w7 ⟨rfl, hd7, hf7⟩
  have HD7 : Hid (DV w7 W.heap.size d mb n6 true false 0 0 3 V6 B6) := hd7
  have HF7 : Hid (From W w7 B6) := hf7
  clear hd7 hf7 HRO HD6 HF6
  go_wp2_with fail
  refine (HON.out d mb n6 V6 B6 w7 HD7.out HF7.out).mono ?_
  rintro e w8 ⟨rfl, hd8, hf8⟩
  have HD8 : Hid (DV w8 W.heap.size d mb n6 false false 0 0 3 V6 B6) := hd8
  have HF8 : Hid (From W w8 B6) := hf8
  clear hd8 hf8 HON HD7 HF7
  go_wp2_with fail
  refine (HR.out d mb n6 V6 B6 w8 HD8.out HF8.out (by have h := HV6.out; rw [← E0.out] at h; exact h)).mono ?_
  rintro e w9 ⟨a9, c9, rfl, hr9, hg9⟩
  have HR9 : Hid (Rd w9 a9 (z0 ++ z1.take kN)) := hr9
  have HG9 : Hid (W.grownBy w9 none) := hg9
  clear hr9 hg9 HR HD8 HF8 HV6
  have HCC : Hid (∀ w, Hid (w9.grownBy w none) → Calls Try.prog 16 #[.slice a0 L0 cap0] w fun e w' => ∃ g c, e = .returned (.slice (some ⟨g, 0, none⟩) L0 c) ∧ Hid (SOwn byteE 5 w' w9.heap.size (.slice (some ⟨g, 0, none⟩) L0 c) L0 z0) ∧ Hid (w9.grownBy w' none)) := by
    intro w hg
    refine (HC0.out w (HG9.out.trans hg.out)).mono ?_
    rintro e w' ⟨g, c, rfl, ho, hg'⟩
    exact ⟨g, c, rfl, SOwn.base (own_sown ho) hg.out.size, hg.out.trans hg'⟩
  have HSB : Hid (∀ (v : Option Addr) (c : Nat) (w : World), Hid (w9.grownBy w none) → Hid (SOwn byteE 5 w w9.heap.size (.slice v (L0 + kN) c) (L0 + kN) (z0 ++ z1.take kN)) → Calls Try.prog 22 #[.slice a9 (L0 + kN) c9, .slice v (L0 + kN) c] w fun e w' => e = .returned (.bool true) ∧ Hid (w9.grownBy w' none)) := by
    intro v c w hg ho
    refine (same_any a9 v _ _ _ _ c9 c w (HR9.out.grown hg.out (by simp)) (srd_rd (SOwn.rd ho.out) HBY.out) HLS.out HLS.out (by omega)).mono ?_
    rintro e w' ⟨rfl, hg'⟩
    exact ⟨by simp, hg.out.trans hg'⟩
  have HAW : Hid (∀ w, Hid (w9.grownBy w none) → Calls Try.prog 11 #[] w fun e w' => e = .returned (.bool true) ∧ Hid (w9.grownBy w' none)) := by
    intro w hg
    refine (awake_disk w).mono ?_
    rintro e w' ⟨rfl, hg'⟩
    exact ⟨rfl, hg.out.trans hg'⟩
  have HTT : Hid (∀ w, Hid (w9.grownBy w none) → SRd byteE w a1 (z1.take kN)) := fun w hg => HT1.out w (HG9.out.trans hg.out)
  have HDR : Hid (w9.grownBy w9.drew none) := gb_drew (World.grownBy.refl _ _)
  have hkc : (kN : Int) ≤ (cap1 : Int) := by omega
  have hk0 : (0 : Int) ≤ (kN : Int) := by omega
  clear HC0 HC1 HT1
  by_cases hpos : 0 < keep
  · have qp : decide (0 < keep) = true := by simpa using hpos
    rw [if_pos hpos] at hkL
    have hkL' : keep % ((L1 : Int) + 1) = (kN : Int) := hkL.symm
    clear hkL
    go_upto_region 18 with fail
    go_region_held3 (fun w' => Hid (w9.grownBy w' none)) (first | exact HDR | assumption) (first
      | (go_at_call 16; refine (HCC.out _ ?h1).mono ?_; (case h1 => first | exact HDR | assumption); rintro e w10 ⟨g10, c10, rfl, ho10, hg10⟩)
      | (go_at_call 22; refine (HSB.out _ _ _ ?h1 ?h2).mono ?_; (case h1 => assumption); (case h2 => assumption); rintro e w12 ⟨rfl, hg12⟩)
      | (go_at_call 11; refine (HAW.out _ ?h1).mono ?_; (case h1 => assumption); rintro e w13 ⟨rfl, hg13⟩)
      | (refine step_append_g rfl (.tmp 97) (.tmp 100) rfl w9.heap.size (.slice (some ⟨g10, 0, none⟩) L0 c10) L0 z0 (by simp [Act.eval]) ho10.out a1 (z1.take kN) kN cap1 (by simp [Act.eval]) HLT.out (HTT.out _ hg10) HN1.out ?b1 ?b2 ?b3 ?_; (case b1 => omega); (case b2 => unfold maxLen; omega); (case b3 => exact hg10.out.size); intro v11 w11 ho11 hg11; obtain ⟨a11, c11, rfl⟩ := sown_slice ho11; have HO11 : Hid (SOwn byteE 5 w11 w9.heap.size (.slice a11 (L0 + kN) c11) (L0 + kN) (z0 ++ z1.take kN)) := ho11; have HG11 : Hid (w9.grownBy w11 none) := gb_trans hg10.out hg11 (fun k hk => .inl (SOwn.block ho10.out k hk).1)))
    all_goals go_wp2
    all_goals go_ret
    all_goals exact ⟨rfl, gb_below (HG9.out.trans hg13.out)⟩
  · have qp : decide (0 < keep) = false := by simpa using hpos
    rw [if_neg hpos] at hkL
    obtain rfl : kN = 0 := by omega
    clear hkL
    go_upto_region 18 with fail
    go_region_held3 (fun w' => Hid (w9.grownBy w' none)) (first | exact HDR | assumption) (first
      | (go_at_call 16; refine (HCC.out _ ?h1).mono ?_; (case h1 => first | exact HDR | assumption); rintro e w10 ⟨g10, c10, rfl, ho10, hg10⟩)
      | (go_at_call 22; refine (HSB.out _ _ _ ?h1 ?h2).mono ?_; (case h1 => assumption); (case h2 => assumption); rintro e w12 ⟨rfl, hg12⟩)
      | (go_at_call 11; refine (HAW.out _ ?h1).mono ?_; (case h1 => assumption); rintro e w13 ⟨rfl, hg13⟩)
      | (refine step_append_g rfl (.tmp 97) (.tmp 100) rfl w9.heap.size (.slice (some ⟨g10, 0, none⟩) L0 c10) L0 z0 (by simp [Act.eval]) ho10.out a1 (z1.take 0) 0 cap1 (by simp [Act.eval]) HLT.out (HTT.out _ hg10) HN1.out ?b1 ?b2 ?b3 ?_; (case b1 => omega); (case b2 => unfold maxLen; omega); (case b3 => exact hg10.out.size); intro v11 w11 ho11 hg11; obtain ⟨a11, c11, rfl⟩ := sown_slice ho11; have HO11 : Hid (SOwn byteE 5 w11 w9.heap.size (.slice a11 (L0 + 0) c11) (L0 + 0) (z0 ++ z1.take 0)) := ho11; have HG11 : Hid (w9.grownBy w11 none) := gb_trans hg10.out hg11 (fun k hk => .inl (SOwn.block ho10.out k hk).1)))
    all_goals go_wp2
    all_goals go_ret
    all_goals exact ⟨rfl, gb_below (HG9.out.trans hg13.out)⟩
set_option maxHeartbeats 8000000 in
theorem diskSynced_plain (a0 : Option Addr) (z0 : List Int) (cap0 : Nat) (a1 : Option Addr) (z1 : List Int) (cap1 : Nat) (keep : Int) (W : World) (r0 : Rd W a0 z0) (n0 : a0 = none → cap0 = 0) (r1 : Rd W a1 z1) (n1 : a1 = none → cap1 = 0) (hc1 : z1.length ≤ cap1) (hsm : z0.length + z1.length ≤ 10000) (hk : -9223372036854775808 ≤ keep ∧ keep ≤ 9223372036854775807) :
    Calls Try.prog 5 #[.slice a0 z0.length cap0, .slice a1 z1.length cap1, .int .i64 keep, .bool false] W fun e w' => e = .returned (.bool true) ∧ Below W.heap.size W w' := by
  have HN : Hid (Calls Try.prog 8 #[] W fun e w' => ∃ d mb B, e = .returned (.pointer (some ⟨d, 0, none⟩)) ∧ DV w' W.heap.size d mb 0 false false 0 0 0 V0 B ∧ From W w' B) := by
    refine (v_new W).mono ?_
    rintro e w' ⟨d, mb, B, rfl, h1, h2, h3⟩
    exact ⟨d, mb, B, rfl, h1, h2, fun k hk hb => by have := h3 k hb; omega⟩
  have HC0 : Hid (∀ w, W.grownBy w none → Calls Try.prog 16 #[.slice a0 z0.length cap0] w fun e w' => ∃ g c, e = .returned (.slice (some ⟨g, 0, none⟩) z0.length c) ∧ Own w' w.heap.size g z0.length c z0 ∧ w.grownBy w' none) := fun w hg => copy_any a0 z0 cap0 w (r0.grown hg (by simp)) n0 (by omega)
  have HC1 : Hid (∀ w, W.grownBy w none → Calls Try.prog 16 #[.slice a1 z1.length cap1] w fun e w' => ∃ g c, e = .returned (.slice (some ⟨g, 0, none⟩) z1.length c) ∧ Own w' w.heap.size g z1.length c z1 ∧ w.grownBy w' none) := fun w hg => copy_any a1 z1 cap1 w (r1.grown hg (by simp)) n1 (by omega)
  have HA1 : Hid (∀ (d mb g c : Nat) (B : Nat → Prop) (w1 w2 : World), DV w1 W.heap.size d mb 0 false false 0 0 0 V0 B → From W w1 B → Own w2 w1.heap.size g z0.length c z0 → w1.grownBy w2 none → Calls Try.prog 15 #[.pointer (some ⟨d, 0, none⟩), .string ⟨#[102]⟩, .slice (some ⟨g, 0, none⟩) z0.length c] w2 fun e w' => e = .returned (.int .i64 0) ∧ ∃ n' B', n' ≤ 1 ∧ DV w' W.heap.size d mb n' false false 0 0 1 (setV V0 nmF (some (z0, 0))) B' ∧ From W w' B') := by
    intro d mb g c B w1 w2 h hf ho hg
    obtain ⟨l1, l2⟩ := h.lts
    have hge := ho.ge.1
    refine (v_append W.heap.size d mb 0 0 0 0 V0 B nmF ⟨g, 0, none⟩ z0 z0.length c w2 (h.kept hg) nameF (by omega) (by omega) (SOwn.rd (own_sown ho)) rfl ho.2 (by show 0 + z0.length ≤ _; omega) (Nat.le_trans hf.1.size hg.size) (by show g ≠ mb; omega) (by show g ≠ d; omega)).mono ?_
    rintro e w' ⟨rfl, n', B', hn', hd', hst⟩
    exact ⟨rfl, n', B', hn', hd', (hf.grown hg).step hst⟩
  have HS : Hid (∀ (d mb n : Nat) (B : Nat → Prop) (w1 : World), DV w1 W.heap.size d mb n false false 0 0 1 (setV V0 nmF (some (z0, 0))) B → From W w1 B → Calls Try.prog 17 #[.pointer (some ⟨d, 0, none⟩), .string ⟨#[102]⟩] w1 fun e w' => e = .returned (.int .i64 0) ∧ ∃ B', DV w' W.heap.size d mb n false false 0 0 2 (setV (setV V0 nmF (some (z0, 0))) nmF (some (z0, z0.length))) B' ∧ From W w' B') := by
    intro d mb n B w1 h hf
    refine (v_sync W.heap.size d mb n 0 0 1 _ B nmF z0 0 w1 h nameF (setV_same _ _ _) (by omega)).mono ?_
    rintro e w' ⟨rfl, B', h1, h2⟩
    exact ⟨rfl, B', h1, hf.step h2⟩
  have HA2 : Hid (∀ (d mb n g c : Nat) (V : Cont) (B : Nat → Prop) (w1 w2 : World), n ≤ 1 → V nmF = some (z0, z0.length) → DV w1 W.heap.size d mb n false false 0 0 2 V B → From W w1 B → Own w2 w1.heap.size g z1.length c z1 → w1.grownBy w2 none → Calls Try.prog 15 #[.pointer (some ⟨d, 0, none⟩), .string ⟨#[102]⟩, .slice (some ⟨g, 0, none⟩) z1.length c] w2 fun e w' => e = .returned (.int .i64 0) ∧ ∃ n' V' B', DV w' W.heap.size d mb n' false false 0 0 3 V' B' ∧ From W w' B' ∧ V' nmF = some (z0 ++ z1, z0.length)) := by
    intro d mb n g c V B w1 w2 hn hV h hf ho hg
    obtain ⟨l1, l2⟩ := h.lts
    have hge := ho.ge.1
    have eo : oldV V nmF = (z0, z0.length) := by unfold oldV; rw [hV]; rfl
    refine (v_append W.heap.size d mb n 0 0 2 V B nmF ⟨g, 0, none⟩ z1 z1.length c w2 (h.kept hg) nameF (by omega) (by omega) (SOwn.rd (own_sown ho)) rfl ho.2 (by rw [eo]; show z0.length + z1.length ≤ 4194304; omega) (Nat.le_trans hf.1.size hg.size) (by show g ≠ mb; omega) (by show g ≠ d; omega)).mono ?_
    rintro e w' ⟨rfl, n', B', hn', hd', hst⟩
    exact ⟨rfl, n', _, B', hd', (hf.grown hg).step hst, by rw [setV_same, eo]⟩
  have HOF : Hid (∀ (d mb n : Nat) (V : Cont) (B : Nat → Prop) (w1 : World), V nmF = some (z0 ++ z1, z0.length) → DV w1 W.heap.size d mb n false false 0 0 3 V B → From W w1 B → Calls Try.prog 19 #[.pointer (some ⟨d, 0, none⟩), .int .i64 keep] w1 fun e w' => e = .returned (.tuple #[]) ∧ ∃ V', DV w' W.heap.size d mb n true false 0 0 3 V' B ∧ From W w' B ∧ V' nmF = some (cutV keep (z0 ++ z1, z0.length))) := by
    intro d mb n V B w1 hV h hf
    refine (v_off W.heap.size d mb n false 0 0 3 keep V B w1 h hk).mono ?_
    rintro e w' ⟨rfl, h1, h2⟩
    exact ⟨rfl, _, h1, hf.step h2, by show (V nmF).map _ = _; rw [hV]; rfl⟩
  have HRO : Hid (∀ (d mb n : Nat) (V : Cont) (B : Nat → Prop) (w1 : World), DV w1 W.heap.size d mb n true false 0 0 3 V B → From W w1 B → Calls Try.prog 20 #[.pointer (some ⟨d, 0, none⟩), .string ⟨#[102]⟩] w1 fun e w' => e = .returned (.tuple #[.slice none 0 0, .int .i64 60]) ∧ DV w' W.heap.size d mb n true false 0 0 3 V B ∧ From W w' B) := by
    intro d mb n V B w1 h hf
    refine (v_readNot W.heap.size d mb n true false 0 0 3 V B nmF 60 w1 h nameF (.inl ⟨rfl, rfl⟩)).mono ?_
    rintro e w' ⟨rfl, hg⟩
    exact ⟨rfl, h.kept hg, hf.grown hg⟩
  have HON : Hid (∀ (d mb n : Nat) (V : Cont) (B : Nat → Prop) (w1 : World), DV w1 W.heap.size d mb n true false 0 0 3 V B → From W w1 B → Calls Try.prog 21 #[.pointer (some ⟨d, 0, none⟩)] w1 fun e w' => e = .returned (.tuple #[]) ∧ DV w' W.heap.size d mb n false false 0 0 3 V B ∧ From W w' B) := by
    intro d mb n V B w1 h hf
    refine (v_on W.heap.size d mb n true false 0 0 3 V B w1 h).mono ?_
    rintro e w' ⟨rfl, h1, h2⟩
    exact ⟨rfl, h1, hf.step h2⟩
  obtain ⟨kN, ekN⟩ : ∃ kN, kN = keptN keep z1.length := ⟨_, rfl⟩
  have hkN : kN ≤ z1.length := by rw [ekN]; exact keptN_le _ _
  have hkL : (kN : Int) = if 0 < keep then keep % ((z1.length : Int) + 1) else 0 := by rw [ekN]; exact keptN_law _ _
  have HR : Hid (∀ (d mb n : Nat) (V : Cont) (B : Nat → Prop) (w1 : World), DV w1 W.heap.size d mb n false false 0 0 3 V B → From W w1 B → V nmF = some (cutV keep (z0 ++ z1, z0.length)) → Calls Try.prog 20 #[.pointer (some ⟨d, 0, none⟩), .string ⟨#[102]⟩] w1 fun e w' => ∃ a' c', e = .returned (.tuple #[.slice a' (z0.length + kN) c', .int .i64 0]) ∧ Rd w' a' (z0 ++ z1.take kN) ∧ W.grownBy w' none) := by
    intro d mb n V B w1 h hf hV
    have e1 : cutV keep (z0 ++ z1, z0.length) = (z0 ++ z1.take kN, z0.length + kN) := by
      unfold cutV
      have e2 : (z0 ++ z1).length - z0.length = z1.length := by rw [List.length_append]; omega
      simp only [e2, ← ekN]
      rw [List.take_append, List.take_of_length_le (by omega)]
      congr 3
      omega
    rw [e1] at hV
    have hl : (z0 ++ z1.take kN).length = z0.length + kN := by rw [List.length_append, List.length_take]; omega
    refine (v_read W.heap.size d mb n false 0 0 3 V B nmF _ _ w1 h nameF hV).mono ?_
    rintro e w' ⟨a', c', rfl, ho, hby, _, hg⟩
    rw [hl] at ho ⊢
    exact ⟨a', c', rfl, srd_rd (SOwn.rd ho) hby, hf.1.trans hg⟩
  have HBY : Hid (∀ z ∈ z0 ++ z1.take kN, 0 ≤ z ∧ z ≤ 255) := by
    intro z hz
    rcases List.mem_append.1 hz with h | h
    · exact r0.2 z h
    · exact r1.2 z (List.mem_of_mem_take h)
  have HT1 : Hid (∀ w, W.grownBy w none → SRd byteE w a1 (z1.take kN)) := fun w hg => srd_take (rd_srd (r1.grown hg (by simp))) kN
  have HLT : Hid ((z1.take kN).length = kN) := by show _ = _; rw [List.length_take]; omega
  have HLS : Hid ((z0 ++ z1.take kN).length = z0.length + kN) := by show _ = _; rw [List.length_append, List.length_take]; omega
  have HN1 : Hid (a1 = none → cap1 = 0) := n1
  obtain ⟨L0, e0⟩ : ∃ L0, L0 = z0.length := ⟨_, rfl⟩
  obtain ⟨L1, e1⟩ : ∃ L1, L1 = z1.length := ⟨_, rfl⟩
  rw [← e0, ← e1] at hsm
  rw [← e1] at hkN hkL hc1
  rw [← e0] at HC0 HR HLS
  rw [← e1] at HC1
  rw [← e0] at HA1
  rw [← e1] at HA2
  rw [← e0, ← e1]
  have E0 : Hid (L0 = z0.length) := e0
  have E1 : Hid (L1 = z1.length) := e1
  clear r0 n0 r1 n1 e0 e1 hk ekN
  have qsm : decide ((10000 : Int) < (L0 : Int) + (L1 : Int)) = false := by simp; omega
  have hL0 : (L0 : Int) ≤ 10000 := by omega
  have hL1 : (L1 : Int) ≤ 10000 := by omega
  go_enter Try.func5, Try.ntmps5
  go_wp2_with fail
  refine HN.out.mono ?_
  rintro e w1 ⟨d, mb, B1, rfl, hd1, hf1⟩
  have HD1 : Hid (DV w1 W.heap.size d mb 0 false false 0 0 0 V0 B1) := hd1
  have HF1 : Hid (From W w1 B1) := hf1
  clear hd1 hf1 HN
  go_wp2_with fail
  refine (HC0.out w1 HF1.out.1).mono ?_
  rintro e w2 ⟨g2, c2, rfl, ho2, hg2⟩
  have HO2 : Hid (Own w2 w1.heap.size g2 L0 c2 z0) := ho2
  have HG2 : Hid (w1.grownBy w2 none) := hg2
  clear ho2 hg2
  go_wp2_with fail
  refine (HA1.out d mb g2 c2 B1 w1 w2 HD1.out HF1.out HO2.out HG2.out).mono ?_
  rintro e w3 ⟨rfl, n3, B3, hn3, hd3, hf3⟩
  have HD3 : Hid (DV w3 W.heap.size d mb n3 false false 0 0 1 (setV V0 nmF (some (z0, 0))) B3) := hd3
  have HF3 : Hid (From W w3 B3) := hf3
  clear hd3 hf3 HA1 HD1 HF1 HO2 HG2
  go_wp2_with fail
  refine (HS.out d mb n3 B3 w3 HD3.out HF3.out).mono ?_
  rintro e w4 ⟨rfl, B4, hd4, hf4⟩
  have HD4 : Hid (DV w4 W.heap.size d mb n3 false false 0 0 2 (setV (setV V0 nmF (some (z0, 0))) nmF (some (z0, z0.length))) B4) := hd4
  have HF4 : Hid (From W w4 B4) := hf4
  clear hd4 hf4 HS HD3 HF3
  go_wp2_with fail
  refine (HC1.out w4 HF4.out.1).mono ?_
  rintro e w5 ⟨g5, c5, rfl, ho5, hg5⟩
  have HO5 : Hid (Own w5 w4.heap.size g5 L1 c5 z1) := ho5
  have HG5 : Hid (w4.grownBy w5 none) := hg5
  clear ho5 hg5
  go_wp2_with fail
  refine (HA2.out d mb n3 g5 c5 _ B4 w4 w5 hn3 (setV_same _ _ _) HD4.out HF4.out HO5.out HG5.out).mono ?_
  rintro e w51 ⟨rfl, n6, V51, B6, hd51, hf51, hv51⟩
  have HD51 : Hid (DV w51 W.heap.size d mb n6 false false 0 0 3 V51 B6) := hd51
  have HF51 : Hid (From W w51 B6) := hf51
  have HV51 : Hid (V51 nmF = some (z0 ++ z1, z0.length)) := hv51
  clear hd51 hf51 hv51 HA2 HD4 HF4 HO5 HG5
  go_wp2_with fail
  refine (HOF.out d mb n6 V51 B6 w51 HV51.out HD51.out HF51.out).mono ?_
  rintro e w6 ⟨rfl, V6, hd6, hf6, hv6⟩
  have HD6 : Hid (DV w6 W.heap.size d mb n6 true false 0 0 3 V6 B6) := hd6
  have HF6 : Hid (From W w6 B6) := hf6
  have HV6 : Hid (V6 nmF = some (cutV keep (z0 ++ z1, z0.length))) := hv6
  clear hd6 hf6 hv6 HOF HD51 HF51 HV51
  go_wp2_with fail
  refine (HRO.out d mb n6 V6 B6 w6 HD6.out HF6.out).mono ?_
  rintro e w7 ⟨rfl, hd7, hf7⟩
  have HD7 : Hid (DV w7 W.heap.size d mb n6 true false 0 0 3 V6 B6) := hd7
  have HF7 : Hid (From W w7 B6) := hf7
  clear hd7 hf7 HRO HD6 HF6
  go_wp2_with fail
  refine (HON.out d mb n6 V6 B6 w7 HD7.out HF7.out).mono ?_
  rintro e w8 ⟨rfl, hd8, hf8⟩
  have HD8 : Hid (DV w8 W.heap.size d mb n6 false false 0 0 3 V6 B6) := hd8
  have HF8 : Hid (From W w8 B6) := hf8
  clear hd8 hf8 HON HD7 HF7
  go_wp2_with fail
  refine (HR.out d mb n6 V6 B6 w8 HD8.out HF8.out (by have h := HV6.out; rw [← E0.out] at h; exact h)).mono ?_
  rintro e w9 ⟨a9, c9, rfl, hr9, hg9⟩
  have HR9 : Hid (Rd w9 a9 (z0 ++ z1.take kN)) := hr9
  have HG9 : Hid (W.grownBy w9 none) := hg9
  clear hr9 hg9 HR HD8 HF8 HV6
  have HCC : Hid (∀ w, Hid (w9.grownBy w none) → Calls Try.prog 16 #[.slice a0 L0 cap0] w fun e w' => ∃ g c, e = .returned (.slice (some ⟨g, 0, none⟩) L0 c) ∧ Hid (SOwn byteE 5 w' w9.heap.size (.slice (some ⟨g, 0, none⟩) L0 c) L0 z0) ∧ Hid (w9.grownBy w' none)) := by
    intro w hg
    refine (HC0.out w (HG9.out.trans hg.out)).mono ?_
    rintro e w' ⟨g, c, rfl, ho, hg'⟩
    exact ⟨g, c, rfl, SOwn.base (own_sown ho) hg.out.size, hg.out.trans hg'⟩
  have HSB : Hid (∀ (v : Option Addr) (c : Nat) (w : World), Hid (w9.grownBy w none) → Hid (SOwn byteE 5 w w9.heap.size (.slice v (L0 + kN) c) (L0 + kN) (z0 ++ z1.take kN)) → Calls Try.prog 22 #[.slice a9 (L0 + kN) c9, .slice v (L0 + kN) c] w fun e w' => e = .returned (.bool true) ∧ Hid (w9.grownBy w' none)) := by
    intro v c w hg ho
    refine (same_any a9 v _ _ _ _ c9 c w (HR9.out.grown hg.out (by simp)) (srd_rd (SOwn.rd ho.out) HBY.out) HLS.out HLS.out (by omega)).mono ?_
    rintro e w' ⟨rfl, hg'⟩
    exact ⟨by simp, hg.out.trans hg'⟩
  have HAW : Hid (∀ w, Hid (w9.grownBy w none) → Calls Try.prog 11 #[] w fun e w' => e = .returned (.bool true) ∧ Hid (w9.grownBy w' none)) := by
    intro w hg
    refine (awake_disk w).mono ?_
    rintro e w' ⟨rfl, hg'⟩
    exact ⟨rfl, hg.out.trans hg'⟩
  have HTT : Hid (∀ w, Hid (w9.grownBy w none) → SRd byteE w a1 (z1.take kN)) := fun w hg => HT1.out w (HG9.out.trans hg.out)
  have HDR : Hid (w9.grownBy w9.drew none) := gb_drew (World.grownBy.refl _ _)
  have hkc : (kN : Int) ≤ (cap1 : Int) := by omega
  have hk0 : (0 : Int) ≤ (kN : Int) := by omega
  clear HC0 HC1 HT1
  by_cases hpos : 0 < keep
  · have qp : decide (0 < keep) = true := by simpa using hpos
    rw [if_pos hpos] at hkL
    have hkL' : keep % ((L1 : Int) + 1) = (kN : Int) := hkL.symm
    clear hkL
    go_upto_region 18 with fail
    go_region_held3 (fun w' => Hid (w9.grownBy w' none)) (first | exact HDR | assumption) (first
      | (go_at_call 16; refine (HCC.out _ ?h1).mono ?_; (case h1 => first | exact HDR | assumption); rintro e w10 ⟨g10, c10, rfl, ho10, hg10⟩)
      | (go_at_call 22; refine (HSB.out _ _ _ ?h1 ?h2).mono ?_; (case h1 => assumption); (case h2 => assumption); rintro e w12 ⟨rfl, hg12⟩)
      | (go_at_call 11; refine (HAW.out _ ?h1).mono ?_; (case h1 => assumption); rintro e w13 ⟨rfl, hg13⟩)
      | (refine step_append_g rfl (.tmp 97) (.tmp 100) rfl w9.heap.size (.slice (some ⟨g10, 0, none⟩) L0 c10) L0 z0 (by simp [Act.eval]) ho10.out a1 (z1.take kN) kN cap1 (by simp [Act.eval]) HLT.out (HTT.out _ hg10) HN1.out ?b1 ?b2 ?b3 ?_; (case b1 => omega); (case b2 => unfold maxLen; omega); (case b3 => exact hg10.out.size); intro v11 w11 ho11 hg11; obtain ⟨a11, c11, rfl⟩ := sown_slice ho11; have HO11 : Hid (SOwn byteE 5 w11 w9.heap.size (.slice a11 (L0 + kN) c11) (L0 + kN) (z0 ++ z1.take kN)) := ho11; have HG11 : Hid (w9.grownBy w11 none) := gb_trans hg10.out hg11 (fun k hk => .inl (SOwn.block ho10.out k hk).1)))
    all_goals go_wp2
    all_goals go_ret
    all_goals exact ⟨rfl, gb_below (HG9.out.trans hg13.out)⟩
  · have qp : decide (0 < keep) = false := by simpa using hpos
    rw [if_neg hpos] at hkL
    obtain rfl : kN = 0 := by omega
    clear hkL
    go_upto_region 18 with fail
    go_region_held3 (fun w' => Hid (w9.grownBy w' none)) (first | exact HDR | assumption) (first
      | (go_at_call 16; refine (HCC.out _ ?h1).mono ?_; (case h1 => first | exact HDR | assumption); rintro e w10 ⟨g10, c10, rfl, ho10, hg10⟩)
      | (go_at_call 22; refine (HSB.out _ _ _ ?h1 ?h2).mono ?_; (case h1 => assumption); (case h2 => assumption); rintro e w12 ⟨rfl, hg12⟩)
      | (go_at_call 11; refine (HAW.out _ ?h1).mono ?_; (case h1 => assumption); rintro e w13 ⟨rfl, hg13⟩)
      | (refine step_append_g rfl (.tmp 97) (.tmp 100) rfl w9.heap.size (.slice (some ⟨g10, 0, none⟩) L0 c10) L0 z0 (by simp [Act.eval]) ho10.out a1 (z1.take 0) 0 cap1 (by simp [Act.eval]) HLT.out (HTT.out _ hg10) HN1.out ?b1 ?b2 ?b3 ?_; (case b1 => omega); (case b2 => unfold maxLen; omega); (case b3 => exact hg10.out.size); intro v11 w11 ho11 hg11; obtain ⟨a11, c11, rfl⟩ := sown_slice ho11; have HO11 : Hid (SOwn byteE 5 w11 w9.heap.size (.slice a11 (L0 + 0) c11) (L0 + 0) (z0 ++ z1.take 0)) := ho11; have HG11 : Hid (w9.grownBy w11 none) := gb_trans hg10.out hg11 (fun k hk => .inl (SOwn.block ho10.out k hk).1)))
    all_goals go_wp2
    all_goals go_ret
    all_goals exact ⟨rfl, gb_below (HG9.out.trans hg13.out)⟩
set_option maxHeartbeats 4000000 in
theorem diskSynced_big (a0 : Option Addr) (z0 : List Int) (cap0 : Nat) (a1 : Option Addr) (z1 : List Int) (cap1 : Nat) (keep : Int) (arm : Bool) (W : World) (l0 : z0.length ≤ 140737488351232) (l1 : z1.length ≤ 140737488351232) (hsm : 10000 < z0.length + z1.length) :
    Calls Try.prog 5 #[.slice a0 z0.length cap0, .slice a1 z1.length cap1, .int .i64 keep, .bool arm] W fun e w' => e = .returned (.bool true) ∧ Below W.heap.size W w' := by
  obtain ⟨L0, e0⟩ : ∃ L0, L0 = z0.length := ⟨_, rfl⟩
  obtain ⟨L1, e1⟩ : ∃ L1, L1 = z1.length := ⟨_, rfl⟩
  rw [← e0, ← e1] at hsm
  rw [← e0] at l0
  rw [← e1] at l1
  rw [← e0, ← e1]
  have qsm : decide ((10000 : Int) < (L0 : Int) + (L1 : Int)) = true := by simp; omega
  clear e0 e1
  go_enter Try.func5, Try.ntmps5
  go_wp2_with fail
  refine (v_new W).mono ?_
  rintro e w1 ⟨d, mb, B, rfl, _, hg1, _⟩
  have HG1 : Hid (W.grownBy w1 none) := hg1
  clear hg1
  go_wp2_with fail
  refine (awake_disk w1).mono ?_
  rintro e w2 ⟨rfl, hg2⟩
  have HG2 : Hid (W.grownBy w2 none) := HG1.out.trans hg2
  clear hg2
  go_wp2
  go_ret
  exact ⟨rfl, gb_below HG2.out⟩
theorem diskSynced_walk (a0 : Option Addr) (z0 : List Int) (cap0 : Nat) (a1 : Option Addr) (z1 : List Int) (cap1 : Nat) (keep : Int) (arm : Bool) (W : World) (r0 : Rd W a0 z0) (n0 : a0 = none → cap0 = 0) (l0 : z0.length ≤ 140737488351232) (r1 : Rd W a1 z1) (n1 : a1 = none → cap1 = 0) (l1 : z1.length ≤ 140737488351232) (hc1 : z1.length ≤ cap1) (w2 : (Lit.int .i64 keep).wf = true) :
    Calls Try.prog 5 #[.slice a0 z0.length cap0, .slice a1 z1.length cap1, .int .i64 keep, .bool arm] W fun e w' => e = .returned (.bool true) ∧ Below W.heap.size W w' := by
  have hk : -9223372036854775808 ≤ keep ∧ keep ≤ 9223372036854775807 := by
    simp only [Lit.wf, Bool.and_eq_true, decide_eq_true_eq] at w2
    exact w2
  by_cases hsm : z0.length + z1.length ≤ 10000
  · cases arm with
    | true => exact diskSynced_arm a0 z0 cap0 a1 z1 cap1 keep W r0 n0 r1 n1 hc1 hsm hk
    | false => exact diskSynced_plain a0 z0 cap0 a1 z1 cap1 keep W r0 n0 r1 n1 hc1 hsm hk
  · exact diskSynced_big a0 z0 cap0 a1 z1 cap1 keep arm W l0 l1 (by omega)
end Go.Proofs.Ytdnkdopjlobklaa
