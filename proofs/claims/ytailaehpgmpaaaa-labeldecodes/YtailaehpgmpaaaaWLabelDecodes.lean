/- From any place of any bytes a label set is read as the document says, or refused. -/
import Derived.Test.YtailaehpgmpaaaaKlab
namespace Go.Proofs.Ytailaehpgmpaaaa
open Go.ChangeShapes Go.WideShapes Go.ChangeAt Go.RowKit
set_option linter.unusedVariables false

theorem decL_len (zs : List Int) : ∀ (m : Nat) (p : Int) (acc : List Lab), (decL zs m p acc).1.length ≤ acc.length + m := by
  intro m
  induction m with
  | zero => intro p acc; simp [decL]
  | succ m ih =>
    intro p acc
    rw [decL]
    split
    · simp
    · split
      · simp
      · have := ih (textR zs (textR zs p).2.1).2.1 (acc ++ [((textR zs p).1, (textR zs (textR zs p).2.1).1)])
        simp only [List.length_append, List.length_cons, List.length_nil] at this
        omega
theorem decodeR_len {zs : List Int} {p : Int} {ls : List Lab} {r2 r3 : Int} (h : decodeR zs p = (ls, r2, r3)) : ls.length ≤ 16 := by
  unfold decodeR at h
  split at h
  · simp only [Prod.mk.injEq] at h; rw [← h.1]; simp
  · split at h
    · simp only [Prod.mk.injEq] at h; rw [← h.1]; simp
    · have hl := decL_len zs (uintR zs p).1.toNat (uintR zs p).2.1 []
      unfold shut at h
      split at h
      · simp only [Prod.mk.injEq] at h; rw [← h.1]; simp
      · split at h
        · simp only [Prod.mk.injEq] at h; rw [← h.1]; simp
        · simp only [Prod.mk.injEq] at h
          rw [← h.1]
          simp only [List.length_nil] at hl
          omega
theorem lo_block {w w' : World} {v : Option Addr} {n c : Nat} {ls : List Lab} (h : LOut w w' v n c ls) : ∀ x, v = some x → w.heap.size ≤ x.block ∧ x.block < w'.heap.size := by
  intro x hx
  subst hx
  exact SOwn.block h x.block rfl

set_option maxHeartbeats 4000000 in
theorem labelDecodes_walk (a0 : Option Addr) (z0 : List Int) (cap0 : Nat) (p : Int) (W : World) (r0 : Rd W a0 z0) (n0 : a0 = none → cap0 = 0) (l0 : z0.length ≤ 140737488351232) (hcap0 : z0.length ≤ cap0) (w1 : (Lit.int .i64 p).wf = true) :
    Calls Try.prog 4 #[.slice a0 z0.length cap0, .int .i64 p] W fun e w' => e = .returned (.bool true) ∧ Below W.heap.size W w' := by
  clear w1
  obtain ⟨ls, r2, r3, hD⟩ : ∃ a b c, decodeR z0 p = (a, b, c) := ⟨_, _, _, rfl⟩
  have HD : Hid (decodeR z0 p = (ls, r2, r3)) := hD
  have HLn : Hid (ls.length ≤ 16) := decodeR_len hD
  have HR : Hid (Rd W a0 z0) := r0
  have HN0 : Hid (a0 = none → cap0 = 0) := n0
  have HRef : Hid (Calls Try.prog 21 #[.slice a0 z0.length cap0, .int .i64 p] W fun e w' => ∃ v m c, e = .returned (.tuple #[.slice v m c, .int .i64 r2, .int .i64 r3]) ∧ LOut W w' v m c ls ∧ W.grownBy w' none) := r_decode a0 z0 _ cap0 p ls r2 r3 W r0 rfl hcap0 (by omega) hD
  have HLend : Hid (∀ w, W.grownBy w none → Calls Try.prog 22 #[.slice a0 z0.length cap0] w fun e w' => ∃ g c, e = .returned (.slice (some ⟨g, 0, none⟩) z0.length c) ∧ Own w' w.heap.size g (z0.length + 2) c (z0 ++ [201, 201]) ∧ w.grownBy w' none) := fun w hg => lend_any a0 z0 cap0 w (r0.grown hg (by simp)) n0 l0
  have HCopy : Hid (∀ w, W.grownBy w none → Calls Try.prog 25 #[.slice a0 z0.length cap0] w fun e w' => ∃ g c, e = .returned (.slice (some ⟨g, 0, none⟩) z0.length c) ∧ Own w' w.heap.size g z0.length c z0 ∧ w.grownBy w' none) := fun w hg => copy_any a0 z0 cap0 w (r0.grown hg (by simp)) n0 l0
  have HKept : Hid (∀ (base g c : Nat) (w : World), W.grownBy w none → Own w base g (z0.length + 2) c (z0 ++ [201, 201]) → Calls Try.prog 24 #[.slice (some ⟨g, 0, none⟩) z0.length c, .slice a0 z0.length cap0] w fun e w' => e = .returned (.bool true) ∧ w.grownBy w' (some g)) := fun base g c w hg ho => kept_any a0 z0 base g c cap0 w (r0.grown hg (by simp)) ho l0
  have HHead : Hid (∀ (base g c : Nat) (w : World), Own w base g (z0.length + 2) c (z0 ++ [201, 201]) → Rd w (some ⟨g, 0, none⟩) z0 ∧ z0.length ≤ c) := fun base g c w ho => ⟨ho.headR (by simp), by have := ho.cap.1; omega⟩
  have HF : Hid (∀ (g c : Nat) (w : World), Rd w (some ⟨g, 0, none⟩) z0 → z0.length ≤ c → Calls Try.prog 23 #[.slice (some ⟨g, 0, none⟩) z0.length c, .int .i64 p] w fun e w' => ∃ v m c, e = .returned (.tuple #[.slice v m c, .int .i64 r2, .int .i64 r3]) ∧ LOut w w' v m c ls ∧ w.grownBy w' none) := fun g c w hr hc => f_decode _ z0 _ c p ls r2 r3 w hr rfl hc (by omega) hD
  obtain ⟨L, eL⟩ : ∃ L, L = z0.length := ⟨_, rfl⟩
  rw [← eL] at HRef HLend HCopy HKept HHead HF l0 hcap0 ⊢
  clear hD r0 n0 eL
  go_enter Try.func4, Try.ntmps4
  go_wp2_with fail
  refine HRef.out.mono ?_
  rintro e w1 ⟨v0, m0, c0, rfl, lo0, hg1⟩
  have HLO0 : Hid (LOut W w1 v0 m0 c0 ls) := lo0
  have HG1 : Hid (W.grownBy w1 none) := hg1
  have hm0 : m0 ≤ 16 := by have h1 := SOwn.len lo0; have h2 := HLn.out; omega
  clear lo0 hg1 HRef
  go_wp2_with fail
  refine (HLend.out w1 HG1.out).mono ?_
  rintro e w2 ⟨gl, cl, rfl, hol, hg2⟩
  have HOL : Hid (Own w2 w1.heap.size gl (L + 2) cl (z0 ++ [201, 201])) := hol
  have HG2 : Hid (W.grownBy w2 none) := HG1.out.trans hg2
  have HG12 : Hid (w1.grownBy w2 none) := hg2
  clear hol hg2 HLend
  go_wp2_with fail
  refine (HF.out gl cl w2 (HHead.out _ _ _ _ HOL.out).1 (HHead.out _ _ _ _ HOL.out).2).mono ?_
  rintro e w3 ⟨v1, m1, c1, rfl, lo1, hg3⟩
  have HLO1 : Hid (LOut w2 w3 v1 m1 c1 ls) := lo1
  have HG23 : Hid (w2.grownBy w3 none) := hg3
  have HOL3 : Hid (Own w3 w1.heap.size gl (L + 2) cl (z0 ++ [201, 201])) := HOL.out.kept hg3 (by simp)
  have HG3 : Hid (W.grownBy w3 none) := HG2.out.trans hg3
  have hm1 : m1 ≤ 16 := by have h1 := SOwn.len lo1; have h2 := HLn.out; omega
  clear lo1 hg3
  go_wp2_with fail
  refine (HKept.out _ gl cl w3 HG3.out HOL3.out).mono ?_
  rintro e w4 ⟨rfl, hg4⟩
  have HG34 : Hid (w3.grownBy w4 (some gl)) := hg4
  have HGL : Hid (w1.heap.size ≤ gl ∧ gl < w2.heap.size) := HOL.out.ge
  have HG4 : Hid (W.grownBy w4 none) := gb_trans HG3.out hg4 (fun k hk => .inl (by simp at hk; have := HGL.out.1; have := HG1.out.size; omega))
  have HG14 : Hid (w1.grownBy w4 none) := gb_trans (HG12.out.trans HG23.out) hg4 (fun k hk => .inl (by simp at hk; have := HGL.out.1; omega))
  have HLO1' : Hid (LOut w2 w4 v1 m1 c1 ls) := SOwn.kept HLO1.out hg4 (by
    cases v1 with
    | none => exact .inl rfl
    | some x => right; intro e; have h1 := (lo_block HLO1.out x rfl).1; simp [Value.ownBlock] at e; have := HGL.out.2; omega)
  have HB1b : Hid (∀ k, (Value.slice v1 m1 c1).ownBlock = some k → k < w4.heap.size) := fun k hk => (SOwn.block HLO1'.out k hk).2
  clear hg4 HKept HOL HOL3
  go_wp2_with fail
  refine (HCopy.out w4 HG4.out).mono ?_
  rintro e w5 ⟨g5, c5, rfl, ho5, hg5⟩
  have HO5 : Hid (Own w5 w4.heap.size g5 L c5 z0) := ho5
  have HG45 : Hid (w4.grownBy w5 none) := hg5
  clear ho5 hg5 HCopy
  go_wp2_with fail
  refine (HF.out g5 c5 w5 HO5.out.rd HO5.out.cap.1).mono ?_
  rintro e w6 ⟨v2, m2, c2, rfl, lo2, hg6⟩
  have HLO2 : Hid (LOut w5 w6 v2 m2 c2 ls) := lo2
  have HG46 : Hid (w4.grownBy w6 none) := HG45.out.trans hg6
  have hm2 : m2 ≤ 16 := by have h1 := SOwn.len lo2; have h2 := HLn.out; omega
  have HLO1'' : Hid (LOut w2 w6 v1 m1 c1 ls) := SOwn.kept HLO1'.out HG46.out (Classical.em _)
  have HLO0' : Hid (SOwn labE 52 w6 W.heap.size (.slice v0 m0 c0) m0 ls) := SOwn.kept HLO0.out (HG14.out.trans HG46.out) (Classical.em _)
  clear lo2 hg6 HF HHead HLO1' HLO1
  have q1 : (r3 != r3) = false := by simp
  have q2 : (r2 != r2) = false := by simp
  go_wp2_with fail
  refine (lsame v1 v0 ls ls m1 m0 c1 c0 w6 (SOwn.rd HLO1''.out) (SOwn.rd HLO0'.out) (SOwn.len HLO1''.out) (SOwn.len HLO0'.out) (by omega)).mono ?_
  rintro e w7 ⟨rfl, hg7⟩
  have htt : decide (ls = ls) = true := by simp
  rw [htt]
  clear htt
  have HG67 : Hid (w6.grownBy w7 none) := hg7
  have HLO1s : Hid (SOwn labE 52 w7 w2.heap.size (.slice v1 m1 c1) m1 ls) := SOwn.kept HLO1''.out hg7 (Classical.em _)
  clear hg7
  go_wp2_with fail
  refine (lspoil v1 w2.heap.size m1 c1 ls w7 HLO1s.out (by omega)).mono ?_
  rintro e w8 ⟨rfl, hg8⟩
  have HG78 : Hid (w7.grownBy w8 (Value.slice v1 m1 c1).ownBlock) := hg8
  have HB1 : Hid (∀ k, (Value.slice v1 m1 c1).ownBlock = some k → w2.heap.size ≤ k ∧ k < w4.heap.size) := by
    intro k hk
    have h1 := (SOwn.block HLO1''.out k hk).1
    exact ⟨h1, HB1b.out k hk⟩
  have HA8 : Hid (SRd labE w8 v0 ls) := SRd.grown (SRd.grown (SOwn.rd HLO0'.out) HG67.out (by simp)) hg8 (fun x hx e => by have h1 := (lo_block HLO0.out x hx).2; have h2 := (HB1.out x.block e.symm).1; have := HG12.out.size; omega)
  have HB8 : Hid (SRd labE w8 v2 ls) := SRd.grown (SRd.grown (SOwn.rd HLO2.out) HG67.out (by simp)) hg8 (fun x hx e => by have h1 := (lo_block HLO2.out x hx).1; have h2 := (HB1.out x.block e.symm).2; have := HG45.out.size; omega)
  have HG8 : Hid (W.grownBy w8 none) := gb_trans ((HG4.out.trans HG46.out).trans HG67.out) hg8 (fun k hk => .inl (by have h := (HB1.out k hk).1; have := HG2.out.size; omega))
  clear hg8 HLO1s HLO1''
  go_wp2_with fail
  refine (lsame v2 v0 ls ls m2 m0 c2 c0 w8 HB8.out HA8.out (SOwn.len HLO2.out) (SOwn.len HLO0.out) (by omega)).mono ?_
  rintro e w9 ⟨rfl, hg9⟩
  have htt : decide (ls = ls) = true := by simp
  rw [htt]
  clear htt
  have HG9 : Hid (W.grownBy w9 none) := HG8.out.trans hg9
  clear hg9
  go_wp2_with fail
  refine (awake_lab w9).mono ?_
  rintro e w10 ⟨rfl, hg10⟩
  have HG10 : Hid (W.grownBy w10 none) := HG9.out.trans hg10
  clear hg10
  go_wp2
  go_ret
  exact ⟨rfl, gb_below HG10.out⟩
end Go.Proofs.Ytailaehpgmpaaaa
