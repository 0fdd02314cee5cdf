/- Any bytes are the points that the document says, or refused. -/
import Derived.Test.YtacpibidkfbojaaDoorKwalk
namespace Go.Proofs.YtacpibidkfbojaaDoor
open Go.ChangeShapes Go.WideShapes Go.ChangeAt Go.RowKit
set_option linter.unusedVariables false

set_option maxRecDepth 100000 in
set_option maxHeartbeats 4000000 in
theorem chunkDecodes_walk (a0 : Option Addr) (z0 : List Int) (cap0 : Nat) (W : World) (r0 : Rd W a0 z0) (n0 : a0 = none → cap0 = 0) (l0 : z0.length ≤ 140737488351232) (hB : Bf W) :
    Calls Tryd.prog 4 #[.slice a0 z0.length cap0] W fun e w' => e = .returned (.bool true) ∧ Below W.heap.size W w' := by
  obtain ⟨cc, qs, hD⟩ := DecAns.ex z0
  have hq : qs.length ≤ 8191 := hD.len
  have HRef : Hid (Calls Tryd.prog 17 #[.slice a0 z0.length cap0] W fun e w' => ∃ v n c, e = .returned (.tuple #[.slice v n c, .int .i64 cc]) ∧ n ≤ 8191 ∧ PO w' W.heap.size v n c qs ∧ W.grownBy w' none) := by
    refine (dec_loop a0 z0 _ cap0 W r0 rfl (by omega) n0).mono ?_
    rintro e w' ⟨vP, ps, c, rfl, ho, hg, hd⟩
    obtain ⟨rfl, rfl⟩ := hD.det hd
    obtain ⟨v, c', rfl⟩ := SOwn.form ho
    exact ⟨v, _, c', rfl, hq, ho, hg⟩
  have HLend : Hid (∀ w, W.grownBy w none → Calls Tryd.prog 18 #[.slice a0 z0.length cap0] w fun e w' => ∃ g c, e = .returned (.slice (some ⟨g, 0, none⟩) z0.length c) ∧ Own w' w.heap.size g (z0.length + 2) c (z0 ++ [201, 201]) ∧ w.grownBy w' none) := fun w hg => lend_any a0 z0 cap0 w (r0.grown hg (by simp)) n0 l0
  have HCopy : Hid (∀ w, W.grownBy w none → Calls Tryd.prog 21 #[.slice a0 z0.length cap0] w fun e w' => ∃ g c, e = .returned (.slice (some ⟨g, 0, none⟩) z0.length c) ∧ Own w' w.heap.size g z0.length c z0 ∧ w.grownBy w' none) := fun w hg => copy_any a0 z0 cap0 w (r0.grown hg (by simp)) n0 l0
  have HKept : Hid (∀ (base g c : Nat) (w : World), W.grownBy w none → Own w base g (z0.length + 2) c (z0 ++ [201, 201]) → Calls Tryd.prog 20 #[.slice (some ⟨g, 0, none⟩) z0.length c, .slice a0 z0.length cap0] w fun e w' => e = .returned (.bool true) ∧ w.grownBy w' (some g)) := fun base g c w hg ho => kept_any a0 z0 base g c cap0 w (r0.grown hg (by simp)) ho l0
  have HHead : Hid (∀ (base g c : Nat) (w : World), Own w base g (z0.length + 2) c (z0 ++ [201, 201]) → Rd w (some ⟨g, 0, none⟩) z0) := fun base g c w ho => ho.headR (by simp)
  have HF : Hid (∀ (g c : Nat) (w : World), W.grownBy w none → Rd w (some ⟨g, 0, none⟩) z0 → Calls Tryd.prog 19 #[.slice (some ⟨g, 0, none⟩) z0.length c] w fun e w' => ∃ v n c, e = .returned (.tuple #[.slice v n c, .int .i64 cc]) ∧ n ≤ 8191 ∧ PO w' w.heap.size v n c qs ∧ w.grownBy w' none) := by
    intro g c w hg hr
    refine (k_dec _ z0 _ c w hr rfl (by omega) (hB.grown hg (by simp))).mono ?_
    rintro e w' ⟨v, n, c', ps, cc', rfl, hn, ho, hg', hd⟩
    obtain ⟨rfl, rfl⟩ := hD.det hd
    exact ⟨v, n, c', rfl, by omega, ho, hg'⟩
  have HAw : Hid (∀ w, W.grownBy w none → Calls Tryd.prog 16 #[] w fun e w' => e = .returned (.bool true) ∧ w.grownBy w' none) := fun w hg => awake_chunk w (hB.grown hg (by simp))
  obtain ⟨L, eL⟩ : ∃ L, L = z0.length := ⟨_, rfl⟩
  rw [← eL] at HRef HLend HCopy HKept HHead HF l0 ⊢
  clear hD r0 n0 eL hB hq
  go_enter Tryd.func4, Tryd.ntmps4
  go_wp2_with fail
  refine HRef.out.mono ?_
  rintro e w1 ⟨v0, m0, c0, rfl, hm0, lo0, hg1⟩
  have HLO0 : Hid (PO w1 W.heap.size v0 m0 c0 qs) := lo0
  have HG1 : Hid (W.grownBy w1 none) := hg1
  clear lo0 hg1 HRef
  go_wp2_with fail
  refine (HLend.out w1 HG1.out).mono ?_
  rintro e w2 ⟨gl, cl, rfl, hol, hg2⟩
  have HOL : Hid (Own w2 w1.heap.size gl (L + 2) cl (z0 ++ [201, 201])) := hol
  have HG2 : Hid (W.grownBy w2 none) := HG1.out.trans hg2
  have HLO02 : Hid (PO w2 W.heap.size v0 m0 c0 qs) := HLO0.out.kept hg2
  have HS12 : Hid (w1.heap.size ≤ w2.heap.size) := hg2.size
  clear hol hg2 HLend
  go_wp2_with fail
  refine (HF.out gl cl w2 HG2.out (HHead.out _ _ _ _ HOL.out)).mono ?_
  rintro e w3 ⟨v1, m1, c1, rfl, hm1, lo1, hg3⟩
  have HLO1 : Hid (PO w3 w2.heap.size v1 m1 c1 qs) := lo1
  have HOL3 : Hid (Own w3 w1.heap.size gl (L + 2) cl (z0 ++ [201, 201])) := HOL.out.kept hg3 (by simp)
  have HLO03 : Hid (PO w3 W.heap.size v0 m0 c0 qs) := HLO02.out.kept hg3
  have HG3 : Hid (W.grownBy w3 none) := HG2.out.trans hg3
  have HGL : Hid (w1.heap.size ≤ gl ∧ gl < w2.heap.size) := HOL.out.ge
  clear lo1 hg3 HLO02
  go_wp2_with fail
  refine (HKept.out _ gl cl w3 HG3.out HOL3.out).mono ?_
  rintro e w4 ⟨rfl, hg4⟩
  have HG4 : Hid (W.grownBy w4 none) := gb_trans HG3.out hg4 (fun k hk => .inl (by simp at hk; have := HGL.out.1; have := HG1.out.size; omega))
  have HLO14 : Hid (PO w4 w2.heap.size v1 m1 c1 qs) := HLO1.out.other hg4 (.inl HGL.out.2)
  have HLO04 : Hid (PO w4 W.heap.size v0 m0 c0 qs) := SOwn.kept HLO03.out hg4 (by
    cases v0 with
    | none => exact .inl rfl
    | some x =>
      right
      intro e
      have h1 := (HLO0.out.block x rfl).2
      simp only [Value.ownBlock, Option.some.injEq] at e
      have := HGL.out.1
      omega)
  clear hg4 HKept HOL HOL3 HLO03 HLO1
  go_wp2_with fail
  refine (HCopy.out w4 HG4.out).mono ?_
  rintro e w5 ⟨g5, c5, rfl, ho5, hg5⟩
  have HO5 : Hid (Own w5 w4.heap.size g5 L c5 z0) := ho5
  have HLO15 : Hid (PO w5 w2.heap.size v1 m1 c1 qs) := HLO14.out.kept hg5
  have HLO05 : Hid (PO w5 W.heap.size v0 m0 c0 qs) := HLO04.out.kept hg5
  have HG5 : Hid (W.grownBy w5 none) := HG4.out.trans hg5
  have HB5 : Hid (∀ x, v1 = some x → x.block < w5.heap.size) := fun x hx => (HLO15.out.block x hx).2
  clear ho5 hg5 HCopy HLO14 HLO04
  go_wp2_with fail
  refine (HF.out g5 c5 w5 HG5.out HO5.out.rd).mono ?_
  rintro e w6 ⟨v2, m2, c2, rfl, hm2, lo2, hg6⟩
  have HLO26 : Hid (PO w6 w5.heap.size v2 m2 c2 qs) := lo2
  have HLO16 : Hid (PO w6 w2.heap.size v1 m1 c1 qs) := HLO15.out.kept hg6
  have HLO06 : Hid (PO w6 W.heap.size v0 m0 c0 qs) := HLO05.out.kept hg6
  have HG6 : Hid (W.grownBy w6 none) := HG5.out.trans hg6
  clear lo2 hg6 HF HHead HLO15 HLO05
  have q1 : (cc != cc) = false := by simp
  go_wp2_with fail
  refine (psame v1 v0 qs qs m1 m0 c1 c0 w6 HLO16.out.rd HLO06.out.rd HLO16.out.len HLO06.out.len (by omega)).mono ?_
  rintro e w7 ⟨rfl, hg7⟩
  have htt : decide (qs = qs) = true := by simp
  rw [htt]
  clear htt
  have HLO27 : Hid (PO w7 w5.heap.size v2 m2 c2 qs) := HLO26.out.kept hg7
  have HLO17 : Hid (PO w7 w2.heap.size v1 m1 c1 qs) := HLO16.out.kept hg7
  have HLO07 : Hid (PO w7 W.heap.size v0 m0 c0 qs) := HLO06.out.kept hg7
  have HG7 : Hid (W.grownBy w7 none) := HG6.out.trans hg7
  clear hg7 HLO26 HLO16 HLO06
  go_wp2_with fail
  refine (pspoil v1 w2.heap.size m1 c1 qs w7 HLO17.out (by omega)).mono ?_
  rintro e w8 ⟨rfl, hg8⟩
  have HLO28 : Hid (PO w8 w5.heap.size v2 m2 c2 qs) := HLO27.out.apart HLO17.out hg8 (fun x y hx hy e => by have h1 := (HLO27.out.block x hx).1; have h2 := HB5.out y hy; omega)
  have HLO08 : Hid (PO w8 W.heap.size v0 m0 c0 qs) := HLO07.out.apart HLO17.out hg8 (fun x y hx hy e => by have h1 := (HLO0.out.block x hx).2; have h2 := (HLO17.out.block y hy).1; have := HS12.out; omega)
  have HG8 : Hid (W.grownBy w8 none) := gb_own HG7.out hg8 (fun x hx => by have h2 := (HLO17.out.block x hx).1; have := HG2.out.size; omega)
  clear hg8 HLO17 HLO07 HLO27
  go_wp2_with fail
  refine (psame v2 v0 qs qs m2 m0 c2 c0 w8 HLO28.out.rd HLO08.out.rd HLO28.out.len HLO08.out.len (by omega)).mono ?_
  rintro e w9 ⟨rfl, hg9⟩
  have htt : decide (qs = qs) = true := by simp
  rw [htt]
  clear htt
  have HG9 : Hid (W.grownBy w9 none) := HG8.out.trans hg9
  clear hg9
  go_wp2_with fail
  refine (HAw.out w9 HG9.out).mono ?_
  rintro e w10 ⟨rfl, hg10⟩
  have HG10 : Hid (W.grownBy w10 none) := HG9.out.trans hg10
  clear hg10
  go_wp2
  go_ret
  exact ⟨rfl, gb_below HG10.out⟩
end Go.Proofs.YtacpibidkfbojaaDoor
