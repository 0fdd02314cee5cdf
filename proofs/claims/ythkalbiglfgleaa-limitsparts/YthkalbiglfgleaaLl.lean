/- LimitsParts: the walk. (Printed by mk_ll.py.) -/
import Derived.Test.YthkalbiglfgleaaLk
namespace Go.Proofs.Ythkalbiglfgleaa
open Go.RowKit
set_option linter.unusedVariables false
set_option maxRecDepth 20000

set_option maxHeartbeats 4000000 in
theorem parts_walk (a : Option Addr) (raw : List (Sv × Int × Int)) (Q : List Smp) (c : Nat) (S m P : Int) (H : Bool) (lb : Option Addr) (ls : List Lab) (lc : Nat) (T V at_ : Int) (w : World) (hq : SmpRd w a raw Q) (hz : Q.length ≤ 3518437208882) (hcap : Q.length ≤ c) (hb : OneIs w ((lb, ls.length, lc), T, V) (ls, T, V)) :
    Calls Try.prog 4 #[.slice a Q.length c, limV S m P H, smpV lb ls.length lc T V, .int .i64 at_] w fun e w' => e = .returned (.bool true) ∧ w.grownBy w' none := by
  obtain ⟨W, hW⟩ : ∃ W, W = (w.alloc (.cells #[.int .i64 S, .int .i64 m, .int .i64 P, .bool H] 24)).alloc (.cells #[.slice lb ls.length lc, .int .i64 T, .int .u64 V] 37) := ⟨_, rfl⟩
  have hs := size_alloc w (.cells #[.int .i64 S, .int .i64 m, .int .i64 P, .bool H] 24)
  have ga := World.grownBy_alloc (w.alloc (.cells #[.int .i64 S, .int .i64 m, .int .i64 P, .bool H] 24)) (.cells #[.slice lb ls.length lc, .int .i64 T, .int .u64 V] 37) none
  have HG : Hid (w.grownBy W none) := hW ▸ (World.grownBy_alloc w _ none).trans ga
  have HB : Hid (W.cell? ⟨w.heap.size, 0, none⟩ = some (.int .i64 S) ∧ W.cell? ⟨w.heap.size, 1, none⟩ = some (.int .i64 m) ∧ W.cell? ⟨w.heap.size, 2, none⟩ = some (.int .i64 P) ∧ W.cell? ⟨w.heap.size, 3, none⟩ = some (.bool H)) := by
    rw [hW]
    refine ⟨ga.cell ?_ (by simp), ga.cell ?_ (by simp), ga.cell ?_ (by simp), ga.cell ?_ (by simp)⟩
    · rw [cell_of_row _ w.heap.size 0 _ _ _ (heap_alloc_new w _)]; rfl
    · rw [cell_of_row _ w.heap.size 1 _ _ _ (heap_alloc_new w _)]; rfl
    · rw [cell_of_row _ w.heap.size 2 _ _ _ (heap_alloc_new w _)]; rfl
    · rw [cell_of_row _ w.heap.size 3 _ _ _ (heap_alloc_new w _)]; rfl
  have HBb : Hid (W.cell? ⟨w.heap.size + 1, 0, none⟩ = some (.slice lb ls.length lc) ∧ W.cell? ⟨w.heap.size + 1, 1, none⟩ = some (.int .i64 T) ∧ W.cell? ⟨w.heap.size + 1, 2, none⟩ = some (.int .u64 V)) := by
    rw [hW, ← hs]
    refine ⟨?_, ?_, ?_⟩
    · rw [cell_of_row _ _ 0 _ _ _ (heap_alloc_new (w.alloc (.cells #[.int .i64 S, .int .i64 m, .int .i64 P, .bool H] 24)) _)]; rfl
    · rw [cell_of_row _ _ 1 _ _ _ (heap_alloc_new (w.alloc (.cells #[.int .i64 S, .int .i64 m, .int .i64 P, .bool H] 24)) _)]; rfl
    · rw [cell_of_row _ _ 2 _ _ _ (heap_alloc_new (w.alloc (.cells #[.int .i64 S, .int .i64 m, .int .i64 P, .bool H] 24)) _)]; rfl
  have HW : Hid ((w.alloc (.cells #[.int .i64 S, .int .i64 m, .int .i64 P, .bool H] 24)).alloc (.cells #[.slice lb ls.length lc, .int .i64 T, .int .u64 V] 37) = W) := hW.symm
  have HQ : Hid (SmpRd W a raw Q) := hq.grown HG.out
  have HBO : Hid (∀ u, w.grownBy u none → OneIs u ((lb, ls.length, lc), T, V) (ls, T, V)) := fun u hu => hb.grown hu
  obtain ⟨N, eN⟩ : ∃ N, w.heap.size = N := ⟨_, rfl⟩
  rw [eN] at HB HBb
  have EN : Hid (w.heap.size = N) := eN
  obtain ⟨n, en⟩ : ∃ n, ls.length = n := ⟨_, rfl⟩
  rw [en] at HBb HW HBO ⊢
  have ENn : Hid (ls.length = n) := en
  obtain ⟨L, eL⟩ : ∃ L, Q.length = L := ⟨_, rfl⟩
  rw [eL] at hz hcap ⊢
  have EL : Hid (Q.length = L) := eL
  obtain ⟨A, C, eR⟩ : ∃ A C, checkL ⟨#[97]⟩ Q m P = (A, C) := ⟨_, _, rfl⟩
  have HR : Hid (checkL ⟨#[97]⟩ Q m P = (A, C)) := eR
  have HCL : Hid (∀ u, Hid (W.grownBy u none) → u.cell? ⟨N, 0, none⟩ = some (.int .i64 S) ∧ u.cell? ⟨N, 1, none⟩ = some (.int .i64 m) ∧ u.cell? ⟨N, 2, none⟩ = some (.int .i64 P) ∧ u.cell? ⟨N, 3, none⟩ = some (.bool H)) := fun u hu => ⟨hu.out.cell HB.out.1 (by simp), hu.out.cell HB.out.2.1 (by simp), hu.out.cell HB.out.2.2.1 (by simp), hu.out.cell HB.out.2.2.2 (by simp)⟩
  have HP7 : Hid (∀ (a0 : Option Addr) (raw0 : List (Sv × Int × Int)) (Q0 : List Smp) (L0 c0 : Nat) (u : World), Hid (W.grownBy u none) → Hid (SmpRd W a0 raw0 Q0 ∧ Q0.length = L0 ∧ L0 ≤ 3518437208882) → Calls Try.prog 7 #[.slice a0 L0 c0] u fun e w' => ∃ a' c' raw', e = .returned (.slice a' L0 c') ∧ Hid (SmsOwn w' u.heap.size (.slice a' L0 c') Q0 raw') ∧ Hid (W.grownBy w' none) ∧ w'.cell? ⟨N, 0, none⟩ = some (.int .i64 S) ∧ w'.cell? ⟨N, 1, none⟩ = some (.int .i64 m) ∧ w'.cell? ⟨N, 2, none⟩ = some (.int .i64 P) ∧ w'.cell? ⟨N, 3, none⟩ = some (.bool H)) := fun a0 raw0 Q0 L0 c0 u hu hs => by
    refine (scopy a0 raw0 Q0 L0 c0 u (hs.out.1.grown hu.out) hs.out.2.1 hs.out.2.2).mono ?_
    rintro e w' ⟨a', c', raw', rfl, h1, h2⟩
    exact ⟨a', c', raw', rfl, h1, hu.out.trans h2, HCL.out _ (hu.out.trans h2)⟩
  have HP8 : Hid (∀ (a0 : Option Addr) (raw0 : List (Sv × Int × Int)) (Q0 : List Smp) (L0 c0 : Nat) (A0 C0 : Int) (u : World), Hid (W.grownBy u none) → Hid (SmpRd u a0 raw0 Q0) → Hid (Q0.length = L0 ∧ L0 ≤ 3518437208882 ∧ checkL ⟨#[97]⟩ Q0 m P = (A0, C0)) → Calls Try.prog 8 #[.string ⟨#[97]⟩, .slice a0 L0 c0, limV S m P H] u fun e w' => e = .returned (.tuple #[.int .i64 A0, .int .i64 C0]) ∧ Hid (W.grownBy w' none) ∧ Hid (u.grownBy w' none) ∧ w'.cell? ⟨N, 0, none⟩ = some (.int .i64 S) ∧ w'.cell? ⟨N, 1, none⟩ = some (.int .i64 m) ∧ w'.cell? ⟨N, 2, none⟩ = some (.int .i64 P) ∧ w'.cell? ⟨N, 3, none⟩ = some (.bool H)) := fun a0 raw0 Q0 L0 c0 A0 C0 u hu hq0 hs => by
    refine (f_lcheck ⟨#[97]⟩ a0 raw0 Q0 L0 c0 S m P A0 C0 H u hq0.out hs.out.1 hs.out.2.1 hs.out.2.2).mono ?_
    rintro e w' ⟨rfl, h2⟩
    exact ⟨rfl, hu.out.trans h2, h2, HCL.out _ (hu.out.trans h2)⟩
  have HA : Hid (∀ u, Calls Try.prog 14 #[] u fun e w' => e = .returned (.bool true) ∧ u.grownBy w' none) := l_awake
  have HLo : Hid (∀ u, Calls Try.prog 15 #[.int .i64 at_] u fun e w' => ∃ r, e = .returned (.int .i64 r) ∧ 0 ≤ r ∧ r ≤ 9223372036854775807 ∧ u = w') := Low_any at_
  have HQC : Hid (SmpRd W a raw Q ∧ Q.length = L ∧ L ≤ 3518437208882) := ⟨HQ.out, eL, hz⟩
  have HQR : Hid (Q.length = L ∧ L ≤ 3518437208882 ∧ checkL ⟨#[97]⟩ Q m P = (A, C)) := ⟨eL, hz, eR⟩
  clear hW hq eL eR hb hs ga en eN
  go_enter Try.func4, Try.ntmps4
  go_upto_region 1 with fail
  rw [HW.out, EN.out]
  obtain ⟨d0, d1, d2, d3⟩ := HB.out
  have HDR : Hid (W.grownBy W.drew none) := gb_drew (World.grownBy.refl _ _)
  go_region_held3 (fun u => Hid (W.grownBy u none) ∧ u.cell? ⟨N, 0, none⟩ = some (.int .i64 S) ∧ u.cell? ⟨N, 1, none⟩ = some (.int .i64 m) ∧ u.cell? ⟨N, 2, none⟩ = some (.int .i64 P) ∧ u.cell? ⟨N, 3, none⟩ = some (.bool H)) (first | exact ⟨HDR, d0, d1, d2, d3⟩ | (refine ⟨?_, ?_, ?_, ?_, ?_⟩ <;> assumption)) (first
    | (go_at_call 7; refine (HP7.out a raw Q L c _ ?h1 HQC).mono ?_; (case h1 => exact HDR); rintro e z1 ⟨a1, c1, r1, rfl, o1, g1, x10, x11, x12, x13⟩; have HS1 : Hid (SmpRd z1 a1 r1 Q) := o1.out.rd.1)
    | (go_at_call 8; refine (HP8.out a1 r1 Q L c1 A C _ ?h1 HS1 HQR).mono ?_; (case h1 => assumption); rintro e z2 ⟨rfl, k1, j1, y10, y11, y12, y13⟩))
  by_cases hC : C = 0
  · subst hC
    obtain ⟨hpos, hmath⟩ := parts_maths (b := (ls, T, V)) (k := 0) HR.out
    rw [EL.out] at hpos
    have HMa : Hid (∀ k, k < Q.length → checkL ⟨#[97]⟩ (Q.take (k + 1)) m P = (0, 0) ∧ checkL ⟨#[97]⟩ (Q.drop k) m P = (0, 0) ∧ checkL ⟨#[97]⟩ [(ls, T, V)] m P = (0, wrongR m ls T) ∧ checkL ⟨#[97]⟩ (Q.set k (ls, T, V)) m P = if wrongR m ls T = 0 then (0, 0) else ((k : Int), wrongR m ls T)) := fun k hk => (parts_maths HR.out).2 hk
    clear hmath o1 HS1 x10 x11 x12 x13 g1 j1 HDR d0 d1 d2 d3
    go_wp2_with fail
    refine (HLo.out _).mono ?_
    rintro e z3 ⟨r, rfl, hr0, hr1, rfl⟩
    obtain ⟨k, hrem, hk⟩ : ∃ k : Nat, r.tmod (L : Int) = (k : Int) ∧ k < L := by
      have h2 := Int.tmod_nonneg (L : Int) hr0
      have h3 := Int.tmod_lt_of_pos r (by omega : (0 : Int) < (L : Int))
      exact ⟨(r.tmod L).toNat, by omega, by omega⟩
    have hL0 : ¬ L = 0 := by omega
    have hL1 : ((L : Int) == 0) = false := by simp; omega
    obtain ⟨b, off, rfl, _⟩ := HQ.out.rd.at (by rw [HQ.out.len, EL.out]; omega)
    obtain ⟨v5, hs5, hq5⟩ := shead L c (k + 1) HQ.out EL.out (by omega) hcap
    obtain ⟨v6, hs6, hq6⟩ := stail L c k HQ.out EL.out (by omega) hcap
    have hs5' : ∀ w, (Instr.slice 22 (.slice (some ⟨b, off, none⟩) L c) none (some (.int .i64 ((k : Int) + 1))) none).run Try.prog w = .ok (.slice v5 (k + 1) c) w := hs5
    clear hs5
    obtain ⟨e5, e6, e7, e8⟩ := HMa.out k (by rw [EL.out]; exact hk)
    have HQ5 : Hid (SmpRd W v5 (raw.take (k + 1)) (Q.take (k + 1)) ∧ (Q.take (k + 1)).length = k + 1 ∧ k + 1 ≤ 3518437208882) := ⟨hq5, by rw [List.length_take, EL.out]; omega, by omega⟩
    have HQ6 : Hid (SmpRd W v6 (raw.drop k) (Q.drop k) ∧ (Q.drop k).length = L - k ∧ L - k ≤ 3518437208882) := ⟨hq6, by rw [List.length_drop, EL.out], by omega⟩
    have HR5 : Hid ((Q.take (k + 1)).length = k + 1 ∧ k + 1 ≤ 3518437208882 ∧ checkL ⟨#[97]⟩ (Q.take (k + 1)) m P = (0, 0)) := ⟨HQ5.out.2.1, HQ5.out.2.2, e5⟩
    have HR6 : Hid ((Q.drop k).length = L - k ∧ L - k ≤ 3518437208882 ∧ checkL ⟨#[97]⟩ (Q.drop k) m P = (0, 0)) := ⟨HQ6.out.2.1, HQ6.out.2.2, e6⟩
    have HR7 : Hid (([(ls, T, V)] : List Smp).length = 1 ∧ 1 ≤ 3518437208882 ∧ checkL ⟨#[97]⟩ [(ls, T, V)] m P = (0, wrongR m ls T)) := ⟨rfl, by decide, e7⟩
    have HR8 : Hid (checkL ⟨#[97]⟩ (Q.set k (ls, T, V)) m P = if wrongR m ls T = 0 then (0, 0) else ((k : Int), wrongR m ls T)) := e8
    clear hq5 hq6 e5 e6 e7 e8 HMa hpos
    have hw1 : IntKind.i64.wrap ((k : Int) + 1) = (k : Int) + 1 := by rw [IntKind.wrap_i64]; omega
    have HDR : Hid (W.grownBy z2.drew none) := gb_drew k1.out
    go_upto_region 5 with fail
    go_region_held3 (fun u => Hid (W.grownBy u none) ∧ u.cell? ⟨N, 0, none⟩ = some (.int .i64 S) ∧ u.cell? ⟨N, 1, none⟩ = some (.int .i64 m) ∧ u.cell? ⟨N, 2, none⟩ = some (.int .i64 P) ∧ u.cell? ⟨N, 3, none⟩ = some (.bool H)) (first | exact ⟨HDR, y10, y11, y12, y13⟩ | (refine ⟨?_, ?_, ?_, ?_, ?_⟩ <;> assumption)) (first
      | (go_at_call 7; refine (HP7.out v5 (raw.take (k + 1)) (Q.take (k + 1)) (k + 1) c _ ?h1 HQ5).mono ?_; (case h1 => exact HDR); rintro e z5 ⟨a5, c5, r5, rfl, o5, g5, x50, x51, x52, x53⟩; have HS5 : Hid (SmpRd z5 a5 r5 (Q.take (k + 1))) := o5.out.rd.1)
      | (go_at_call 8; refine (HP8.out a5 r5 (Q.take (k + 1)) (k + 1) c5 0 0 _ ?h1 HS5 HR5).mono ?_; (case h1 => assumption); rintro e z6 ⟨rfl, k5, j5, y50, y51, y52, y53⟩))
    clear HDR o5 HS5 x50 x51 x52 x53 y10 y11 y12 y13 g5 j5 hs5' hw1
    have HDR : Hid (W.grownBy z6.drew none) := gb_drew k5.out
    go_upto_region 6 with fail
    go_region_held3 (fun u => Hid (W.grownBy u none) ∧ u.cell? ⟨N, 0, none⟩ = some (.int .i64 S) ∧ u.cell? ⟨N, 1, none⟩ = some (.int .i64 m) ∧ u.cell? ⟨N, 2, none⟩ = some (.int .i64 P) ∧ u.cell? ⟨N, 3, none⟩ = some (.bool H)) (first | exact ⟨HDR, y50, y51, y52, y53⟩ | (refine ⟨?_, ?_, ?_, ?_, ?_⟩ <;> assumption)) (first
      | (go_at_call 7; refine (HP7.out v6 (raw.drop k) (Q.drop k) (L - k) (c - k) _ ?h1 HQ6).mono ?_; (case h1 => exact HDR); rintro e z7 ⟨a6, c6, r6, rfl, o6, g6, x60, x61, x62, x63⟩; have HS6 : Hid (SmpRd z7 a6 r6 (Q.drop k)) := o6.out.rd.1)
      | (go_at_call 8; refine (HP8.out a6 r6 (Q.drop k) (L - k) c6 0 0 _ ?h1 HS6 HR6).mono ?_; (case h1 => assumption); rintro e z8 ⟨rfl, k6, j6, y60, y61, y62, y63⟩))
    clear HDR o6 HS6 x60 x61 x62 x63 y50 y51 y52 y53 g6 j6 hs6
    have HBz := HBb.out
    obtain ⟨t0, t1, t2⟩ : z8.cell? ⟨N + 1, 0, none⟩ = some (.slice lb n lc) ∧ z8.cell? ⟨N + 1, 1, none⟩ = some (.int .i64 T) ∧ z8.cell? ⟨N + 1, 2, none⟩ = some (.int .u64 V) := ⟨k6.out.cell HBz.1 (by simp), k6.out.cell HBz.2.1 (by simp), k6.out.cell HBz.2.2 (by simp)⟩
    have g7 := World.grownBy_alloc z8 (.cells #[.slice lb n lc, .int .i64 T, .int .u64 V] 37) none
    have HG7 : Hid (W.grownBy (z8.alloc (.cells #[.slice lb n lc, .int .i64 T, .int .u64 V] 37)) none) := k6.out.trans g7
    have HS7 : Hid (SmpRd (z8.alloc (.cells #[.slice lb n lc, .int .i64 T, .int .u64 V] 37)) (some ⟨z8.heap.size, 0, none⟩) [((lb, n, lc), T, V)] [(ls, T, V)]) := by
      refine ⟨srd_lit smpE 37 z8 [((lb, n, lc), T, V)], rfl, fun i r s hr hs => ?_⟩
      cases i with
      | succ i => simp at hr
      | zero =>
        simp only [List.getElem?_cons_zero, Option.some.injEq] at hr hs
        subst hr hs
        exact HBO.out _ (HG.out.trans HG7.out)
    obtain ⟨u0, u1, u2, u3⟩ := HCL.out _ HG7
    clear HBz g7
    go_wp2_with fail
    refine (HP8.out _ _ _ 1 1 _ _ _ HG7 HS7 HR7).mono ?_
    rintro e z9 ⟨rfl, k7, j7, y70, y71, y72, y73⟩
    clear HS7 HG7 HR7 u0 u1 u2 u3 t0 t1 t2 j7
    go_wp2_with fail
    refine (HP7.out _ _ _ _ _ _ k7 HQC).mono ?_
    rintro e z10 ⟨a8, c8, r8, rfl, o8, g8, y80, y81, y82, y83⟩
    obtain ⟨X, cX, eX, hX1, hX2, hX3, hX4⟩ := SOwn.some o8.out.row (by simp; omega)
    have eX2 : a8 = some ⟨X, 0, none⟩ := by simp only [Value.slice.injEq] at eX; exact eX.1
    subst eX2
    clear eX
    have HN10 : Hid (w.heap.size ≤ X) := by have h1 := (HG.out.trans k7.out).size; show _ ≤ _; omega
    obtain ⟨hrd, _, hlen⟩ := o8.out.rd
    obtain ⟨⟨l0, T0, V0⟩, ex⟩ : ∃ x, Q[k]? = some x := ⟨_, List.getElem?_eq_getElem (by omega)⟩
    obtain ⟨b2, off2, la2, lc2, e2, s0, s1, s2, _, _, _⟩ := smp_cells hrd ex
    cases e2
    simp only [Nat.zero_add] at s0 s1 s2
    have hrow := o8.out.row
    rw [hlen] at hrow
    have f0 := sown_free hrow (k * 3)
    have f1 := sown_free hrow (k * 3 + 1)
    have f2 := sown_free hrow (k * 3 + 2)
    have HBz := HBb.out
    obtain ⟨t0, t1, t2⟩ : z10.cell? ⟨N + 1, 0, none⟩ = some (.slice lb n lc) ∧ z10.cell? ⟨N + 1, 1, none⟩ = some (.int .i64 T) ∧ z10.cell? ⟨N + 1, 2, none⟩ = some (.int .u64 V) := ⟨g8.out.cell HBz.1 (by simp), g8.out.cell HBz.2.1 (by simp), g8.out.cell HBz.2.2 (by simp)⟩
    have gst : z10.grownBy (sput3 z10 X k lb n lc T V) (some X) := gb_trans (gb_trans (gb_set rfl) (gb_set rfl) (fun j hj => .inr hj)) (gb_set rfl) (fun j hj => .inr hj)
    have HGw : Hid (w.grownBy (sput3 z10 X k lb n lc T V) none) := gb_trans (HG.out.trans g8.out) gst (fun j hj => .inl (by cases hj; exact HN10.out))
    have HSz : Hid (SmpRd (sput3 z10 X k lb n lc T V) (some ⟨X, 0, none⟩) (r8.set k ((lb, n, lc), T, V)) (Q.set k (ls, T, V))) := by
      have h := own_set (la := lb) (lc := lc) (ls := ls) (T := T) (V := V) o8.out (by rw [hlen]; exact hk)
      rw [ENn.out] at h
      exact h (HBO.out _ HGw.out)
    have HWX : Hid (W.heap.size ≤ X) := by have h1 := k7.out.size; show _ ≤ _; omega
    have HGW : Hid (W.grownBy (sput3 z10 X k lb n lc T V) none) := gb_trans g8.out gst (fun j hj => .inl (by cases hj; exact HWX.out))
    obtain ⟨u0, u1, u2, u3⟩ := HCL.out _ HGW
    clear HBz hrow hrd ex hX1 hX2 hX3 hX4 gst
    obtain ⟨A8, C8, e8⟩ : ∃ A8 C8, checkL ⟨#[97]⟩ (Q.set k (ls, T, V)) m P = (A8, C8) := ⟨_, _, rfl⟩
    have HR9 : Hid ((Q.set k (ls, T, V)).length = L ∧ L ≤ 3518437208882 ∧ checkL ⟨#[97]⟩ (Q.set k (ls, T, V)) m P = (A8, C8)) := ⟨by rw [List.length_set]; exact EL.out, hz, e8⟩
    have HA8 : Hid (C8 = wrongR m ls T ∧ (wrongR m ls T = 0 ∧ A8 = 0 ∨ ¬ wrongR m ls T = 0 ∧ A8 = (k : Int))) := by
      have h := HR8.out
      rw [e8] at h
      show _ ∧ _
      split at h
      · rename_i h0
        cases h
        exact ⟨h0.symm, .inl ⟨h0, rfl⟩⟩
      · rename_i h0
        cases h
        exact ⟨rfl, .inr ⟨h0, rfl⟩⟩
    clear e8 HR8 hlen
    go_upto_region 10 with fail
    clear t0 t1 t2 s0 s1 s2 f0 f1 f2
    go_wp2_with fail
    refine (HP8.out _ _ _ _ _ _ _ _ HGW HSz HR9).mono ?_
    rintro e z11 ⟨rfl, k9, j9, y90, y91, y92, y93⟩
    obtain ⟨eC8, hA8⟩ := HA8.out
    generalize wrongR m ls T = wr at eC8 hA8 ⊢
    subst eC8
    have q2 : (C8 == C8) = true := by simp
    rcases hA8 with ⟨h0, rfl⟩ | ⟨h0, rfl⟩
    · subst h0
      go_wp2_with (go_at_call 14; refine (HA.out _).mono ?_; rintro e z12 ⟨rfl, hg12⟩)
      go_ret
      exact ⟨rfl, (HG.out.trans k9.out).trans hg12⟩
    · have q3 : (C8 == 0) = false := by simpa using h0
      have q4 : ((k : Int) == (k : Int)) = true := by simp
      clear h0
      go_wp2_with (go_at_call 14; refine (HA.out _).mono ?_; rintro e z12 ⟨rfl, hg12⟩)
      go_ret
      exact ⟨rfl, (HG.out.trans k9.out).trans hg12⟩
  · have q1 : (C != 0) = true := by simpa using hC
    clear o1 HS1 x10 x11 x12 x13 g1 HDR d0 d1 d2 d3
    go_wp2_with (go_at_call 14; refine (HA.out _).mono ?_; rintro e z3 ⟨rfl, hg3⟩)
    go_ret
    exact ⟨rfl, (HG.out.trans k1.out).trans hg3⟩
end Go.Proofs.Ythkalbiglfgleaa
