/- Package parse: one, unary. -/
import Derived.Test.YtnimdngiejcljaaQc
namespace Go.Proofs.Ytnimdngiejcljaa
open Go.RowKit
set_option linter.unusedVariables false
set_option linter.unusedSimpArgs false
set_option maxRecDepth 20000

theorem PQ.grown {b p : Nat} {K : Tk} {k : Nat} {op : Int} {v : Value} {L : List Row} {R : Rs (List Nd)} {w w0 w' : World} {e : Ending} (h : PQ b p K k op v L R w e w') (hg : w0.grownBy w none) (hv : ∀ j, v.ownBlock = some j → j < w0.heap.size) : PQ b p K k op v L R w0 e w' := by
  cases R with
  | out => exact h
  | bad q c =>
    obtain ⟨he, hf⟩ := h
    exact ⟨he, (Fr.of (S := Wr p v) hg).trans hf (fun _ _ e => e)⟩
  | ok a r =>
    obtain ⟨he, v', k', Q, h1, h2, h3, h4, h5⟩ := h
    exact ⟨he, v', k', Q, h1, h2, h3, h4, (Adv.gb hg).trans h5⟩
theorem one_num {F nest : Nat} {X : Nat → List Tok → Rs (List Nd)} {ts : List Tok} (h : (hd ts).1 = 1) : oneR F nest X ts = .ok [numN (hd ts).2.2.1] ts.tail := by unfold oneR; rw [if_pos h]
theorem one_brack {F nest : Nat} {X : Nat → List Tok → Rs (List Nd)} {ts : List Tok} (h : (hd ts).1 ≠ 1) (h2 : isB ⟨#[40]⟩ ts = true) : oneR F nest X ts = brackR nest X ts := by unfold oneR; rw [if_neg h, if_pos h2]
theorem one_call {F nest : Nat} {X : Nat → List Tok → Rs (List Nd)} {ts : List Tok} (h : (hd ts).1 ≠ 1) (h2 : isB ⟨#[40]⟩ ts = false) (h3 : numIn funcsR (hd ts) ≠ 0) : oneR F nest X ts = (brackR nest X ts.tail).bind fun a r => .ok (a ++ [callN (numIn funcsR (hd ts))]) r := by unfold oneR; rw [if_neg h, if_neg (by rw [h2]; simp), if_pos h3]
theorem one_agg {F nest : Nat} {X : Nat → List Tok → Rs (List Nd)} {ts : List Tok} (h : (hd ts).1 ≠ 1) (h2 : isB ⟨#[40]⟩ ts = false) (h3 : numIn funcsR (hd ts) = 0) (h4 : numIn aggsR (hd ts) ≠ 0) : oneR F nest X ts = (groupR F [1, 2] ts.tail).bind fun g r => (brackR nest X r).bind fun a r => .ok (a ++ [aggN (numIn aggsR (hd ts)) g.1 g.2]) r := by unfold oneR; rw [if_neg h, if_neg (by rw [h2]; simp), if_neg (by rw [h3]; simp), if_pos h4]
theorem one_sel {F nest : Nat} {X : Nat → List Tok → Rs (List Nd)} {ts : List Tok} (h : (hd ts).1 ≠ 1) (h2 : isB ⟨#[40]⟩ ts = false) (h3 : numIn funcsR (hd ts) = 0) (h4 : numIn aggsR (hd ts) = 0) : oneR F nest X ts = selR F ts := by unfold oneR; rw [if_neg h, if_neg (by rw [h2]; simp), if_neg (by rw [h3]; simp), if_neg (by rw [h4]; simp)]
/-- What numberIn says of a row that a function makes, behind a box. -/
theorem numIn_box {q : Tok} {w : World} {tb : Nat} (hb : w.heap[tb]? = some (.cells #[.int .i64 q.1, .int .i64 q.2.1, .string q.2.2.1, .int .i64 q.2.2.2] 52 (0, 0))) {w1 : World} (hg : w.grownBy w1 none) : w1.heap[tb]? = some (.cells #[.int .i64 q.1, .int .i64 q.2.1, .string q.2.2.1, .int .i64 q.2.2.2] 52 (0, 0)) := (hg.block tb (Array.getElem?_eq_some_iff.1 hb).1 (by simp)).trans hb
set_option maxHeartbeats 4000000 in
theorem f_oneR {b p : Nat} {K : Tk} (X : Nat → List Tok → Rs (List Nd)) (hX : LvOk b p K 36 X) (hF : ∀ n us, us.length < 5000 → (X n us).few us.length) : LvOk b p K 72 (fun nest ts => oneR 5000 nest X ts) := by
  intro nest k v L ts w h ha hL hn hne
  have H := hid h
  have HA := hid ha
  have HL := hid hL
  have hk := ha.lt
  have hs := ha.small
  have hL6 : L.length ≤ 1000000 := by omega
  have HV : Hid (∀ j, v.ownBlock = some j → j < w.heap.size) := fun j hj => (SOwn.block h.nds.own j hj).2
  have HB := hid (fun W : World => heap_alloc_new W (.cells #[.int .i64 (hd ts).1, .int .i64 (hd ts).2.1, .string (hd ts).2.2.1, .int .i64 (hd ts).2.2.2] 52))
  have HGA := hid (fun W : World => World.grownBy_alloc W (.cells #[.int .i64 (hd ts).1, .int .i64 (hd ts).2.1, .string (hd ts).2.2.1, .int .i64 (hd ts).2.2.2] 52) none)
  have HPL := hid h.lt
  by_cases h1 : (hd ts).1 = 1
  · have q1 : ((hd ts).1 == 1) = true := by simpa using h1
    have HNX := hid (ha.next (by rw [h1]; decide))
    show Calls _ _ _ _ fun e w' => PQ b p K k (nest : Int) v L (oneR 5000 nest X ts) w e w'
    rw [one_num h1]
    clear h ha hL hne h1 hX hF
    go_enter Try.func72, Try.ntmps72
    go_wp2_with fail
    refine (f_here H.out HA.out).mono ?_
    rintro e w1 ⟨rfl, g1⟩
    have G2 : Hid (w.grownBy (w1.alloc (.cells #[.int .i64 (hd ts).1, .int .i64 (hd ts).2.1, .string (hd ts).2.2.1, .int .i64 (hd ts).2.2.2] 52)) none) := g1.trans (HGA.out w1)
    have H2 := hid (H.out.grown G2.out)
    obtain ⟨t0, t1, t2, t3⟩ := cell4 (HB.out w1)
    obtain ⟨_, c1, _, _⟩ := H2.out.cells
    have u1 := H2.out.free 1
    have H3 := hid (H2.out.step (World.grownBy.refl _ _))
    have hpb : p ≠ w1.heap.size := by have := HPL.out; have := g1.size; omega
    obtain ⟨NB, eNB⟩ : ∃ NB, NB = w1.heap.size := ⟨_, rfl⟩
    have HT := hid (f_tell H3.out.1 (numN (hd ts).2.2.1, nilS, nilS) (SOwn.nil _ _ _) (SOwn.nil _ _ _) (fun j hj => by cases hj) (fun j hj => by cases hj) hL6)
    unfold numN ndA slV at HT
    rw [tokA]
    clear g1
    go_wp2_with fail
    refine HT.out.mono ?_
    rintro e w4 ⟨rfl, v4, h4, a4⟩
    have H4 := hid h4
    have A4 := hid ((Adv.gb (p := p) (v := v) G2.out).trans ((Adv.me H3.out.2).trans a4))
    clear h4 a4 HT t0 t1 t2 t3 c1 u1
    go_wp2
    go_end0
    exact ⟨rfl, v4, k + 1, [_], H4.out, rfl, HNX.out, by omega, A4.out⟩
  · have q1 : ((hd ts).1 == 1) = false := by simpa using h1
    cases h2 : isB ⟨#[40]⟩ ts with
    | true =>
      have H2B := hid h2
      show Calls _ _ _ _ fun e w' => PQ b p K k (nest : Int) v L (oneR 5000 nest X ts) w e w'
      have hne' : oneR 5000 nest X ts ≠ .out := hne
      rw [one_brack h1 h2] at hne' ⊢
      have HNE := hid hne'
      have HR := hid (fun (w1 : World) (h1 : RdAt w1 b p K k (nest : Int) v L) => f_brackets X hX h1 ha hL hn hne')
      clear h ha hL hne h1 hX hF h2 hne'
      go_enter Try.func72, Try.ntmps72
      go_wp2_with fail
      refine (f_here H.out HA.out).mono ?_
      rintro e w1 ⟨rfl, g1⟩
      have G2 : Hid (w.grownBy (w1.alloc (.cells #[.int .i64 (hd ts).1, .int .i64 (hd ts).2.1, .string (hd ts).2.2.1, .int .i64 (hd ts).2.2.2] 52)) none) := g1.trans (HGA.out w1)
      have H2 := hid (H.out.grown G2.out)
      obtain ⟨t0, t1, t2, t3⟩ := cell4 (HB.out w1)
      rw [tokA]
      clear g1
      go_wp2_with fail
      refine (f_is H2.out HA.out ⟨#[40]⟩).mono ?_
      rintro e w3 ⟨rfl, g3⟩
      have G3 : Hid (w.grownBy w3 none) := G2.out.trans g3
      have H3 := hid (H2.out.grown g3)
      rw [H2B.out]
      clear g3
      go_wp2_with fail
      refine (HR.out _ H3.out).mono ?_
      intro e w4 h4
      have h5 := h4.grown G3.out HV.out
      cases hx : brackR nest X ts with
      | out => exact absurd hx HNE.out
      | bad q c =>
        rw [hx] at h5
        have HXE := hid hx
        obtain ⟨rfl, f5⟩ := h5
        have F5 := hid f5
        clear hx f5 h4
        go_wp2
        refine ⟨rfl, ?_⟩
        rw [HXE.out]
        exact ⟨rfl, F5.out⟩
      | ok a r =>
        rw [hx] at h5
        have HXE := hid hx
        obtain ⟨rfl, h6⟩ := h5
        have H6 := hid h6
        clear hx h6 h4
        go_wp2
        go_end0
        rw [HXE.out]
        exact ⟨rfl, H6.out⟩
    | false =>
      have H2B := hid h2
      have hne' : oneR 5000 nest X ts ≠ .out := hne
      show Calls _ _ _ _ fun e w' => PQ b p K k (nest : Int) v L (oneR 5000 nest X ts) w e w'
      by_cases h3 : numIn funcsR (hd ts) = 0
      · have q3 : (numIn funcsR (hd ts) != 0) = false := by simpa using h3
        by_cases h4 : numIn aggsR (hd ts) = 0
        · have q4 : (numIn aggsR (hd ts) != 0) = false := by simpa using h4
          rw [one_sel h1 h2 h3 h4] at hne' ⊢
          have HNE := hid hne'
          have HR := hid (fun (w1 : World) (h1 : RdAt w1 b p K k (nest : Int) v L) => f_sel h1 ha hL6)
          clear h ha hL hne h1 hX hF h2 hne' h3 h4
          go_enter Try.func72, Try.ntmps72
          go_wp2_with fail
          refine (f_here H.out HA.out).mono ?_
          rintro e w1 ⟨rfl, g1⟩
          have G2 : Hid (w.grownBy (w1.alloc (.cells #[.int .i64 (hd ts).1, .int .i64 (hd ts).2.1, .string (hd ts).2.2.1, .int .i64 (hd ts).2.2.2] 52)) none) := g1.trans (HGA.out w1)
          have H2 := hid (H.out.grown G2.out)
          obtain ⟨t0, t1, t2, t3⟩ := cell4 (HB.out w1)
          rw [tokA]
          clear g1
          go_wp2_with fail
          refine (f_is H2.out HA.out ⟨#[40]⟩).mono ?_
          rintro e w3 ⟨rfl, g3⟩
          have G3 : Hid (w.grownBy w3 none) := G2.out.trans g3
          have B3 := hid (numIn_box (q := hd ts) (HB.out w1) g3)
          rw [H2B.out]
          clear g3 t0 t1 t2 t3
          go_upto_region 7 with fail
          obtain ⟨x0, x1, x2, x3⟩ := cell4 B3.out
          have GD5 : Hid (w.grownBy w3.drew none) := gb_drew G3.out
          have BD5 : Hid (w3.drew.heap[w1.heap.size]? = some (.cells #[.int .i64 (hd ts).1, .int .i64 (hd ts).2.1, .string (hd ts).2.2.1, .int .i64 (hd ts).2.2.2] 52 (0, 0))) := B3.out
          go_region_held3 (fun V => V.cell? ⟨w1.heap.size, 0, none⟩ = some (.int .i64 (hd ts).1) ∧ V.cell? ⟨w1.heap.size, 1, none⟩ = some (.int .i64 (hd ts).2.1) ∧ V.cell? ⟨w1.heap.size, 2, none⟩ = some (.string (hd ts).2.2.1) ∧ V.cell? ⟨w1.heap.size, 3, none⟩ = some (.int .i64 (hd ts).2.2.2)) (go_keep) (first
            | (go_at_call 75; refine (f_funcs _).mono ?_; rintro e w5 ⟨a5, c5, rfl, hr5, g5⟩; have HR5 := hid hr5; have G5 := hid (GD5.out.trans g5); have B5 := hid (numIn_box (q := hd ts) BD5.out g5); obtain ⟨y0, y1, y2, y3⟩ := cell4 B5.out; clear hr5 g5)
            | (go_at_call 55; refine (f_numIn a5 c5 funcsR (hd ts) _ HR5.out (by decide)).mono ?_; rintro e w6 ⟨rfl, g6⟩; have G6 := hid (G5.out.trans g6); have B6 := hid (numIn_box (q := hd ts) B5.out g6); obtain ⟨u0, u1, u2, u3⟩ := cell4 B6.out; clear g6))
          all_goals clear x0 x1 x2 x3 y0 y1 y2 y3
          all_goals clear u0 u1 u2 u3
          go_upto_region 9 with fail
          obtain ⟨x0, x1, x2, x3⟩ := cell4 B6.out
          have GD8 : Hid (w.grownBy w6.drew none) := gb_drew G6.out
          have BD8 : Hid (w6.drew.heap[w1.heap.size]? = some (.cells #[.int .i64 (hd ts).1, .int .i64 (hd ts).2.1, .string (hd ts).2.2.1, .int .i64 (hd ts).2.2.2] 52 (0, 0))) := B6.out
          go_region_held3 (fun V => V.cell? ⟨w1.heap.size, 0, none⟩ = some (.int .i64 (hd ts).1) ∧ V.cell? ⟨w1.heap.size, 1, none⟩ = some (.int .i64 (hd ts).2.1) ∧ V.cell? ⟨w1.heap.size, 2, none⟩ = some (.string (hd ts).2.2.1) ∧ V.cell? ⟨w1.heap.size, 3, none⟩ = some (.int .i64 (hd ts).2.2.2)) (go_keep) (first
            | (go_at_call 77; refine (f_aggs _).mono ?_; rintro e w8 ⟨a8, c8, rfl, hr8, g8⟩; have HR8 := hid hr8; have G8 := hid (GD8.out.trans g8); have B8 := hid (numIn_box (q := hd ts) BD8.out g8); obtain ⟨y0, y1, y2, y3⟩ := cell4 B8.out; clear hr8 g8)
            | (go_at_call 55; refine (f_numIn a8 c8 aggsR (hd ts) _ HR8.out (by decide)).mono ?_; rintro e w9 ⟨rfl, g9⟩; have G9 := hid (G8.out.trans g9); have B9 := hid (numIn_box (q := hd ts) B8.out g9); obtain ⟨u0, u1, u2, u3⟩ := cell4 B9.out; clear g9))
          go_wp2_with fail
          refine (HR.out _ (H.out.grown G9.out)).mono ?_
          intro e w14 h4
          have h5 := h4.grown G9.out HV.out
          cases hx : selR 5000 ts with
          | out => exact absurd hx HNE.out
          | bad q c =>
            rw [hx] at h5
            have HXE := hid hx
            obtain ⟨rfl, f5⟩ := h5
            have F5 := hid f5
            clear hx f5 h4
            go_wp2
            refine ⟨rfl, ?_⟩
            rw [HXE.out]
            exact ⟨rfl, F5.out⟩
          | ok a r =>
            rw [hx] at h5
            have HXE := hid hx
            obtain ⟨rfl, h6⟩ := h5
            have H6 := hid h6
            clear hx h6 h4
            go_wp2
            go_end0
            rw [HXE.out]
            exact ⟨rfl, H6.out⟩
        · have q4 : (numIn aggsR (hd ts) != 0) = true := by simpa using h4
          rw [one_agg h1 h2 h3 h4] at hne' ⊢
          have HNE := hid hne'
          have HR := hid (fun (w1 : World) (h1 : RdAt w1 b p K k (nest : Int) v L) => f_agg X hX hF h1 ha hL hn h4 hne')
          clear h ha hL hne h1 hX hF h2 hne' h3 h4
          go_enter Try.func72, Try.ntmps72
          go_wp2_with fail
          refine (f_here H.out HA.out).mono ?_
          rintro e w1 ⟨rfl, g1⟩
          have G2 : Hid (w.grownBy (w1.alloc (.cells #[.int .i64 (hd ts).1, .int .i64 (hd ts).2.1, .string (hd ts).2.2.1, .int .i64 (hd ts).2.2.2] 52)) none) := g1.trans (HGA.out w1)
          have H2 := hid (H.out.grown G2.out)
          obtain ⟨t0, t1, t2, t3⟩ := cell4 (HB.out w1)
          rw [tokA]
          clear g1
          go_wp2_with fail
          refine (f_is H2.out HA.out ⟨#[40]⟩).mono ?_
          rintro e w3 ⟨rfl, g3⟩
          have G3 : Hid (w.grownBy w3 none) := G2.out.trans g3
          have B3 := hid (numIn_box (q := hd ts) (HB.out w1) g3)
          rw [H2B.out]
          clear g3 t0 t1 t2 t3
          go_upto_region 7 with fail
          obtain ⟨x0, x1, x2, x3⟩ := cell4 B3.out
          have GD5 : Hid (w.grownBy w3.drew none) := gb_drew G3.out
          have BD5 : Hid (w3.drew.heap[w1.heap.size]? = some (.cells #[.int .i64 (hd ts).1, .int .i64 (hd ts).2.1, .string (hd ts).2.2.1, .int .i64 (hd ts).2.2.2] 52 (0, 0))) := B3.out
          go_region_held3 (fun V => V.cell? ⟨w1.heap.size, 0, none⟩ = some (.int .i64 (hd ts).1) ∧ V.cell? ⟨w1.heap.size, 1, none⟩ = some (.int .i64 (hd ts).2.1) ∧ V.cell? ⟨w1.heap.size, 2, none⟩ = some (.string (hd ts).2.2.1) ∧ V.cell? ⟨w1.heap.size, 3, none⟩ = some (.int .i64 (hd ts).2.2.2)) (go_keep) (first
            | (go_at_call 75; refine (f_funcs _).mono ?_; rintro e w5 ⟨a5, c5, rfl, hr5, g5⟩; have HR5 := hid hr5; have G5 := hid (GD5.out.trans g5); have B5 := hid (numIn_box (q := hd ts) BD5.out g5); obtain ⟨y0, y1, y2, y3⟩ := cell4 B5.out; clear hr5 g5)
            | (go_at_call 55; refine (f_numIn a5 c5 funcsR (hd ts) _ HR5.out (by decide)).mono ?_; rintro e w6 ⟨rfl, g6⟩; have G6 := hid (G5.out.trans g6); have B6 := hid (numIn_box (q := hd ts) B5.out g6); obtain ⟨u0, u1, u2, u3⟩ := cell4 B6.out; clear g6))
          all_goals clear x0 x1 x2 x3 y0 y1 y2 y3
          all_goals clear u0 u1 u2 u3
          go_upto_region 9 with fail
          obtain ⟨x0, x1, x2, x3⟩ := cell4 B6.out
          have GD8 : Hid (w.grownBy w6.drew none) := gb_drew G6.out
          have BD8 : Hid (w6.drew.heap[w1.heap.size]? = some (.cells #[.int .i64 (hd ts).1, .int .i64 (hd ts).2.1, .string (hd ts).2.2.1, .int .i64 (hd ts).2.2.2] 52 (0, 0))) := B6.out
          go_region_held3 (fun V => V.cell? ⟨w1.heap.size, 0, none⟩ = some (.int .i64 (hd ts).1) ∧ V.cell? ⟨w1.heap.size, 1, none⟩ = some (.int .i64 (hd ts).2.1) ∧ V.cell? ⟨w1.heap.size, 2, none⟩ = some (.string (hd ts).2.2.1) ∧ V.cell? ⟨w1.heap.size, 3, none⟩ = some (.int .i64 (hd ts).2.2.2)) (go_keep) (first
            | (go_at_call 77; refine (f_aggs _).mono ?_; rintro e w8 ⟨a8, c8, rfl, hr8, g8⟩; have HR8 := hid hr8; have G8 := hid (GD8.out.trans g8); have B8 := hid (numIn_box (q := hd ts) BD8.out g8); obtain ⟨y0, y1, y2, y3⟩ := cell4 B8.out; clear hr8 g8)
            | (go_at_call 55; refine (f_numIn a8 c8 aggsR (hd ts) _ HR8.out (by decide)).mono ?_; rintro e w9 ⟨rfl, g9⟩; have G9 := hid (G8.out.trans g9); have B9 := hid (numIn_box (q := hd ts) B8.out g9); obtain ⟨u0, u1, u2, u3⟩ := cell4 B9.out; clear g9))
          go_wp2_with fail
          refine (HR.out _ (H.out.grown G9.out)).mono ?_
          intro e w14 h4
          have h5 := h4.grown G9.out HV.out
          cases hx : (groupR 5000 [1, 2] ts.tail).bind (fun g r => (brackR nest X r).bind fun a r => Rs.ok (a ++ [aggN (numIn aggsR (hd ts)) g.1 g.2]) r) with
          | out => exact absurd hx HNE.out
          | bad q c =>
            rw [hx] at h5
            have HXE := hid hx
            obtain ⟨rfl, f5⟩ := h5
            have F5 := hid f5
            clear hx f5 h4
            go_wp2
            refine ⟨rfl, ?_⟩
            rw [HXE.out]
            exact ⟨rfl, F5.out⟩
          | ok a r =>
            rw [hx] at h5
            have HXE := hid hx
            obtain ⟨rfl, h6⟩ := h5
            have H6 := hid h6
            clear hx h6 h4
            go_wp2
            go_end0
            rw [HXE.out]
            exact ⟨rfl, H6.out⟩
      · have q3 : (numIn funcsR (hd ts) != 0) = true := by simpa using h3
        rw [one_call h1 h2 h3] at hne' ⊢
        have HNE := hid hne'
        have HR := hid (fun (w1 : World) (h1 : RdAt w1 b p K k (nest : Int) v L) => f_call X hX hF h1 ha hL hn h3 (bind_out hne'))
        clear h ha hL hne h1 hX hF h2 hne' h3
        go_enter Try.func72, Try.ntmps72
        go_wp2_with fail
        refine (f_here H.out HA.out).mono ?_
        rintro e w1 ⟨rfl, g1⟩
        have G2 : Hid (w.grownBy (w1.alloc (.cells #[.int .i64 (hd ts).1, .int .i64 (hd ts).2.1, .string (hd ts).2.2.1, .int .i64 (hd ts).2.2.2] 52)) none) := g1.trans (HGA.out w1)
        have H2 := hid (H.out.grown G2.out)
        obtain ⟨t0, t1, t2, t3⟩ := cell4 (HB.out w1)
        rw [tokA]
        clear g1
        go_wp2_with fail
        refine (f_is H2.out HA.out ⟨#[40]⟩).mono ?_
        rintro e w3 ⟨rfl, g3⟩
        have G3 : Hid (w.grownBy w3 none) := G2.out.trans g3
        have B3 := hid (numIn_box (q := hd ts) (HB.out w1) g3)
        rw [H2B.out]
        clear g3 t0 t1 t2 t3
        go_upto_region 7 with fail
        obtain ⟨x0, x1, x2, x3⟩ := cell4 B3.out
        have GD5 : Hid (w.grownBy w3.drew none) := gb_drew G3.out
        have BD5 : Hid (w3.drew.heap[w1.heap.size]? = some (.cells #[.int .i64 (hd ts).1, .int .i64 (hd ts).2.1, .string (hd ts).2.2.1, .int .i64 (hd ts).2.2.2] 52 (0, 0))) := B3.out
        go_region_held3 (fun V => V.cell? ⟨w1.heap.size, 0, none⟩ = some (.int .i64 (hd ts).1) ∧ V.cell? ⟨w1.heap.size, 1, none⟩ = some (.int .i64 (hd ts).2.1) ∧ V.cell? ⟨w1.heap.size, 2, none⟩ = some (.string (hd ts).2.2.1) ∧ V.cell? ⟨w1.heap.size, 3, none⟩ = some (.int .i64 (hd ts).2.2.2)) (go_keep) (first
          | (go_at_call 75; refine (f_funcs _).mono ?_; rintro e w5 ⟨a5, c5, rfl, hr5, g5⟩; have HR5 := hid hr5; have G5 := hid (GD5.out.trans g5); have B5 := hid (numIn_box (q := hd ts) BD5.out g5); obtain ⟨y0, y1, y2, y3⟩ := cell4 B5.out; clear hr5 g5)
          | (go_at_call 55; refine (f_numIn a5 c5 funcsR (hd ts) _ HR5.out (by decide)).mono ?_; rintro e w6 ⟨rfl, g6⟩; have G6 := hid (G5.out.trans g6); have B6 := hid (numIn_box (q := hd ts) B5.out g6); obtain ⟨u0, u1, u2, u3⟩ := cell4 B6.out; clear g6))
        go_wp2_with fail
        refine (HR.out _ (H.out.grown G6.out)).mono ?_
        intro e w14 h4
        have h5 := h4.grown G6.out HV.out
        cases hx : (brackR nest X ts.tail).bind (fun a r => Rs.ok (a ++ [callN (numIn funcsR (hd ts))]) r) with
        | out => exact absurd hx HNE.out
        | bad q c =>
          rw [hx] at h5
          have HXE := hid hx
          obtain ⟨rfl, f5⟩ := h5
          have F5 := hid f5
          clear hx f5 h4
          go_wp2
          refine ⟨rfl, ?_⟩
          rw [HXE.out]
          exact ⟨rfl, F5.out⟩
        | ok a r =>
          rw [hx] at h5
          have HXE := hid hx
          obtain ⟨rfl, h6⟩ := h5
          have H6 := hid h6
          clear hx h6 h4
          go_wp2
          go_end0
          rw [HXE.out]
          exact ⟨rfl, H6.out⟩
theorem unary_no {f nest : Nat} {ts : List Tok} (h : isB ⟨#[45]⟩ ts = false) : P (f + 1) 5 nest ts = P f 6 nest ts := by rw [P_succ, if_neg (by omega), if_pos rfl, if_neg (by rw [h]; simp)]
theorem unary_yes {f nest : Nat} {ts : List Tok} (h : isB ⟨#[45]⟩ ts = true) : P (f + 1) 5 nest ts = (nestR ⟨#[45]⟩ nest (P f 5) ts).bind fun a r => .ok (a ++ [negN]) r := by rw [P_succ, if_neg (by omega), if_pos rfl, if_pos h]
theorem ent71 (caps : Array Value) (w : World) : (callFunc 71 caps).run Try.prog w = .ok (.enter 71 caps) w := by kernel_rfl
set_option maxHeartbeats 2000000 in
theorem f_unary {b p : Nat} {K : Tk} (f : Nat) (h5 : LvOk b p K 71 (P f 5)) (h6 : LvOk b p K 72 (P f 6)) : LvOk b p K 71 (P (f + 1) 5) := by
  intro nest k v L ts w h ha hL hn hne
  have H := hid h
  have HA := hid ha
  have HL := hid hL
  have hk := ha.lt
  have hs := ha.small
  have HV : Hid (∀ j, v.ownBlock = some j → j < w.heap.size) := fun j hj => (SOwn.block h.nds.own j hj).2
  cases hb : isB ⟨#[45]⟩ ts with
  | false =>
    rw [unary_no hb] at hne ⊢
    have HNE := hid hne
    have HB := hid hb
    have H6 := hid (h6 nest k v L ts)
    clear h ha hL hne hb h5 h6
    go_enter Try.func71, Try.ntmps71
    go_wp2_with fail
    refine (f_is H.out HA.out ⟨#[45]⟩).mono ?_
    rintro e w1 ⟨rfl, g1⟩
    have G1 := hid g1
    rw [HB.out]
    clear g1
    go_wp2_with fail
    refine (H6.out w1 (H.out.grown G1.out) HA.out HL.out hn HNE.out).mono ?_
    intro e w4 h4
    have h5 := h4.grown G1.out HV.out
    cases hx : P f 6 nest ts with
    | out => exact absurd hx HNE.out
    | bad q c =>
      rw [hx] at h5
      have HXE := hid hx
      obtain ⟨rfl, f5⟩ := h5
      have F5 := hid f5
      clear hx f5 h4
      go_wp2
      refine ⟨rfl, ?_⟩
      rw [HXE.out]
      exact ⟨rfl, F5.out⟩
    | ok a r =>
      rw [hx] at h5
      have HXE := hid hx
      obtain ⟨rfl, h6⟩ := h5
      have H6 := hid h6
      clear hx h6 h4
      go_wp2
      go_end0
      rw [HXE.out]
      exact ⟨rfl, H6.out⟩
  | true =>
    rw [unary_yes hb] at hne ⊢
    have HB := hid hb
    have HNE := hid (bind_out hne)
    have HFW := hid (nestR_few (sign := ⟨#[45]⟩) (nest := nest) (X := P f 5) (ts := ts) (fun n us hu => P_few f 5 n us hu) (by have := take_ahead ha; omega))
    have HNS := hid (fun w1 h1 => f_nested 71 (P f 5) (ent71 _) h5 ⟨#[45]⟩ (nest := nest) (k := k) (v := v) (L := L) (ts := ts) (w := w1) h1 ha hL hn (bind_out hne))
    clear h ha hL hne hb h5 h6
    go_enter Try.func71, Try.ntmps71
    go_wp2_with fail
    refine (f_is H.out HA.out ⟨#[45]⟩).mono ?_
    rintro e w1 ⟨rfl, g1⟩
    have G1 := hid g1
    rw [HB.out]
    clear g1
    go_wp2_with fail
    refine (HNS.out w1 (H.out.grown G1.out)).mono ?_
    intro e w4 h4
    have h5 := h4.grown G1.out HV.out
    cases hx : nestR ⟨#[45]⟩ nest (P f 5) ts with
    | out => exact absurd hx HNE.out
    | bad q c =>
      rw [hx] at h5
      have HXE := hid hx
      obtain ⟨rfl, f5⟩ := h5
      have F5 := hid f5
      clear hx f5 h4
      go_wp2
      refine ⟨rfl, ?_⟩
      rw [HXE.out, bind_bad]
      exact ⟨rfl, F5.out⟩
    | ok a r =>
      rw [hx] at h5
      have HXE := hid hx
      obtain ⟨rfl, v5, k5, Q5, h6, hq5, ha5, hk5, a5⟩ := h5
      have H6 := hid h6
      have HQ5 := hid hq5
      have HA5 := hid ha5
      have A5 := hid a5
      have hlen : (L ++ Q5).length ≤ k5 := tell_len (ts := ts) (k := k) HL.out ha5 hq5 (few_mono HFW.out (by omega) |> fun hf => few_ok hf hx) HA.out
      have hbig : (L ++ Q5).length ≤ 1000000 := by have := HA5.out.len; have := HA5.out.small; omega
      have HT := hid (f_tell h6 (negN, nilS, nilS) (SOwn.nil _ _ _) (SOwn.nil _ _ _) (fun j hj => by cases hj) (fun j hj => by cases hj) hbig)
      unfold negN ndA slV at HT
      clear hx h6 hq5 ha5 a5 h4 hlen hbig HNS
      go_wp2_with fail
      refine HT.out.mono ?_
      rintro e w6 ⟨rfl, v6, h6, a6⟩
      have H7 := hid h6
      have A6 := hid a6
      clear h6 a6 HT
      go_wp2
      go_end0
      rw [HXE.out, bind_ok]
      exact ⟨rfl, v6, k5, Q5 ++ [_], by rw [← List.append_assoc]; exact H7.out, app_one HQ5.out, HA5.out, hk5, A5.out.trans A6.out⟩
end Go.Proofs.Ytnimdngiejcljaa
