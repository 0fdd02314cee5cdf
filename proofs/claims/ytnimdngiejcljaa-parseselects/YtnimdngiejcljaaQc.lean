/- Package parse: aggregation. -/
import Derived.Test.YtnimdngiejcljaaQb
namespace Go.Proofs.Ytnimdngiejcljaa
open Go.RowKit
set_option linter.unusedVariables false
set_option linter.unusedSimpArgs false
set_option maxRecDepth 20000

theorem num_two (w : World) (x y : Int) : SRd numE (w.alloc (.cells #[.int .i64 x, .int .i64 y] 3)) (some ⟨w.heap.size, 0, none⟩) [x, y] := num_lit w [x, y]
set_option maxHeartbeats 4000000 in
theorem f_agg {b p : Nat} {K : Tk} (X : Nat → List Tok → Rs (List Nd)) (hX : LvOk b p K 36 X) (hF : ∀ n us, us.length < 5000 → (X n us).few us.length) {nest k : Nat} {v : Value} {L : List Row} {ts : List Tok} {w : World} (h : RdAt w b p K k (nest : Int) v L) (ha : Ahead K k ts) (hL : L.length ≤ k) (hn : nest ≤ 64) (h0 : numIn aggsR (hd ts) ≠ 0) (hne : ((groupR 5000 [1, 2] ts.tail).bind fun g r => (brackR nest X r).bind fun a r => .ok (a ++ [aggN (numIn aggsR (hd ts)) g.1 g.2]) r) ≠ .out) :
    Calls Try.prog 78 #[.pointer (some ⟨p, 0, none⟩)] w fun e w' => PQ b p K k (nest : Int) v L ((groupR 5000 [1, 2] ts.tail).bind fun g r => (brackR nest X r).bind fun a r => .ok (a ++ [aggN (numIn aggsR (hd ts)) g.1 g.2]) r) w e w' := by
  have H := hid h
  have HA := hid ha
  have HX := hid hX
  have HL := hid hL
  have HFF := hid hF
  have HA2 := hid (ha.next (numIn_next h0))
  have hk := ha.lt
  have hs := ha.small
  obtain ⟨N, eN⟩ : ∃ N, numIn aggsR (hd ts) = N := ⟨_, rfl⟩
  have EN := hid eN
  rw [eN] at hne ⊢
  obtain ⟨R, eR⟩ : ∃ R, ((groupR 5000 [1, 2] ts.tail).bind fun g r => (brackR nest X r).bind fun a r => .ok (a ++ [aggN N g.1 g.2]) r) = R := ⟨_, rfl⟩
  rw [eR] at hne ⊢
  have ER := hid eR
  have HNE := hid hne
  clear h ha hX hL hne h0 hF eN eR
  go_enter Try.func78, Try.ntmps78
  go_wp2_with fail
  refine (f_aggs _).mono ?_
  rintro e w1 ⟨a1, c1, rfl, hr1, g1⟩
  have H1 := hid (H.out.grown g1)
  have HR1 := hid hr1
  have G1 := hid g1
  clear hr1 g1
  go_wp2_with fail
  refine (f_here H1.out HA.out).mono ?_
  rintro e w2 ⟨rfl, g2⟩
  have H2 := hid (H1.out.grown g2)
  have HR2 := hid (HR1.out.grown g2 (by simp))
  have G2 : Hid (w.grownBy w2 none) := G1.out.trans g2
  clear g2 G1 H1 HR1
  go_wp2_with fail
  refine (f_numIn a1 c1 aggsR (hd ts) w2 HR2.out (by decide)).mono ?_
  rintro e w3 ⟨rfl, g3⟩
  rw [EN.out]
  have G3 : Hid (w.grownBy w3 none) := G2.out.trans g3
  have HN1 := hid (NAt.made H.out (H2.out.grown g3) (.of G3.out) (aggN N 0 []) nilS nilS (SOwn.nil _ _ _) (SOwn.nil _ _ _))
  have c1' := HN1.out.rd.cells.2.1
  have u1 := HN1.out.rd.free 1
  have hst := HN1.out.rd.step (World.grownBy.refl _ _)
  have HN2 := hid (HN1.out.step hst.1 hst.2)
  obtain ⟨NB, eNB⟩ : ∃ NB, NB = w3.heap.size := ⟨_, rfl⟩
  have hpb : p ≠ w3.heap.size := by have := H.out.lt; have := G3.out.size; omega
  have hsz : w.heap.size ≤ w3.heap.size := G3.out.size
  clear g3 hst G2 H2 HR2
  unfold aggN ndA slV at c1' u1 HN2
  go_upto_region 2 with fail
  have HN3 := hid (HN2.out.grown (World.grownBy_alloc _ (.cells #[.int .i64 1, .int .i64 2] 3) none))
  have HGR := hid (f_group HN3.out.rd HA2.out _ 2 [1, 2] (num_two _ 1 2) (by decide) (by decide))
  generalize hW : ((w3.alloc (.cells #[.int .i64 5, .int .i64 N, .string ⟨#[]⟩, .slice none 0 0, .int .i64 0, .int .i64 0, .int .i64 0, .slice none 0 0, .bool false, .int .i64 1] 34)).setCell ⟨p, 1, none⟩ (.int .i64 ((k : Int) + 1))) = W2 at *
  clear hW
  go_wp2_with fail
  refine HGR.out.mono ?_
  intro e w5 h5
  cases hg : groupR 5000 [1, 2] ts.tail with
  | out => rw [hg] at h5; exact h5.elim
  | bad q c =>
    rw [hg] at h5
    obtain ⟨rfl, f5⟩ := h5
    have ER2 : Hid (R = .bad q c) := by
      have := ER.out
      rw [hg, bind_bad] at this
      exact this.symm
    have F5 := hid (HN3.out.adv.fr.trans f5 (fun j hj e => .inl e))
    clear hg f5 HGR
    go_wp2
    refine ⟨rfl, ?_⟩
    rw [ER2.out]
    exact ⟨rfl, F5.out⟩
  | ok g r =>
    rw [hg] at h5
    obtain ⟨sl, rfl, ho5, k5, h5, ha5, hk5, f5⟩ := h5
    obtain ⟨g1, ns⟩ := g
    have ER2 : Hid (((brackR nest X r).bind fun a r => .ok (a ++ [aggN N g1 ns]) r) = R) := by
      have := ER.out
      rw [hg, bind_ok] at this
      exact this
    have HN5 := hid (HN3.out.step h5 f5)
    have HA5 := hid ha5
    have hlt5 := ha5.lt
    have hlen5 := (groupR_fine (f := 5000) (may := [1, 2]) (ts := ts.tail) (by have := take_ahead HA2.out; omega))
    have HB2 := hid (HN5.out.group g1 sl ns (SOwn.base ho5 (by have := HN3.out.adv.fr.size; omega)) (fun j hj e => by
      have h1 := (SOwn.block ho5 j hj).1
      have h2 := (SOwn.block HN3.out.rd.nds.own j e).2
      omega))
    obtain ⟨n0, n1, n2, n3, n4, n5, n6, n7, n8, n9⟩ := HN5.out.cells
    have z6 := free_row HN5.out.row 6
    have z7 := free_row HN5.out.row 7
    have hne3 : brackR nest X r ≠ .out := bind_out (by rw [ER2.out]; exact HNE.out)
    have HNE3 := hid hne3
    have HB := hid (f_brackets X HX.out HB2.out.rd HA5.out (by have := HL.out; omega) hn hne3)
    have HFW := hid (brackR_few (nest := nest) (ts := r) HFF.out (by have := take_ahead HA5.out; omega))
    obtain ⟨x1, x2, x3⟩ := sl
    simp only [slV] at HB2 HB ⊢
    clear hg h5 ho5 ha5 f5 HGR n0 n1 n2 n3 n4 n5 n8 n9 hne3 hlen5
    go_wp2_with fail
    refine HB.out.mono ?_
    intro e w6 h6
    cases hx : brackR nest X r with
    | out => exact absurd hx HNE3.out
    | bad q c =>
      rw [hx] at h6
      obtain ⟨rfl, f6⟩ := h6
      have ER3 : Hid (R = .bad q c) := by
        have := ER2.out
        rw [hx, bind_bad] at this
        exact this.symm
      have F6 := hid (HB2.out.adv.fr.trans f6 (fun j hj e => by
        rcases e with e | e
        · exact .inl e
        · rcases HB2.out.adv.new j e with e2 | e2
          · exact .inr e2
          · omega))
      clear hx f6 HB
      go_wp2
      refine ⟨rfl, ?_⟩
      rw [ER3.out]
      exact ⟨rfl, F6.out⟩
    | ok a r7 =>
      rw [hx] at h6
      obtain ⟨rfl, v7, k7, Q7, h7, hq7, ha7, hk7, a7⟩ := h6
      have ER3 : Hid (.ok (a ++ [aggN N g1 ns]) r7 = R) := by
        have := ER2.out
        rw [hx, bind_ok] at this
        exact this
      have HN7 := hid (HB2.out.go h7 a7)
      have HQ7 := hid hq7
      have HA7 := hid ha7
      have hlen : (L ++ Q7).length ≤ k7 := tell_len (ts := r) (k := k5) (by have := HL.out; omega) ha7 hq7 (few_mono HFW.out (by omega) |> fun hf => few_ok hf hx) HA5.out
      have hbig : (L ++ Q7).length ≤ 1000000 := by have := HA7.out.len; have := HA7.out.small; omega
      have HT := hid (f_tellN HN7.out hbig)
      obtain ⟨n0, n1, n2, n3, n4, n5, n6', n7', n8, n9⟩ := HN7.out.cells
      simp only [aggN, ndA, slV] at HT n0 n1 n2 n3 n4 n5 n6' n7' n8 n9
      clear hx h7 hq7 ha7 a7 HB hlen hbig
      go_wp2_with fail
      refine HT.out.mono ?_
      rintro e w8 ⟨rfl, v8, h8, a8⟩
      have H8 := hid h8
      have A8 := hid a8
      clear h8 a8 HT n0 n1 n2 n3 n4 n5 n6' n7' n8 n9
      go_wp2
      go_end0
      rw [← ER3.out]
      exact ⟨rfl, v8, k7, Q7 ++ [_], by rw [← List.append_assoc]; exact H8.out, app_one HQ7.out, HA7.out, by omega, A8.out⟩
end Go.Proofs.Ytnimdngiejcljaa
