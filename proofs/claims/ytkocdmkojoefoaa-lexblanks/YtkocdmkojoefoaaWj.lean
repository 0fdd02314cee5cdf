/- LexJoins: the walk. -/
import Derived.Test.YtkocdmkojoefoaaOw
import Derived.Test.YtkocdmkojoefoaaJm
import Derived.Deep.CutRange
import Derived.Deep.Cut
import Derived.Deep.RegionHeld3
import Derived.BigQuiet
namespace Go.Proofs.Ytkocdmkojoefoaa
open Go.RowKit
set_option linter.unusedVariables false
set_option maxRecDepth 20000

theorem lex_at : ∀ (m at_ : Nat) (l : List Int) (ts : List Tok), l.length ≤ m → lexL at_ l = .ok ts → ∀ t ∈ ts, (at_ : Int) ≤ t.2.1 ∧ t.2.1 ≤ ((at_ + l.length : Nat) : Int) := by
  intro m
  induction m with
  | zero =>
    intro at_ l ts h e
    have : l = [] := List.eq_nil_of_length_eq_zero (by omega)
    subst this
    rw [lexL] at e
    cases e
    intro t ht
    simp only [List.mem_singleton] at ht
    subst ht
    simp
  | succ m ih =>
    intro at_ l ts h e
    match l with
    | [] =>
      rw [lexL] at e
      cases e
      intro t ht
      simp only [List.mem_singleton] at ht
      subst ht
      simp
    | c :: l =>
      simp only [List.length_cons] at h
      rw [lexL] at e
      by_cases hb : blankB c = true
      · rw [if_pos hb] at e
        intro t ht
        have := ih _ l ts (by omega) e t ht
        rw [List.length_cons]
        omega
      · rw [if_neg hb] at e
        by_cases hn : (tokR (c :: l)).1.2.2.2 = 0
        · rw [if_pos hn] at e; cases e
        · rw [if_neg hn] at e
          have hlen := tok_len (c :: l) (by simp)
          rw [List.length_cons] at hlen
          cases h2 : lexL (at_ + (tokR (c :: l)).1.2.2.2) (l.drop ((tokR (c :: l)).1.2.2.2 - 1)) with
          | bad p d => rw [h2] at e; cases e
          | ok us =>
            rw [h2] at e
            cases e
            intro t ht
            rw [List.length_cons]
            rcases List.mem_cons.1 ht with rfl | ht
            · simp only []
              omega
            · have := ih _ _ us (by rw [List.length_drop]; omega) h2 t ht
              rw [List.length_drop] at this
              omega
theorem lexR_at {s : ByteArray} {ts : List Tok} (h : lexR s = .ok ts) : ∀ t ∈ ts, 0 ≤ t.2.1 ∧ t.2.1 ≤ (s.size : Int) := by
  have hs := (lexR_len h).2.2
  unfold lexR at h
  rw [if_neg (by omega)] at h
  intro t ht
  have := lex_at _ 0 (sInts s) ts (Nat.le_refl _) h t ht
  rw [sInts_len] at this
  omega
def AnyOut (w : World) (e : Ending) (w' : World) : Prop := ∃ v p c, e = .returned (.tuple #[v, .int .i64 p, .int .i64 c]) ∧ w.grownBy w' none
theorem lex_any (s : ByteArray) (w : World) : Calls Try.prog 9 #[.string s] w fun e w' => AnyOut w e w' := (f_lex s w).mono fun e w' h => by
  cases hR : lexR s with
  | ok ts => rw [hR] at h; obtain ⟨a, c, he, _, hg⟩ := h; exact ⟨_, _, _, he, hg⟩
  | bad p c => rw [hR] at h; exact ⟨_, _, _, h.1, h.2⟩
theorem srd_take {α : Type} {E : Elem α} {w : World} {a : Option Addr} {xs ys : List α} (h : SRd E w a (xs ++ ys)) : SRd E w a xs := by
  rcases h with h | ⟨b, off, e, h⟩
  · simp at h; rw [h.1]; exact .inl rfl
  · refine .inr ⟨b, off, e, fun j v hj => h j v ?_⟩
    rw [E.flat_app, List.getElem?_append_left (List.getElem?_eq_some_iff.1 hj).1]
    exact hj
set_option maxHeartbeats 8000000 in
theorem joins_walk (a b : ByteArray) (w : World) (ha : a.size ≤ 140737488351232) (hb : b.size ≤ 140737488351232) : Calls Try.prog 7 #[.string a, .string b] w fun e w' => e = .returned (.bool true) ∧ w.grownBy w' none := by
  cases hA : lexR a with
  | bad p c =>
    have hc := lexR_code hA
    have q1 : (c == 0) = false := by simpa using hc
    have q2 : (c != 0) = true := by simpa using hc
    have L1 := hid (lex_bad hA)
    clear hA hc
    go_enter Try.func7, Try.ntmps7
    go_wp2_with fail
    refine (L1.out _).mono ?_
    rintro e w1 ⟨rfl, hg1⟩
    have G1 := hid hg1
    clear hg1 L1
    go_wp2_with fail
    refine (lex_any b _).mono ?_
    rintro e w2 ⟨v2, p2, c2, rfl, hg2⟩
    have G2 := hid (G1.out.trans hg2)
    clear hg2 G1
    go_wp2_with fail
    refine (f_awake _).mono ?_
    rintro e w3 ⟨rfl, hg3⟩
    have G3 := hid (G2.out.trans hg3)
    clear hg3 G2
    go_wp2
    go_ret
    exact ⟨rfl, G3.out⟩
  | ok xs =>
    obtain ⟨hl1, hl2, hl3⟩ := lexR_len hA
    by_cases hs : a.size + b.size + 1 ≤ 4096
    · have q3 : decide ((4096 : Int) < (a.size : Int) + (b.size : Int) + 1) = false := by simp; omega
      have q3' : ¬ (4096 : Int) < (a.size : Int) + (b.size : Int) + 1 := by omega
      have hJ := lexR_join hA hs
      cases hB : lexR b with
      | bad p c =>
        have hc := lexR_code hB
        have q1 : (c == 0) = false := by simpa using hc
        have q2 : (c != 0) = true := by simpa using hc
        rw [hB] at hJ
        have L1 := hid (lex_ok hA (ne_len hl1))
        have L2 := hid (lex_bad hB)
        have L3 := hid (lex_bad (p := p + (a.size + 1)) (c := c) hJ)
        have hpp : ∃ P : Int, P = ((p + (a.size + 1) : Nat) : Int) ∧ (a.size : Int) < P := ⟨_, rfl, by omega⟩
        obtain ⟨P, eP, hP⟩ := hpp
        rw [← eP] at L3
        clear hA hB hJ hc eP hl1 hl2
        go_enter Try.func7, Try.ntmps7
        go_wp2_with fail
        refine (L1.out _).mono ?_
        rintro e w1 ⟨gx, cx, rfl, hox, hg1⟩
        have G1 := hid hg1
        clear hg1 hox L1
        go_wp2_with fail
        refine (L2.out _).mono ?_
        rintro e w2 ⟨rfl, hg2⟩
        have G2 := hid (G1.out.trans hg2)
        clear hg2 L2 G1
        go_wp2_with fail
        refine (L3.out _).mono ?_
        rintro e w3 ⟨rfl, hg3⟩
        have G3 := hid (G2.out.trans hg3)
        clear hg3 L3 G2
        go_wp2_with fail
        refine (f_awake _).mono ?_
        rintro e w4 ⟨rfl, hg4⟩
        have G4 := hid (G3.out.trans hg4)
        clear hg4 G3
        go_wp2
        go_ret
        exact ⟨rfl, G4.out⟩
      | ok ys =>
        rw [hB] at hJ
        obtain ⟨hm1, hm2, hm3⟩ := lexR_len hB
        have hyat := lexR_at hB
        have HZE : Hid (∀ (i : Nat) (q : Tok), ys[i]? = some q → (xs.dropLast ++ ys.map (shT (a.size + 1)))[xs.length - 1 + i]? = some (shT (a.size + 1) q)) := fun i q h => by
          rw [List.getElem?_append_right (by simp), List.length_dropLast, show xs.length - 1 + i - (xs.length - 1) = i by omega, List.getElem?_map, h]
          rfl
        have hzl : (xs.dropLast ++ ys.map (shT (a.size + 1))).length = xs.length - 1 + ys.length := by simp
        have hJ2 : lexR (a ++ ⟨#[32]⟩ ++ b) = .ok (xs.dropLast ++ ys.map (shT (a.size + 1))) := hJ
        have HXL : Hid (xs = xs.dropLast ++ [xs.getLast (ne_len hl1)]) := (List.dropLast_concat_getLast _).symm
        have L1 := hid (lex_ok hA (ne_len hl1))
        have L2 := hid (lex_ok hB (ne_len hm1))
        have L3 := hid (lex_ok hJ2 (by intro e; rw [e] at hzl; simp at hzl; omega))
        have HDL : Hid (xs.dropLast.length = xs.length - 1) := List.length_dropLast
        unfold OkOut at L1 L2 L3
        rw [hzl] at L3
        have HZT : Hid (∀ w g, SRd tokE w (some ⟨g, 0, none⟩) (xs.dropLast ++ ys.map (shT (a.size + 1))) → SRd tokE w (some ⟨g, 0, none⟩) xs.dropLast) := fun w g h => srd_take h
        have HXT : Hid (∀ w g, SRd tokE w (some ⟨g, 0, none⟩) xs → SRd tokE w (some ⟨g, 0, none⟩) xs.dropLast) := fun w g h => by
          rw [HXL.out] at h
          exact srd_take h
        have HYL : Hid (ys.length = ys.length) := rfl
        have HYA : Hid (∀ (i : Nat) (q : Tok), ys[i]? = some q → 0 ≤ q.2.1 ∧ q.2.1 ≤ 4096) := fun i q h => by
          have := hyat q (List.mem_of_getElem? h)
          omega
        clear hA hB hJ hJ2 hzl hyat HXL
        generalize (xs.dropLast ++ ys.map (shT (a.size + 1))) = zs at HZE L3 HZT
        generalize xs.dropLast = xd at HDL HZT HXT
        generalize hnx : xs.length = nx at L1 L3 HZE HDL hl1 hl2
        generalize hny : ys.length = ny at L2 L3 hm1 hm2 HYL
        have HNY : Hid (ys.length = ny) := hny
        clear hnx hny
        obtain ⟨n1, hn1⟩ : ∃ n1, n1 = nx - 1 := ⟨_, rfl⟩
        rw [← hn1] at L3 HZE HDL
        obtain ⟨nz, hnz⟩ : ∃ nz, nz = n1 + ny := ⟨_, rfl⟩
        rw [← hnz] at L3
        have HN1 : Hid (nx = n1 + 1 ∧ nz = n1 + ny) := ⟨by omega, hnz⟩
        have hnzb : nz ≤ 8200 := by omega
        have hn1b : n1 ≤ 4096 := by omega
        clear hn1 hnz
        go_enter Try.func7, Try.ntmps7
        go_wp2_with fail
        refine (L1.out _).mono ?_
        rintro e w1 ⟨gx, cx, rfl, hox, hg1⟩
        have G1 := hid hg1
        have OX1 := hid hox
        clear hg1 hox L1
        go_wp2_with fail
        refine (L2.out _).mono ?_
        rintro e w2 ⟨gy, cy, rfl, hoy, hg2⟩
        have G2 := hid (G1.out.trans hg2)
        have OX2 := hid (SOwn.kept OX1.out hg2 (Classical.em _))
        have OY2 := hid hoy
        clear hg2 hoy L2 G1 OX1
        go_wp2_with fail
        refine (L3.out _).mono ?_
        rintro e w3 ⟨gz, cz, rfl, hoz, hg3⟩
        have G3 := hid (G2.out.trans hg3)
        have OX3 := hid (SOwn.rd (SOwn.kept OX2.out hg3 (Classical.em _)))
        have OY3 := hid (SOwn.rd (SOwn.kept OY2.out hg3 (Classical.em _)))
        have OZ3 := hid (SOwn.rd hoz)
        have hcz : nz ≤ cz := by
          obtain ⟨_, c', e, _, _, h1, _⟩ := SOwn.some hoz (by simp)
          simp only [Value.slice.injEq] at e
          omega
        have hcx : nx ≤ cx := by
          obtain ⟨_, c', e, _, _, h1, _⟩ := SOwn.some OX2.out (by simp)
          simp only [Value.slice.injEq] at e
          omega
        clear hg3 hoz L3 G2 OX2 OY2
        have H10 : Hid (∀ u, Hid (w3.grownBy u none) → Calls Try.prog 10 #[.slice (some ⟨gz, 0, none⟩) n1 cz, .slice (some ⟨gx, 0, none⟩) n1 cx] u fun e w' => e = .returned (.bool true) ∧ Hid (w3.grownBy w' none)) := fun u hu => by
          have h := tsame _ _ xd xd n1 n1 cz cx u (HZT.out u gz (OZ3.out.grown hu.out (by simp))) (HXT.out u gx (OX3.out.grown hu.out (by simp))) HDL.out HDL.out (by omega)
          exact h.mono fun e w' ⟨h1, h2⟩ => ⟨by rw [h1, decide_eq_true rfl], hu.out.trans h2⟩
        have HDR : Hid (w3.grownBy w3.drew none) := gb_drew (World.grownBy.refl _ _)
        have c1 : n1 ≤ cz := by have := HN1.out; omega
        have c2 : n1 ≤ cx := by have := HN1.out; omega
        have p1 : ((nz : Int) != (nz : Int)) = false := by simp
        have p3 : ((nx : Int) == 0) = false := by have := HN1.out; simp; omega
        have p4 : (nx == 0) = false := by have := HN1.out; simp; omega
        have e1 : IntKind.i64.wrap ((nx : Int) + (ny : Int)) = (nx : Int) + (ny : Int) := by rw [← wrap64_is]; exact IntWalk.wrap64_in _ (by omega)
        have e2 : IntKind.i64.wrap ((nx : Int) + (ny : Int) - 1) = (nz : Int) := by rw [← wrap64_is, IntWalk.wrap64_in _ (by omega)]; have := HN1.out; omega
        have e3 : IntKind.i64.wrap ((nx : Int) - 1) = (n1 : Int) := by rw [← wrap64_is, IntWalk.wrap64_in _ (by omega)]; have := HN1.out; omega
        go_upto_region 8 with fail
        go_cut [94] from 63 to 94 (fun t94 wx => t94 = .bool false ∧ Hid (w3.grownBy wx none))
        case first =>
          go_region_held3 (fun u => Hid (w3.grownBy u none)) (first | exact HDR | assumption) (first | (go_at_call 10; refine (H10.out _ ?h1).mono ?_; (case h1 => first | exact HDR | assumption); rintro e z10 ⟨rfl, s10⟩))
          all_goals (go_wp2_with fail; go_meet)
          all_goals exact ⟨rfl, s10⟩
        case rest =>
          obtain ⟨rfl, hgx⟩ := hcut
          have G4 := hid (G3.out.trans hgx.out)
          have OY4 := hid (OY3.out.grown hgx.out (by simp))
          have OZ4 := hid (OZ3.out.grown hgx.out (by simp))
          clear p1 p3 p4 e1 e2 e3 H10 HDR hgx G3 OX3 OY3 OZ3
          go_wp2
          go_loopw [14] (fun t14 wr => ∃ i : Nat, i ≤ ny ∧ t14 = .int .i64 (i : Int) ∧ w.grownBy wr none ∧ SRd tokE wr (some ⟨gy, 0, none⟩) ys ∧ SRd tokE wr (some ⟨gz, 0, none⟩) zs) (fun t14 _ => ny - (intOf t14).toNat)
          case atStart => exact ⟨0, Nat.zero_le _, rfl, G4.out, OY4.out, OZ4.out⟩
          case round =>
            obtain ⟨i, hi, rfl, hg, hoy, hoz⟩ := hrel
            have G := hid hg
            have OY := hid hoy
            have OZ := hid hoz
            clear hg hoy hoz G4 OY4 OZ4
            by_cases hlt : i < ny
            · have hii : (i : Int) < (ny : Int) := by omega
              obtain ⟨⟨kd, p, t, sp⟩, eq⟩ : ∃ q, ys[i]? = some q := ⟨_, List.getElem?_eq_getElem (by rw [HNY.out]; exact hlt)⟩
              obtain ⟨y0, y1, y2, y3⟩ := tok_cells OY.out eq
              have ez := HZE.out i _ eq
              have hpb := HYA.out i _ eq
              simp only [Nat.zero_add] at y0 y1 y2 y3
              have EZ := hid ez
              clear eq ez
              have hpb1 : 0 ≤ p := hpb.1
              have hpb2 : p ≤ 4096 := hpb.2
              have hle1 : n1 + 1 ≤ nx := by have := HN1.out; omega
              have hle2 : nx ≤ n1 + 1 := by have := HN1.out; omega
              obtain ⟨j, hj⟩ : ∃ j, j = n1 + i := ⟨_, rfl⟩
              have HJ : Hid (j = n1 + i) := hj
              have hjz : j < nz := by have := HN1.out; omega
              have e3 : IntKind.i64.wrap ((nx : Int) - 1) = (n1 : Int) := by rw [← wrap64_is, IntWalk.wrap64_in _ (by omega)]; omega
              have e6 : (nx : Int) - 1 = (n1 : Int) := by omega
              have e5 : IntKind.i64.wrap ((n1 : Int) + (i : Int)) = (j : Int) := by rw [← wrap64_is, IntWalk.wrap64_in _ (by omega)]; omega
              have e7 : (n1 : Int) + (i : Int) = (j : Int) := by omega
              have hjzi : (j : Int) < (nz : Int) := by omega
              clear hj hpb
              have HBX : Hid ((wr.alloc (.cells #[.int .i64 kd, .int .i64 p, .string t, .int .i64 sp] 32)).heap[wr.heap.size]? = some (.cells #[.int .i64 kd, .int .i64 p, .string t, .int .i64 sp] 32 (0, 0))) := heap_alloc_new wr _
              have ga := World.grownBy_alloc wr (.cells #[.int .i64 kd, .int .i64 p, .string t, .int .i64 sp] 32) none
              have GA := hid (G.out.trans ga)
              have OYA := hid (OY.out.grown ga (by simp))
              have OZA := hid (OZ.out.grown ga (by simp))
              have HSB : Hid (w.heap.size ≤ wr.heap.size) := G.out.size
              have HBY : Hid (gy ≠ wr.heap.size ∧ gz ≠ wr.heap.size) := by
                refine ⟨fun e => ?_, fun e => ?_⟩
                · have h := (tok_cells OY.out (by rw [List.getElem?_eq_getElem (by rw [HNY.out]; exact hlt)])).1
                  rw [e] at h
                  simp [World.cell?] at h
                · have h := (tok_cells OZ.out EZ.out).1
                  rw [e] at h
                  simp [World.cell?] at h
              clear ga G OY OZ
              go_upto_region 14 with fail
              clear y0 y1 y2 y3
              generalize wr.alloc (.cells #[.int .i64 kd, .int .i64 p, .string t, .int .i64 sp] 32) = WA at HBX GA OYA OZA ⊢
              generalize hB : wr.heap.size = B at HBX HSB HBY ⊢
              clear hB
              obtain ⟨r0, r1, r2, r3⟩ := cell4 HBX.out
              have f1 := free_row HBX.out 1
              have HBR : Hid ((WA.setCell ⟨B, 1, none⟩ (.int .i64 (p + (a.size : Int) + 1))).heap[B]? = some (.cells #[.int .i64 kd, .int .i64 (p + (a.size : Int) + 1), .string t, .int .i64 sp] 32 (0, 0))) := by
                have h := HBX.out
                show _ = _
                simp [World.setCell, Array.getElem?_modify, h]
              have gs : WA.grownBy (WA.setCell ⟨B, 1, none⟩ (.int .i64 (p + (a.size : Int) + 1))) (some B) := gb_set rfl
              have GB : Hid (w.grownBy (WA.setCell ⟨B, 1, none⟩ (.int .i64 (p + (a.size : Int) + 1))) none) := gb_trans GA.out gs (fun k hk => .inl (by cases hk; exact HSB.out))
              have OYB := hid (OYA.out.grown gs (fun x hx => by cases hx; intro e; exact HBY.out.1 (Option.some.inj e)))
              have OZB := hid (OZA.out.grown gs (fun x hx => by cases hx; intro e; exact HBY.out.2 (Option.some.inj e)))
              clear gs GA OYA OZA HBX
              go_upto_region 15 with fail
              clear r0 r1 r2 r3 f1
              generalize WA.setCell ⟨B, 1, none⟩ (.int .i64 (p + (a.size : Int) + 1)) = WB at HBR GB OYB OZB ⊢
              obtain ⟨r0, r1, r2, r3⟩ := cell4 HBR.out
              have ez2 := EZ.out
              rw [← HJ.out] at ez2
              obtain ⟨z0, z1, z2, z3⟩ := tok_cells OZB.out ez2
              have ev : (shT (a.size + 1) (kd, p, t, sp)).2.1 = p + (a.size : Int) + 1 := by show p + ((a.size + 1 : Nat) : Int) = _; omega
              rw [ev] at z1
              simp only [Nat.zero_add] at z0 z1 z2 z3
              have w0 : WB.cell? ⟨gz, j * 4, none⟩ = some (.int .i64 kd) := z0
              have w2 : WB.cell? ⟨gz, j * 4 + 2, none⟩ = some (.string t) := z2
              have w3' : WB.cell? ⟨gz, j * 4 + 3, none⟩ = some (.int .i64 sp) := z3
              have hq : ∀ u, (binOp .neq 32 (.agg #[.int .i64 kd, .int .i64 (p + (a.size : Int) + 1), .string t, .int .i64 sp]) (.agg #[.int .i64 kd, .int .i64 (p + (a.size : Int) + 1), .string t, .int .i64 sp])).run Try.prog u = .ok (.bool false) u := fun u => by
                rw [neq32, decide_eq_true rfl]; rfl
              clear ev ez2 z0 z2 z3
              generalize p + (a.size : Int) + 1 = pv at z1 r1 hq
              go_quiet (fail)
              go_wp2
              go_roundw
              case rel => exact ⟨i + 1, by omega, by go_num, gb_drewR GB.out _, OYB.out, OZB.out⟩
              case measure => simp [intOf]; omega
            · have hii : ¬ (i : Int) < (ny : Int) := by omega
              clear OY OZ
              go_wp2_with fail
              refine (f_awake _).mono ?_
              rintro e w9 ⟨rfl, hg9⟩
              have G9 := hid (G.out.trans hg9)
              clear hg9 G
              go_wp2
              go_ret
              exact ⟨rfl, G9.out⟩
    · have q3 : decide ((4096 : Int) < (a.size : Int) + (b.size : Int) + 1) = true := by simp; omega
      have q3' : (4096 : Int) < (a.size : Int) + (b.size : Int) + 1 := by omega
      have L1 := hid (lex_ok hA (ne_len hl1))
      clear hA hs hl1 hl2
      go_enter Try.func7, Try.ntmps7
      go_wp2_with fail
      refine (L1.out _).mono ?_
      rintro e w1 ⟨gx, cx, rfl, hox, hg1⟩
      have G1 := hid hg1
      clear hg1 hox L1
      go_wp2_with fail
      refine (lex_any b _).mono ?_
      rintro e w2 ⟨v2, p2, c2, rfl, hg2⟩
      have G2 := hid (G1.out.trans hg2)
      clear hg2 G1
      go_wp2_with fail
      refine (f_awake _).mono ?_
      rintro e w3 ⟨rfl, hg3⟩
      have G3 := hid (G2.out.trans hg3)
      clear hg3 G2
      go_wp2
      go_ret
      exact ⟨rfl, G3.out⟩
end Go.Proofs.Ytkocdmkojoefoaa
