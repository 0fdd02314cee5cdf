/- The document's Check of nodes. (Printed by mk_yi.py.) -/
import Derived.Test.YthbodkgcbfplgaaGreatYh
namespace Go.Proofs.YthbodkgcbfplgaaGreat
open Go.RowKit
set_option linter.unusedVariables false
set_option linter.unusedSimpArgs false
set_option maxRecDepth 20000

theorem under39 : Tryz.prog.underlying 39 = some (.slice (Tryz.prog.elem 39)) := by kernel_rfl
theorem size3 (w : World) : (sizeOf (Tryz.prog.elem 39)).run Tryz.prog w = .ok 1 w := by
  have e : Tryz.prog.elem 39 = 3 := by kernel_rfl
  have c : Tryz.prog.cellsOf 3 = 1 := by kernel_rfl
  obtain ⟨i0, hi, _⟩ := info_parts info3
  rw [e, Go.run_sizeOf w hi, c]
theorem ints_to (a : Option Addr) (L cap k : Nat) (hk : k ≤ L) (hc : L ≤ cap) (w : World) : (Instr.slice 39 (.slice a L cap) none (some (.int .i64 (k : Int))) none).run Tryz.prog w = .ok (.slice a k cap) w := by
  rw [run_slice_h w 39 a L cap under39 .i64 k (by omega) (by omega), size3]
  cases a <;> simp [Result.andThen, sliced, Addr.add]
theorem ints_from (a : Option Addr) (L cap k : Nat) (hk : k ≤ L) (hc : L ≤ cap) : ∃ b c, (∀ w, (Instr.slice 39 (.slice a L cap) (some (.int .i64 (k : Int))) none none).run Tryz.prog w = .ok (.slice b (L - k) c) w) ∧
    ∀ w (zs : List Int), SRd numE w a zs → zs.length = L → SRd numE w b (zs.drop k) := by
  by_cases hck : cap = k
  · refine ⟨a, cap - k, fun w => ?_, fun w zs h hl => ?_⟩
    · rw [run_slice_l w 39 a L cap under39 .i64 k (by omega) (by omega), size3]
      simp [Result.andThen, sliced, hck]
    · left; rw [List.drop_eq_nil_iff]; omega
  · refine ⟨a.map (·.add (k * 1)), cap - k, fun w => ?_, fun w zs h hl => ?_⟩
    · rw [run_slice_l w 39 a L cap under39 .i64 k (by omega) (by omega), size3]
      simp [Result.andThen, sliced, hck]
    · exact h.drop k (by omega)
theorem sown_le {α : Type} {E : Elem α} {e : TypeId} {w : World} {b n : Nat} {a : Option Addr} {c : Nat} {l : List α} (h : SOwn E e w b (.slice a n c) n l) : n ≤ c := by
  rcases h.2 with ⟨h', h0⟩ | ⟨g, cap, cur, h', k1, k2, k3, k4, k5, k6⟩
  · omega
  · cases h'; exact k3
theorem own_form {α : Type} {E : Elem α} {e : TypeId} {w : World} {b n : Nat} {v : Value} {l : List α} (h : SOwn E e w b v n l) : ∃ a c, v = .slice a n c := by
  rcases h.2 with ⟨h', h0⟩ | ⟨g, cap, cur, h', k1, k2, k3, k4, k5, k6⟩
  · exact ⟨none, 0, by rw [h', h0]⟩
  · exact ⟨_, _, h'⟩
set_option maxHeartbeats 32000000 in
theorem r_check (a : Option Addr) (c : Nat) (Q : List Row) (w : World) (h : NsRd w a Q) (htx : ∀ q ∈ Q, q.1.text.size ≤ 9223372036854775807) (hl : Q.length ≤ 10000000000000) :
    Calls Tryz.prog 7 #[.slice a Q.length c] w fun e w' => e = .returned (.tuple #[.int .i64 (chkT (Q.map (·.1))).1, .int .i64 (chkT (Q.map (·.1))).2.1, .int .i64 (chkT (Q.map (·.1))).2.2]) ∧ w.grownBy w' none := by
  have H := hid h
  have HTX := hid htx
  have HLM : Hid ((Q.map (·.1)).length = Q.length) := List.length_map _
  clear h htx
  go_enter Tryz.func7, Tryz.ntmps7
  go_wp2
  go_loopw [5, 6] (fun t5 t6 wr => ∃ (i : Nat) (st : List Int) (a5 : Option Addr) (c5 : Nat), i ≤ Q.length ∧ t6 = .int .i64 (i : Int) ∧ t5 = .slice a5 st.length c5 ∧ st.length ≤ i ∧ Hid (SOwn numE 3 wr w.heap.size (.slice a5 st.length c5) st.length st) ∧ Hid (w.grownBy wr none) ∧ Hid (∀ k ∈ st, TyB k) ∧ Hid (runT 0 [] (Q.map (·.1)) = runT i st ((Q.map (·.1)).drop i))) (fun _ t6 _ => Q.length - (intOf t6).toNat)
  case atStart => exact ⟨0, [], none, 0, Nat.zero_le _, rfl, rfl, Nat.zero_le _, SOwn.nil _ _ _, World.grownBy.refl _ _, fun k hk => (List.not_mem_nil hk).elim, rfl⟩
  case round =>
    obtain ⟨i, st, a5, c5, hi, rfl, rfl, hsi, HS, HG, HTY, HR⟩ := hrel
    by_cases hlt : i < Q.length
    · have hki : (i : Int) < (Q.length : Int) := by omega
      obtain ⟨q, hq⟩ : ∃ q, Q[i]? = some q := ⟨_, List.getElem?_eq_getElem hlt⟩
      have hn := (H.out.grown HG.out).each q (List.mem_of_getElem? hq)
      have htq := HTX.out q (List.mem_of_getElem? hq)
      have hd : (Q.map (·.1)).drop i = q.1 :: (Q.map (·.1)).drop (i + 1) := by
        rw [List.drop_eq_getElem_cons (by rw [HLM.out]; exact hlt)]
        congr 1
        rw [List.getElem_map, (List.getElem?_eq_some_iff.1 hq).2]
      have HR2 : Hid (runT 0 [] (Q.map (·.1)) = if codeT st q.1 = 0 then runT (i + 1) (nextT st q.1) ((Q.map (·.1)).drop (i + 1)) else (codeT st q.1, i, st)) := by
        show _ = _
        rw [HR.out, hd, runT_cons]
      have HEND : Hid (∀ cd : Int, codeT st q.1 = cd → cd ≠ 0 → chkT (Q.map (·.1)) = (0, (i : Int), cd)) := fun cd h1 h2 => by
        unfold chkT
        rw [HR2.out, h1, if_neg h2, if_neg h2]
      obtain ⟨bb, oo, ea, _⟩ := H.out.rd.at (by omega)
      subst ea
      have HCE : Hid (∀ W, wr.grownBy W none → _) := fun W hg => nd_cells (i := i) (H.out.rd.grown (HG.out.trans hg) (by simp)) hq
      obtain ⟨x, ⟨ma, mn, mc⟩, ⟨na, nn, nc⟩⟩ := q
      obtain rfl : mn = x.mat.length := hn.ml
      obtain rfl : nn = x.names.length := hn.nl
      have HPT : Hid (∀ w, Calls Tryz.prog 14 #[.int .i64 x.kind] w fun e w' => e = .returned (.int .i64 (partsK x.kind)) ∧ w = w') := fun w => r_parts x.kind w
      have HFM : Hid (kindB x.kind = true → ∀ W, wr.grownBy W none → Calls Tryz.prog 15 #[.agg #[.int .i64 x.kind, .int .i64 x.op, .string x.text, .slice ma x.mat.length mc, .int .i64 x.width, .int .i64 x.back, .int .i64 x.group, .slice na x.names.length nc, .bool x.bool, .int .i64 x.parts]] W fun e w' => e = .returned (.bool (formB x)) ∧ W.grownBy w' none) := fun hk W hg => r_form x ma na mc nc W (hn.grown hg) htq hk
      have HMC : Hid (∀ W, wr.grownBy W none → Calls Tryz.prog 16 #[.slice ma x.mat.length mc] W fun e w' => ∃ r : Int, e = .returned (.int .i64 r) ∧ Hid (decide (r = 0) = matsB x.mat) ∧ W = w') := fun W hg => r_mcheck ma mc x.mat W (hn.mat.grown hg (by simp)) hn.mz
      have hle5 := sown_le HS.out
      have HLE := hid hle5
      clear hq hn hd HR htq hle5
      unfold slV at *
      try dsimp only at *
      obtain ⟨d0, d1, d2, d3, d4, d5, d6, d7, d8, d9⟩ := HCE.out wr (World.grownBy.refl _ _)
      cases hkb : kindB x.kind with
      | false =>
        have hfo : formB x = false := by unfold formB; rw [hkb]; rfl
        have HE := hid (HEND.out 190 (by unfold codeT; rw [if_pos (.inl hfo)]) (by decide))
        have hpk : partsK x.kind = -1 := by
          unfold kindB at hkb
          simp only [Bool.and_eq_false_iff, decide_eq_false_iff_not] at hkb
          unfold partsK
          rw [if_neg (by omega), if_neg (by omega), if_neg (by omega)]
        rw [hpk] at HPT
        clear hfo hkb hpk
        go_wp2_with fail
        refine (HPT.out _).mono ?_
        rintro e w9 ⟨rfl, rfl⟩
        go_wp2
        go_ret3
        rw [HE.out]
        exact ⟨rfl, HG.out⟩
      | true =>
        have HKB := hid hkb
        have hk7 : x.kind = 1 ∨ x.kind = 2 ∨ x.kind = 3 ∨ x.kind = 4 ∨ x.kind = 5 ∨ x.kind = 6 ∨ x.kind = 7 := by
          unfold kindB at hkb
          simp only [Bool.and_eq_true, decide_eq_true_eq] at hkb
          omega
        have HPK : Hid (0 ≤ partsK x.kind ∧ partsK x.kind ≤ 2) := by
          show _ ∧ _
          rcases hk7 with h | h | h | h | h | h | h <;> rw [h] <;> decide
        have HPP : Hid (formB x = true → x.parts = partsK x.kind) := fun hf => by
          obtain ⟨h1, h2⟩ := form_parts hf
          rw [h1, fo_parts h2]
          rcases hk7 with h | h | h | h | h | h | h <;> rw [h] <;> decide
        clear hk7
        generalize partsK x.kind = pk at *
        have q1 : decide (pk < 0) = false := by have := HPK.out; simp; omega
        by_cases hp : (st.length : Int) < pk
        · have HE := hid (HEND.out 190 (by
            unfold codeT
            rw [if_pos (by
              cases hfo : formB x with
              | false => exact .inl rfl
              | true => exact .inr (by have := HPP.out hfo; omega))]) (by decide))
          have q2 : decide ((st.length : Int) < pk) = true := by simpa using hp
          clear hp
          go_wp2_with fail
          refine (HPT.out _).mono ?_
          rintro e w9 ⟨rfl, rfl⟩
          go_wp2
          go_ret3
          rw [HE.out]
          exact ⟨rfl, HG.out⟩
        · have q2 : decide ((st.length : Int) < pk) = false := by simpa using hp
          have HPL : Hid (pk ≤ (st.length : Int)) := by show _ ≤ _; omega
          cases hfo : formB x with
          | false =>
            have HE := hid (HEND.out 190 (by unfold codeT; rw [if_pos (.inl hfo)]) (by decide))
            rw [hfo] at HFM
            clear hfo
            go_wp2_with fail
            refine (HPT.out _).mono ?_
            rintro e w9 ⟨rfl, rfl⟩
            go_wp2_with fail
            refine (HFM.out HKB.out _ (World.grownBy.refl _ _)).mono ?_
            rintro e w2 ⟨rfl, g2⟩
            have G2 := hid (HG.out.trans g2)
            clear g2
            clear d0 d1 d2 d3 d4 d5 d6 d7 d8 d9
            go_wp2
            go_ret3
            rw [HE.out]
            exact ⟨rfl, G2.out⟩
          | true =>
            have HNP : Hid (¬ (formB x = false ∨ (st.length : Int) < x.parts)) := fun e => by
              rcases e with e | e
              · rw [hfo] at e; cases e
              · rw [HPP.out hfo] at e; omega
            cases hm : matsB x.mat with
            | false =>
              have HE := hid (HEND.out 193 (by unfold codeT; rw [if_neg HNP.out, if_pos hm]) (by decide))
              have HM := hid hm
              clear hm
              rw [hfo] at HFM
              go_wp2_with fail
              refine (HPT.out _).mono ?_
              rintro e w9 ⟨rfl, rfl⟩
              go_wp2_with fail
              refine (HFM.out HKB.out _ (World.grownBy.refl _ _)).mono ?_
              rintro e w2 ⟨rfl, g2⟩
              have g2h := hid g2
              clear g2
              clear d0 d1 d2 d3 d4 d5 d6 d7 d8 d9
              obtain ⟨d0, d1, d2, d3, d4, d5, d6, d7, d8, d9⟩ := HCE.out w2 g2h.out
              go_wp2_with fail
              refine (HMC.out _ g2h.out).mono ?_
              rintro e w3 ⟨r, rfl, hr, rfl⟩
              have q3 : (r != 0) = true := by
                have := hr.out
                rw [HM.out] at this
                simpa using this
              have G2 := hid (HG.out.trans g2h.out)
              clear d0 d1 d2 d3 d4 d5 d6 d7 d8 d9
              go_wp2
              go_ret3
              rw [HE.out]
              exact ⟨rfl, G2.out⟩
            | true =>
              have HM := hid hm
              clear hm
              obtain ⟨k, hk⟩ : ∃ k : Nat, (st.length : Int) - pk = (k : Int) := ⟨((st.length : Int) - pk).toNat, by have := HPL.out; omega⟩
              have HBT : Hid (belowT st x = k) := by
                show st.length - x.parts.toNat = k
                have h8 := HPP.out hfo
                have h9 := HPK.out
                omega
              have HKL : Hid (k ≤ st.length ∧ ((st.length - k : Nat) : Int) = pk) := by
                show _ ∧ _
                have hp0 := HPK.out
                exact ⟨by omega, by omega⟩
              obtain ⟨b9, c9, hsl, hsr⟩ := ints_from a5 st.length c5 k HKL.out.1 HLE.out
              have hwk : IntKind.i64.wrap (k : Int) = (k : Int) := by
                have := HKL.out.1
                simp [IntKind.wrap, IntKind.bits, IntKind.signed]
                omega
              have HPS : Hid (∀ W, wr.grownBy W none → SRd numE W b9 (st.drop k)) := fun W hg => (hsr wr st HS.out.rd rfl).grown hg (by simp)
              have HDL : Hid ((st.drop k).length = st.length - k) := List.length_drop
              have HTD : Hid (∀ z ∈ st.drop k, TyB z) := fun z hz => HTY.out z (List.mem_of_mem_drop hz)
              have HOF : Hid (∀ W, wr.grownBy W none → Calls Tryz.prog 17 #[.agg #[.int .i64 x.kind, .int .i64 x.op, .string x.text, .slice ma x.mat.length mc, .int .i64 x.width, .int .i64 x.back, .int .i64 x.group, .slice na x.names.length nc, .bool x.bool, .int .i64 x.parts], .slice b9 (st.length - k) c9] W fun e w' => e = .returned (.tuple #[.int .i64 (ofT x (st.drop k)), .int .i64 (ofC x (st.drop k))]) ∧ W.grownBy w' none) := fun W hg => by
                have h9 := r_of x ma na mc nc W b9 c9 (st.drop k) (HPS.out W hg) HTD.out hfo (by rw [HDL.out, HKL.out.2]; exact (HPP.out hfo).symm)
                rw [HDL.out] at h9
                exact h9
              have HCO : Hid (codeT st x = ofC x (st.drop k)) := by
                show _ = _
                unfold codeT ofC
                rw [if_neg HNP.out, if_neg (by rw [HM.out]; decide), HBT.out]
              have HNX : Hid (ofC x (st.drop k) = 0 → nextT st x = st.take k ++ [ofT x (st.drop k)]) := fun h0 => by
                unfold nextT ofT
                rw [HBT.out, if_pos h0]
              have HTYO : Hid (TyB (kindT x (st.drop k))) := kindT_range _ _
              have HOT : Hid (ofC x (st.drop k) = 0 → TyB (ofT x (st.drop k))) := fun h0 => by unfold ofT; rw [if_pos h0]; exact HTYO.out
              generalize ofT x (st.drop k) = ot at *
              generalize ofC x (st.drop k) = oc at *
              rw [hfo] at HFM
              go_wp2_with fail
              refine (HPT.out _).mono ?_
              rintro e w9 ⟨rfl, rfl⟩
              go_wp2_with fail
              refine (HFM.out HKB.out _ (World.grownBy.refl _ _)).mono ?_
              rintro e w2 ⟨rfl, g2⟩
              have g2h := hid g2
              clear g2
              clear d0 d1 d2 d3 d4 d5 d6 d7 d8 d9
              obtain ⟨d0, d1, d2, d3, d4, d5, d6, d7, d8, d9⟩ := HCE.out w2 g2h.out
              go_wp2_with fail
              refine (HMC.out _ g2h.out).mono ?_
              rintro e w3 ⟨r, rfl, hr, rfl⟩
              obtain rfl : r = 0 := by
                have := hr.out
                rw [HM.out] at this
                simpa using this
              clear hr
              have hk0 : (0 : Int) ≤ (k : Int) := by omega
              have hk1 : (k : Int) ≤ (st.length : Int) := by have := HKL.out.1; omega
              have hl1 : (st.length : Int) ≤ 10000000000000 := by omega
              have GD := hid (gb_drew g2h.out)
              clear d0 d1 d2 d3 d4 d5 d6 d7 d8 d9
              go_upto_region 10 with fail
              refine wp_region_held_drew (S := fun V => wr.grownBy V none) (by kernel_rfl) GD.out (fun hHeld => ?_)
              refine wpAnyH_take (i := 0) (v := .slice (some ⟨bb, oo, none⟩) Q.length c) rfl (by kernel_rfl) (by kernel_rfl) (by kernel_rfl) (fun _ _ _ h => h) (Or.inl ⟨by kernel_rfl, fun w hSw => ?_⟩) (by assumption) ?_
              · go_simp
              (try simp (maxSteps := 10000000) only [Act.put, List.getElem_toArray, List.getElem_cons_succ, List.getElem_cons_zero]); (try simp (maxSteps := 10000000) only [List.setIfInBounds_toArray]); (try simp (maxSteps := 10000000) only [List.set_cons_succ]); (try simp (maxSteps := 10000000) only [List.set_cons_zero])
              refine wpAnyH_take (i := 1) (v := .int .i64 (i : Int)) rfl (by kernel_rfl) (by kernel_rfl) (by kernel_rfl) (fun _ _ _ h => h) (Or.inl ⟨by kernel_rfl, fun w hSw => ?_⟩) (by assumption) ?_
              · go_simp
              (try simp (maxSteps := 10000000) only [Act.put, List.getElem_toArray, List.getElem_cons_succ, List.getElem_cons_zero]); (try simp (maxSteps := 10000000) only [List.setIfInBounds_toArray]); (try simp (maxSteps := 10000000) only [List.set_cons_succ]); (try simp (maxSteps := 10000000) only [List.set_cons_zero])
              refine wpAnyH_take (i := 2) (v := .pointer (some ⟨bb, oo + i * 10, none⟩)) rfl (by kernel_rfl) (by kernel_rfl) (by kernel_rfl) (fun _ _ _ h => h) (Or.inl ⟨by kernel_rfl, fun w hSw => ?_⟩) (by assumption) ?_
              · go_simp
              (try simp (maxSteps := 10000000) only [Act.put, List.getElem_toArray, List.getElem_cons_succ, List.getElem_cons_zero]); (try simp (maxSteps := 10000000) only [List.setIfInBounds_toArray]); (try simp (maxSteps := 10000000) only [List.set_cons_succ]); (try simp (maxSteps := 10000000) only [List.set_cons_zero])
              refine wpAnyH_take (i := 3) (v := .agg #[.int .i64 x.kind, .int .i64 x.op, .string x.text, .slice ma x.mat.length mc, .int .i64 x.width, .int .i64 x.back, .int .i64 x.group, .slice na x.names.length nc, .bool x.bool, .int .i64 x.parts]) rfl (by kernel_rfl) (by kernel_rfl) (by kernel_rfl) (fun _ _ _ h => h) (Or.inl ⟨by kernel_rfl, fun w hSw => ?_⟩) (by assumption) ?_
              · obtain ⟨d0, d1, d2, d3, d4, d5, d6, d7, d8, d9⟩ := HCE.out _ hSw; go_simp
              (try simp (maxSteps := 10000000) only [Act.put, List.getElem_toArray, List.getElem_cons_succ, List.getElem_cons_zero]); (try simp (maxSteps := 10000000) only [List.setIfInBounds_toArray]); (try simp (maxSteps := 10000000) only [List.set_cons_succ]); (try simp (maxSteps := 10000000) only [List.set_cons_zero])
              refine wpAnyH_take (i := 4) (v := .slice a5 st.length c5) rfl (by kernel_rfl) (by kernel_rfl) (by kernel_rfl) (fun _ _ _ h => h) (Or.inl ⟨by kernel_rfl, fun w hSw => ?_⟩) (by assumption) ?_
              · go_simp
              (try simp (maxSteps := 10000000) only [Act.put, List.getElem_toArray, List.getElem_cons_succ, List.getElem_cons_zero]); (try simp (maxSteps := 10000000) only [List.setIfInBounds_toArray]); (try simp (maxSteps := 10000000) only [List.set_cons_succ]); (try simp (maxSteps := 10000000) only [List.set_cons_zero])
              refine wpAnyH_take (i := 5) (v := .slice a5 st.length c5) rfl (by kernel_rfl) (by kernel_rfl) (by kernel_rfl) (fun _ _ _ h => h) (Or.inl ⟨by kernel_rfl, fun w hSw => ?_⟩) (by assumption) ?_
              · go_simp
              (try simp (maxSteps := 10000000) only [Act.put, List.getElem_toArray, List.getElem_cons_succ, List.getElem_cons_zero]); (try simp (maxSteps := 10000000) only [List.setIfInBounds_toArray]); (try simp (maxSteps := 10000000) only [List.set_cons_succ]); (try simp (maxSteps := 10000000) only [List.set_cons_zero])
              refine wpAnyH_take (i := 6) (v := .int .i64 (st.length : Int)) rfl (by kernel_rfl) (by kernel_rfl) (by kernel_rfl) (fun _ _ _ h => h) (Or.inl ⟨by kernel_rfl, fun w hSw => ?_⟩) (by assumption) ?_
              · go_simp
              (try simp (maxSteps := 10000000) only [Act.put, List.getElem_toArray, List.getElem_cons_succ, List.getElem_cons_zero]); (try simp (maxSteps := 10000000) only [List.setIfInBounds_toArray]); (try simp (maxSteps := 10000000) only [List.set_cons_succ]); (try simp (maxSteps := 10000000) only [List.set_cons_zero])
              refine wpAnyH_take (i := 7) (v := .int .i64 pk) rfl (by kernel_rfl) (by kernel_rfl) (by kernel_rfl) (fun _ _ _ h => h) (Or.inl ⟨by kernel_rfl, fun w hSw => ?_⟩) (by assumption) ?_
              · go_simp
              (try simp (maxSteps := 10000000) only [Act.put, List.getElem_toArray, List.getElem_cons_succ, List.getElem_cons_zero]); (try simp (maxSteps := 10000000) only [List.setIfInBounds_toArray]); (try simp (maxSteps := 10000000) only [List.set_cons_succ]); (try simp (maxSteps := 10000000) only [List.set_cons_zero])
              refine wpAnyH_take (i := 8) (v := .int .i64 (k : Int)) rfl (by kernel_rfl) (by kernel_rfl) (by kernel_rfl) (fun _ _ _ h => h) (Or.inl ⟨by kernel_rfl, fun w hSw => ?_⟩) (by assumption) ?_
              · go_simp
              (try simp (maxSteps := 10000000) only [Act.put, List.getElem_toArray, List.getElem_cons_succ, List.getElem_cons_zero]); (try simp (maxSteps := 10000000) only [List.setIfInBounds_toArray]); (try simp (maxSteps := 10000000) only [List.set_cons_succ]); (try simp (maxSteps := 10000000) only [List.set_cons_zero])
              refine wpAnyH_take (i := 9) (v := .slice b9 (st.length - k) c9) rfl (by kernel_rfl) (by kernel_rfl) (by kernel_rfl) (fun _ _ _ h => h) (Or.inl ⟨by kernel_rfl, fun w hSw => ?_⟩) (by assumption) ?_
              · go_simp
              (try simp (maxSteps := 10000000) only [Act.put, List.getElem_toArray, List.getElem_cons_succ, List.getElem_cons_zero]); (try simp (maxSteps := 10000000) only [List.setIfInBounds_toArray]); (try simp (maxSteps := 10000000) only [List.set_cons_succ]); (try simp (maxSteps := 10000000) only [List.set_cons_zero])
              refine wpAnyH_ready (rs := [10]) (by kernel_rfl) (by simp) (AllReadyH.cons (i := 10) rfl (fun K9 hK => ?_) AllReadyH.nil)
              go_simp
              refine (HOF.out _ GD.out).mono ?_
              rintro e w4 ⟨rfl, g4⟩
              have s4 := GD.out.trans g4
              clear g4
              refine hK.out _ _ s4 (fun hHeld => ?_)
              clear hK K9 hHeld
              (try simp (maxSteps := 10000000) only [Act.put, List.getElem_toArray, List.getElem_cons_succ, List.getElem_cons_zero]); (try simp (maxSteps := 10000000) only [List.setIfInBounds_toArray]); (try simp (maxSteps := 10000000) only [List.set_cons_succ]); (try simp (maxSteps := 10000000) only [List.set_cons_zero])
              refine wpAnyH_take (i := 11) (v := .tuple #[.int .i64 ot, .int .i64 oc]) rfl (by kernel_rfl) (by kernel_rfl) (by kernel_rfl) (fun _ _ _ h => h) (Or.inl ⟨by kernel_rfl, fun w hSw => ?_⟩) (by assumption) ?_
              · go_simp
              (try simp (maxSteps := 10000000) only [Act.put, List.getElem_toArray, List.getElem_cons_succ, List.getElem_cons_zero]); (try simp (maxSteps := 10000000) only [List.setIfInBounds_toArray]); (try simp (maxSteps := 10000000) only [List.set_cons_succ]); (try simp (maxSteps := 10000000) only [List.set_cons_zero])
              refine wpAnyH_take (i := 12) (v := .int .i64 ot) rfl (by kernel_rfl) (by kernel_rfl) (by kernel_rfl) (fun _ _ _ h => h) (Or.inl ⟨by kernel_rfl, fun w hSw => ?_⟩) (by assumption) ?_
              · go_simp
              (try simp (maxSteps := 10000000) only [Act.put, List.getElem_toArray, List.getElem_cons_succ, List.getElem_cons_zero]); (try simp (maxSteps := 10000000) only [List.setIfInBounds_toArray]); (try simp (maxSteps := 10000000) only [List.set_cons_succ]); (try simp (maxSteps := 10000000) only [List.set_cons_zero])
              refine wpAnyH_take (i := 13) (v := .int .i64 oc) rfl (by kernel_rfl) (by kernel_rfl) (by kernel_rfl) (fun _ _ _ h => h) (Or.inl ⟨by kernel_rfl, fun w hSw => ?_⟩) (by assumption) ?_
              · go_simp
              (try simp (maxSteps := 10000000) only [Act.put, List.getElem_toArray, List.getElem_cons_succ, List.getElem_cons_zero]); (try simp (maxSteps := 10000000) only [List.setIfInBounds_toArray]); (try simp (maxSteps := 10000000) only [List.set_cons_succ]); (try simp (maxSteps := 10000000) only [List.set_cons_zero])
              refine wpAnyH_ready (rs := [14]) (by kernel_rfl) (by simp) (AllReadyH.cons (i := 14) rfl (fun K9 hK => ?_) AllReadyH.nil)
              go_simp
              refine hK.out _ _ s4 (fun hHeld => ?_)
              clear hK K9 hHeld
              (try simp (maxSteps := 10000000) only [Act.put, List.getElem_toArray, List.getElem_cons_succ, List.getElem_cons_zero]); (try simp (maxSteps := 10000000) only [List.setIfInBounds_toArray]); (try simp (maxSteps := 10000000) only [List.set_cons_succ]); (try simp (maxSteps := 10000000) only [List.set_cons_zero])
              refine wpAnyH_ready (rs := [15]) (by kernel_rfl) (by simp) (AllReadyH.cons (i := 15) rfl (fun K9 hK => ?_) AllReadyH.nil)
              go_simp
              refine hK.out _ _ s4 (fun hHeld => ?_)
              clear hK K9 hHeld
              (try simp (maxSteps := 10000000) only [Act.put, List.getElem_toArray, List.getElem_cons_succ, List.getElem_cons_zero]); (try simp (maxSteps := 10000000) only [List.setIfInBounds_toArray]); (try simp (maxSteps := 10000000) only [List.set_cons_succ]); (try simp (maxSteps := 10000000) only [List.set_cons_zero])
              refine wpAnyH_done (by kernel_rfl) ?_ _
              by_cases hoc : oc = 0
              · subst hoc
                have hto := ints_to a5 st.length c5 k HKL.out.1 HLE.out
                have HIL : Hid (SRd numE (w4.alloc (.cells #[.int .i64 ot] 3)) (some ⟨w4.heap.size, 0, none⟩) [ot]) := lit_rd numE w4 3 [ot]
                have ga := World.grownBy_alloc w4 (.cells #[.int .i64 ot] 3) none
                have HGA := hid (HG.out.trans (s4.trans ga))
                have HOW : Hid (SOwn numE 3 (w4.alloc (.cells #[.int .i64 ot] 3)) w.heap.size (.slice a5 k c5) k (st.take k)) := sown_take (SOwn.kept HS.out (s4.trans ga) (Classical.em _)) k HKL.out.1
                clear ga s4
                go_wp2_with (at_builtin; refine wpList_append_s numT (by rfl) (.tmp 70) (.tmp 72) (by rfl) w.heap.size (.slice a5 k c5) k (st.take k) (by rfl) ?hown (some ⟨w4.heap.size, 0, none⟩) [ot] 1 1 (by rfl) (by rfl) ?hil (by simp) (by omega) (by unfold maxLen; omega) ?hb ?_)
                case hown => exact HOW.out
                case hil => exact HIL.out
                case hb => first | exact HGA.out.size | (have h9 := HGA.out.size; rw [size_alloc] at h9; exact h9)
                intro v6 w6 ho6 hg6 hn6
                clear hn6 hto
                obtain ⟨a6, c6, rfl⟩ := own_form ho6
                have HNX2 : Hid (nextT st x = st.take k ++ [ot]) := HNX.out (by first | rfl | trivial)
                have HLN : Hid ((st.take k ++ [ot]).length = k + 1) := by show _ = _; rw [List.length_append, List.length_take, List.length_singleton]; have := HKL.out.1; omega
                have HRN : Hid (runT 0 [] (Q.map (·.1)) = runT (i + 1) (st.take k ++ [ot]) ((Q.map (·.1)).drop (i + 1))) := by
                  show _ = _
                  rw [HR2.out, HCO.out, if_pos rfl, HNX2.out]
                have hbase := HOW.out.block
                go_wp2
                go_roundw
                case rel =>
                  refine ⟨i + 1, st.take k ++ [ot], a6, c6, by omega, by go_num, by rw [HLN.out], by rw [HLN.out]; have := HKL.out.1; omega, ?_, gb_trans HGA.out hg6 (fun j hj => .inl (SOwn.block HOW.out j hj).1), ?_, HRN.out⟩
                  · rw [HLN.out]; exact ho6
                  · intro z hz
                    rcases List.mem_append.1 hz with h1 | h1
                    · exact HTY.out z (List.mem_of_mem_take h1)
                    · rw [List.mem_singleton.1 h1]; exact HOT.out (by first | rfl | trivial)
                case measure => simp [intOf]; omega
              · have q4 : (oc != 0) = true := by simpa using hoc
                have HE := hid (HEND.out oc HCO.out hoc)
                have G4 := hid (HG.out.trans s4)
                clear hoc
                go_wp2
                go_ret3
                rw [HE.out]
                exact ⟨rfl, G4.out⟩
    · have hki : ¬ (i : Int) < (Q.length : Int) := by omega
      obtain rfl : i = Q.length := by omega
      have HE : Hid (chkT (Q.map (·.1)) = if st.length ≠ 1 ∨ 4096 < Q.length then (0, (Q.length : Int), 190) else (st.getD 0 0, 0, 0)) := by
        show _ = _
        have hr := HR.out
        rw [List.drop_of_length_le (by rw [HLM.out]; omega), runT_nil] at hr
        unfold chkT
        rw [hr, if_pos rfl, HLM.out]
      by_cases h1 : st.length = 1
      · have q1 : ((st.length : Int) != 1) = false := by rw [h1]; rfl
        by_cases h2 : 4096 < Q.length
        · have HE : Hid (chkT (Q.map (·.1)) = (0, (Q.length : Int), 190)) := by show _ = _; rw [HE.out, if_pos (.inr h2)]
          have q2 : decide ((4096 : Int) < (Q.length : Int)) = true := by simp; omega
          clear h1 hsi
          go_wp2
          go_ret3
          rw [HE.out]
          exact ⟨rfl, HG.out⟩
        · have HE : Hid (chkT (Q.map (·.1)) = (st.getD 0 0, 0, 0)) := by show _ = _; rw [HE.out, if_neg (by omega)]
          have q2 : decide ((4096 : Int) < (Q.length : Int)) = false := by simp; omega
          obtain ⟨b, o, ea5, hcc⟩ := HS.out.rd.at (by omega)
          subst ea5
          have hcell : wr.cell? ⟨b, o, none⟩ = some (.int .i64 (st.getD 0 0)) := by
            cases hs : st with
            | nil => rw [hs] at h1; cases h1
            | cons k r => exact hcc 0 k 0 _ (by rw [hs]; rfl) rfl
          generalize st.getD 0 0 = kd at hcell HE
          have hki2 : (0 : Int) < (st.length : Int) := by omega
          clear hsi hcc
          go_wp2
          go_ret3
          rw [HE.out]
          exact ⟨rfl, HG.out⟩
      · have HE : Hid (chkT (Q.map (·.1)) = (0, (Q.length : Int), 190)) := by show _ = _; rw [HE.out, if_pos (.inl h1)]
        have q1 : ((st.length : Int) != 1) = true := by simp; omega
        clear h1 hsi
        go_wp2
        go_ret3
        rw [HE.out]
        exact ⟨rfl, HG.out⟩
end Go.Proofs.YthbodkgcbfplgaaGreat
