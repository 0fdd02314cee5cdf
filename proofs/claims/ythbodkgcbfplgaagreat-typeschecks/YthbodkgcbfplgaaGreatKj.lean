/- Package types: Check. -/
import Derived.Test.YthbodkgcbfplgaaGreatKi
namespace Go.Proofs.YthbodkgcbfplgaaGreat
open Go.RowKit
set_option linter.unusedVariables false
set_option linter.unusedSimpArgs false
set_option maxRecDepth 20000

theorem f_take (W0 : World) (p : Nat) (a : Option Addr) (c : Nat) (st : List Int) (x : Nd) (ma na : Option Addr) (mc nc : Nat) (h : StAt W0 p a c st) (hq : NdRd W0 (x, (ma, x.mat.length, mc), (na, x.names.length, nc))) (hl : st.length ≤ 10000000000000) :
    Calls Tryz.prog 20 #[.pointer (some ⟨p, 0, none⟩), .agg (ndA x (ma, x.mat.length, mc) (na, x.names.length, nc))] W0 (TkQ p st x W0) := by
  cases hf : formB x with
  | false => exact take_no W0 p a c st x ma na mc nc h hq hf
  | true =>
    have hpr := parts_range hf
    by_cases hp : (st.length : Int) < x.parts
    · exact take_few W0 p a c st x ma na mc nc h hq hf hp
    · cases hm : matsB x.mat with
      | false => exact take_mat W0 p a c st x ma na mc nc h hq hf hp hm
      | true => exact take_go W0 p a c st x ma na mc nc h hq hf hp hm hl (st.length - x.parts.toNat) (by omega) hpr.2
/-- A list of nodes that is read, with what each node's lists are. -/
structure NsRd (w : World) (a : Option Addr) (Q : List Row) : Prop where
  rd : SRd ndE w a Q
  each : ∀ q ∈ Q, NdRd w q
theorem NsRd.grown {w w' : World} {a : Option Addr} {Q : List Row} (h : NsRd w a Q) (hg : w.grownBy w' none) : NsRd w' a Q := ⟨h.rd.grown hg (by simp), fun q hq => (h.each q hq).grown hg⟩
theorem st_new (w : World) : StAt (w.alloc (.cells #[.slice none 0 0] 47)) w.heap.size none 0 [] :=
  ⟨heap_alloc_new _ _, SOwn.nil _ _ _⟩
theorem st_two {w : World} {p : Nat} {a : Option Addr} {c : Nat} {st : List Int} (h : StAt w p a c st) (h1 : 0 < st.length) : ∃ b o, a = some ⟨b, o, none⟩ ∧ w.cell? ⟨b, o, none⟩ = some (.int .i64 (st.getD 0 0)) := by
  obtain ⟨b, o, e, hc⟩ := h.rd.at h1
  cases hs : st with
  | nil => rw [hs] at h1; cases h1
  | cons k r =>
    subst e
    have := hc 0 k 0 (.int .i64 k) (by rw [hs]; rfl) rfl
    exact ⟨b, o, rfl, this⟩
set_option maxHeartbeats 4000000 in
theorem f_check (a : Option Addr) (c : Nat) (Q : List Row) (w : World) (h : NsRd w a Q) (hl : Q.length ≤ 10000000000000) :
    Calls Tryz.prog 9 #[.slice a Q.length c] w fun e w' => e = .returned (.tuple #[.int .i64 (chkT (Q.map (·.1))).1, .int .i64 (chkT (Q.map (·.1))).2.1, .int .i64 (chkT (Q.map (·.1))).2.2]) ∧ w.grownBy w' none := by
  have H := hid h
  have HST := hid (st_new w)
  have hfr : Fr (fun j => w.heap.size ≤ j) w (w.alloc (.cells #[.slice none 0 0] 47)) := .of (World.grownBy_alloc _ _ none)
  have HFR := hid hfr
  have HLM : Hid ((Q.map (·.1)).length = Q.length) := List.length_map _
  have HG : Hid (∀ wr, Fr (fun j => w.heap.size ≤ j) w wr → w.grownBy wr none) := fun wr hf => hf.grown (fun k hk e => by change w.heap.size ≤ k at e; omega)
  clear h hfr
  go_enter Tryz.func9, Tryz.ntmps9
  go_wp2
  go_loopw [11] (fun t11 wr => ∃ (i : Nat) (st : List Int) (a1 : Option Addr) (c1 : Nat), i ≤ Q.length ∧ t11 = .int .i64 (i : Int) ∧ st.length ≤ i ∧ Hid (StAt wr w.heap.size a1 c1 st) ∧ Hid (Fr (fun j => w.heap.size ≤ j) w wr) ∧ Hid (runT 0 [] (Q.map (·.1)) = runT i st ((Q.map (·.1)).drop i))) (fun t11 _ => Q.length - (intOf t11).toNat)
  case atStart => exact ⟨0, [], none, 0, Nat.zero_le _, rfl, Nat.zero_le _, HST.out, HFR.out, rfl⟩
  case round =>
    obtain ⟨i, st, a1, c1, hi, rfl, hsi, HS, HF, HR⟩ := hrel
    by_cases hlt : i < Q.length
    · have hki : (i : Int) < (Q.length : Int) := by omega
      obtain ⟨q, hq⟩ : ∃ q, Q[i]? = some q := ⟨_, List.getElem?_eq_getElem hlt⟩
      have hn := (H.out.grown (HG.out _ HF.out)).each q (List.mem_of_getElem? hq)
      have hd : (Q.map (·.1)).drop i = q.1 :: (Q.map (·.1)).drop (i + 1) := by
        rw [List.drop_eq_getElem_cons (by rw [HLM.out]; exact hlt)]
        congr 1
        rw [List.getElem_map, (List.getElem?_eq_some_iff.1 hq).2]
      have HR2 : Hid (runT 0 [] (Q.map (·.1)) = if codeT st q.1 = 0 then runT (i + 1) (nextT st q.1) ((Q.map (·.1)).drop (i + 1)) else (codeT st q.1, i, st)) := by
        show _ = _
        rw [HR.out, hd, runT_cons]
      obtain ⟨bb, oo, ea, _⟩ := H.out.rd.at (by omega)
      subst ea
      obtain ⟨d0, d1, d2, d3, d4, d5, d6, d7, d8, d9⟩ := nd_cells (i := i) (H.out.rd.grown (HG.out _ HF.out) (by simp)) hq
      obtain ⟨x, ⟨ma, mn, mc⟩, ⟨na, nn, nc⟩⟩ := q
      obtain rfl : mn = x.mat.length := hn.ml
      obtain rfl : nn = x.names.length := hn.nl
      have ga := World.grownBy_alloc wr (.cells (ndA x (ma, x.mat.length, mc) (na, x.names.length, nc)) 37) none
      have HTK := hid (f_take (wr.alloc (.cells (ndA x (ma, x.mat.length, mc) (na, x.names.length, nc)) 37)) w.heap.size a1 c1 st x ma na mc nc (HS.out.grown ga) (hn.grown ga) (by omega))
      have HGA := hid ga
      have HNX : Hid (codeT st x = 0 → (nextT st x).length ≤ i + 1) := fun hc => by
        have hf : formB x = true := by
          cases hf : formB x with
          | true => rfl
          | false => unfold codeT at hc; rw [if_pos (.inl hf)] at hc; cases hc
        have hp := parts_range hf
        have hle : x.parts ≤ st.length := by
          rcases Int.lt_or_le (st.length : Int) x.parts with h4 | h4
          · unfold codeT at hc; rw [if_pos (.inr h4)] at hc; cases hc
          · exact h4
        have := next_len hp.1 hle
        omega
      clear hq hn hd ga HR
      unfold TkQ at HTK
      unfold ndA slV at *
      try dsimp only at *
      obtain ⟨cd, hcd⟩ : ∃ cd, codeT st x = cd := ⟨_, rfl⟩
      rw [hcd] at HTK HR2 HNX
      clear hcd
      go_wp2_with fail
      refine HTK.out.mono ?_
      rintro e w5 ⟨rfl, a5, c5, h5, f5⟩
      have F5 : Hid (Fr (fun j => w.heap.size ≤ j) w w5) := (HF.out.trans (.of HGA.out) (fun _ _ e => e)).trans f5 (fun _ _ e => e)
      have H5 := hid h5
      clear h5 f5 HTK
      by_cases hc : cd = 0
      · subst hc
        clear d0 d1 d2 d3 d4 d5 d6 d7 d8 d9
        rw [if_pos rfl] at H5 HR2
        go_wp2
        go_roundw
        case rel => exact ⟨i + 1, nextT st x, a5, c5, by omega, by go_num, (by first | exact HNX.out rfl | exact HNX.out trivial), H5, F5, HR2⟩
        case measure => simp [intOf]; omega
      · have q0 : (cd != 0) = true := by simpa using hc
        clear d0 d1 d2 d3 d4 d5 d6 d7 d8 d9
        rw [if_neg hc] at HR2
        have HE : Hid (chkT (Q.map (·.1)) = (0, (i : Int), cd)) := by
          show _ = _
          unfold chkT
          rw [HR2.out, if_neg hc]
        have HGF := hid (HG.out _ F5.out)
        clear hc
        go_wp2
        go_ret3
        rw [HE.out]
        exact ⟨rfl, HGF.out⟩
    · have hki : ¬ (i : Int) < (Q.length : Int) := by omega
      obtain rfl : i = Q.length := by omega
      have HE : Hid (chkT (Q.map (·.1)) = if st.length ≠ 1 ∨ 4096 < Q.length then (0, (Q.length : Int), 190) else (st.getD 0 0, 0, 0)) := by
        show _ = _
        have hr := HR.out
        rw [List.drop_of_length_le (by rw [HLM.out]; omega), runT_nil] at hr
        unfold chkT
        rw [hr, if_pos rfl, HLM.out]
      have HGF := hid (HG.out _ HF.out)
      have c0 := HS.out.cell
      by_cases h1 : st.length = 1
      · have q1 : ((st.length : Int) != 1) = false := by rw [h1]; rfl
        by_cases h2 : 4096 < Q.length
        · have HE : Hid (chkT (Q.map (·.1)) = (0, (Q.length : Int), 190)) := by show _ = _; rw [HE.out, if_pos (.inr h2)]
          have q2 : decide ((4096 : Int) < (Q.length : Int)) = true := by simp; omega
          clear h1 hsi
          go_wp2
          go_ret3
          rw [HE.out]
          exact ⟨rfl, HGF.out⟩
        · have HE : Hid (chkT (Q.map (·.1)) = (st.getD 0 0, 0, 0)) := by show _ = _; rw [HE.out, if_neg (by omega)]
          have q2 : decide ((4096 : Int) < (Q.length : Int)) = false := by simp; omega
          obtain ⟨b, o, rfl, hcell⟩ := st_two HS.out (by omega)
          generalize st.getD 0 0 = kd at hcell HE
          have hki2 : (0 : Int) < (st.length : Int) := by omega
          clear hsi
          go_wp2
          go_ret3
          rw [HE.out]
          exact ⟨rfl, HGF.out⟩
      · have HE : Hid (chkT (Q.map (·.1)) = (0, (Q.length : Int), 190)) := by show _ = _; rw [HE.out, if_pos (.inl h1)]
        have q1 : ((st.length : Int) != 1) = true := by simp; omega
        clear h1 hsi
        go_wp2
        go_ret3
        rw [HE.out]
        exact ⟨rfl, HGF.out⟩
end Go.Proofs.YthbodkgcbfplgaaGreat
