/- Package wal: replayFile: the records of one file. -/
import Derived.Test.YtbhffjeoakalbaaGreatDoorWr
namespace Go.Proofs.YtbhffjeoakalbaaGreatDoor
open Go.RowKit Go.Maps Go.Sort
set_option linter.unusedVariables false
set_option maxRecDepth 20000

/-- A file whose bytes are the frames of these records, and something behind them. -/
structure FileRecs (zs : List Int) (recs : List (List Int)) (tl : List Int) : Prop where
  split : zs = logB frameR recs ++ tl
  len : ∀ r ∈ recs, r.length ≤ 65536
  stop : (uframeR zs ((logB frameR recs).length : Int)).2.2 ≠ 0
theorem FileRecs.whole (recs : List (List Int)) (h : ∀ r ∈ recs, r.length ≤ 65536) : FileRecs (logB frameR recs) recs [] :=
  ⟨by simp, h, by rw [uframe_end]; decide⟩
theorem FileRecs.torn (recs : List (List Int)) (r : List Int) (i : Nat) (h : ∀ r ∈ recs, r.length ≤ 65536) (hr : r.length ≤ 65536) (hi : i < (frameR r).length) : FileRecs (logB frameR recs ++ (frameR r).take i) recs ((frameR r).take i) :=
  ⟨rfl, h, by rw [uframe_cutAt _ r hr i hi]; decide⟩
theorem sown_cap {α : Type} {E : Elem α} {e : TypeId} {w : World} {base n c : Nat} {a : Option Addr} {l : List α} (h : SOwn E e w base (.slice a n c) n l) : n ≤ c ∧ (a = none → c = 0) := by
  rcases h.2 with ⟨h', h0⟩ | ⟨g, cap, cur, h', h1, h2, h3, _⟩
  · simp only [Value.slice.injEq] at h'
    omega
  · simp only [Value.slice.injEq] at h'
    obtain ⟨rfl, _, rfl⟩ := h'
    exact ⟨h3, fun e => by cases e⟩
theorem sown_max {α : Type} {E : Elem α} {e : TypeId} {w : World} {base n c : Nat} {a : Option Addr} {l : List α} (h : SOwn E e w base (.slice a n c) n l) : c ≤ 9223372036854775807 := by
  rcases h.2 with ⟨h', h0⟩ | ⟨g, cap, cur, h', h1, h2, h3, h4, _⟩
  · simp only [Value.slice.injEq] at h'
    omega
  · simp only [Value.slice.injEq] at h'
    obtain ⟨rfl, _, rfl⟩ := h'
    unfold maxLen at h4
    omega
theorem head_of (w : World) (a : Option Addr) (M C E : Nat) (h : E ≤ C) (hC : C ≤ 9223372036854775807) : (Instr.slice 27 (.slice a M C) none (some (.int .i64 (E : Int))) none).run Tryz.prog w = .ok (.slice a E C) w := by
  rw [run_slice_h w 27 _ M C (by rw [elem27]; exact Tryz.underlying27) .i64 (E : Int) (by omega) (by omega), elem27, sz5]
  cases a with
  | none => simp [sliced, Result.andThen]
  | some y => simp [sliced, Result.andThen, Addr.add]
theorem rd_head {w : World} {a : Option Addr} {xs ys : List Int} (h : Rd w a (xs ++ ys)) : Rd w a xs := by
  refine ⟨?_, fun z hz => h.2 z (List.mem_append.2 (.inl hz))⟩
  rcases h.1 with h1 | ⟨b, off, e, hc⟩
  · exact .inl (List.append_eq_nil_iff.1 h1).1
  · refine .inr ⟨b, off, e, fun i hi => ?_⟩
    rw [hc i (by rw [List.length_append]; omega)]
    simp [List.getD_eq_getElem?_getD, List.getElem?_append_left hi]
theorem RecsOut.lower {w0 w w' : World} {v : Value} {n : Nat} {recs : List (List Int)} (h : RecsOut w w' v n recs) (hl : w0.heap.size ≤ w.heap.size) : RecsOut w0 w' v n recs := by
  obtain ⟨ts, h1, h2, h3⟩ := h
  exact ⟨ts, h1.base hl, h2.turn hl (fun k hk => .inr (.inr hk)), h3⟩
theorem RecsOut.grown {w w' w2 : World} {v : Value} {n : Nat} {recs : List (List Int)} (h : RecsOut w w' v n recs) (hg : w'.grownBy w2 none) : RecsOut w w2 v n recs := by
  obtain ⟨ts, h1, h2, h3⟩ := h
  exact ⟨ts, SOwn.kept h1 hg (by rcases hh : v.ownBlock with _ | k; exact .inl rfl; exact .inr (by simp)), h2.kept hg (fun k hk => by cases hk), h3⟩
set_option maxHeartbeats 4000000 in
theorem w_replayFile (base p d mb n : Nat) (dir cp : ByteArray) (v : Value) (op : Int) (x : DSt) (B : Nat → Prop) (s : ByteArray) (zs : List Int) (syn : Nat) (recs : List (List Int)) (tl : List Int) (w : World) (h : WRow w p d dir cp v op) (hd : DS w base d mb n x B) (hon : x.off = false) (hnm : nameB s = true) (hV : x.V s = some (zs, syn)) (hf : FileRecs zs recs tl) :
    Calls Tryz.prog 121 #[.pointer (some ⟨p, 0, none⟩), .string s] w fun e w' => ∃ v a c N, e = .returned (.tuple #[slV v, .slice a (logB frameR recs).length c, .bool (decide (tl ≠ []))]) ∧ RecsOut w w' (slV v) N recs ∧ Out w w' a (logB frameR recs).length c (logB frameR recs) ∧ w.grownBy w' none := by
  obtain ⟨c0, c1, c2, c3, c4⟩ := h.cells
  have HRD := x_read base d mb n x B s w hd hnm
  have e1 : x.read s = (zs, 0) := by unfold DSt.read; rw [hon, hV]; rfl
  rw [e1] at HRD
  have HRD : Hid (Calls Tryz.prog 78 #[.pointer (some ⟨d, 0, none⟩), .string s] w fun e w' => ∃ a c, e = .returned (.tuple #[.slice a zs.length c, .int .i64 0]) ∧ SOwn byteE 5 w' w.heap.size (.slice a zs.length c) zs.length zs ∧ (∀ z ∈ zs, 0 ≤ z ∧ z ≤ 255) ∧ zs.length ≤ 4194304 ∧ w.grownBy w' none) := HRD
  have HF : Hid (FileRecs zs recs tl) := hf
  have hlogL : (logB frameR recs).length ≤ zs.length := by rw [hf.split, List.length_append]; omega
  have HD0 := fun w => w_done0 w
  obtain ⟨L, eL⟩ : ∃ L, L = zs.length := ⟨_, rfl⟩
  obtain ⟨E, eE⟩ : ∃ E, E = (logB frameR recs).length := ⟨_, rfl⟩
  have EL : Hid (L = zs.length) := eL
  have EE : Hid (E = (logB frameR recs).length) := eE
  rw [← eL] at HRD
  rw [← eE, ← eL] at hlogL
  have HTL : Hid (decide (tl ≠ []) = decide (E < L)) := by
    show _ = _
    have h1 : L = E + tl.length := by rw [eL, eE, hf.split, List.length_append]
    cases tl with
    | nil => simp at h1; simp [h1]
    | cons _ _ => simp at h1; simp; omega
  clear h hd hf eL eE hV e1 c1 c2 c3 c4
  go_enter Tryz.func121, Tryz.ntmps121
  go_wp2_with fail
  refine HRD.out.mono ?_
  rintro e w1 ⟨a, c, rfl, hso, hby, hl4, hg1⟩
  have HG1 : Hid (w.grownBy w1 none) := hg1
  have HSO : Hid (SOwn byteE 5 w1 w.heap.size (.slice a L c) L zs) := hso
  have HRd : Hid (Rd w1 a zs) := srd_rd hso.rd hby
  have HCP : Hid (L ≤ c ∧ (a = none → c = 0)) := sown_cap hso
  have HCM : Hid (c ≤ 9223372036854775807) := sown_max hso
  have HRP : Hid (Calls Tryz.prog 145 #[.slice a L c] w1 fun e w' => ∃ v n, e = .returned (.tuple #[.slice v.1 v.2.1 v.2.2, .int .i64 ((logB frameR recs).length : Int)]) ∧ RecsOut w1 w' (slV v) n recs ∧ w1.grownBy w' none) := w_replay a zs L c recs tl w1 HRd.out EL.out.symm HCP.out.1 hl4 HF.out.split HF.out.len HF.out.stop (fun x hx => by subst hx; exact (hso.block _ rfl).2)
  rw [← EE.out] at HRP
  clear hso hby hl4 hg1 HRD
  go_wp2_with fail
  refine (HD0 _).mono ?_
  rintro e w2 ⟨rfl, rfl⟩
  go_wp2_with fail
  refine HRP.out.mono ?_
  rintro e w3 ⟨rv, RN, rfl, hro, hg3⟩
  have HRO : Hid (RecsOut w1 w3 (slV rv) RN recs) := hro
  have HG3 : Hid (w1.grownBy w3 none) := hg3
  have hsl : ∀ W : World, (Instr.slice 27 (.slice a L c) none (some (.int .i64 (E : Int))) none).run Tryz.prog W = .ok (.slice a E c) W := fun W => head_of W a L c E (by have := HCP.out.1; omega) HCM.out
  clear hro hg3 HRP
  go_wp2
  go_region
  all_goals go_wp2
  all_goals go_ret3
  all_goals refine ⟨rv, a, c, RN, ?_, ?_, ?_, gb_drewR (HG1.out.trans HG3.out) _⟩
  all_goals first
    | (rw [← EE.out, HTL.out]; rfl)
    | exact RecsOut.grown (HRO.out.lower HG1.out.size) (gb_drewR (World.grownBy.refl _ _) _)
    | (rw [← EE.out]; exact ⟨EE.out.symm, rd_block (rd_head (HF.out.split ▸ HRd.out)) (fun hr x hx => ((gb_drewR HG3.out _).block x.block (rd_lt (hx ▸ rd_head (HF.out.split ▸ HRd.out)) hr) (by simp))), HCP.out.2, Nat.le_trans hlogL HCP.out.1, fun x hx => by subst hx; exact (HSO.out.block _ rfl).1⟩)
end Go.Proofs.YtbhffjeoakalbaaGreatDoor
