/- Several texts in one: Vj, Vk, Vl. -/
import Derived.Test.YtaljjemickonaaaGreatNs
import Derived.Test.YtaljjemickonaaaGreatNo
import Derived.Test.YtaljjemickonaaaGreatMz
/- Rings: a ring is written over. -/
namespace Go.Proofs.YtaljjemickonaaaGreat
open Go.RowKit
set_option linter.unusedVariables false
set_option maxRecDepth 20000

/-- Only blocks from base on and ahead of hi were changed. -/
structure Md (base hi : Nat) (w w' : World) : Prop where
  os : w'.os = w.os
  tape : w'.tape = w.tape
  output : w'.output = w.output
  size : w.heap.size ≤ w'.heap.size
  block : ∀ k, k < w.heap.size → (k < base ∨ hi ≤ k) → w'.heap[k]? = w.heap[k]?
theorem Md.of {base hi : Nat} {w w' : World} {row : Option Nat} (h : w.grownBy w' row) (hr : ∀ k, row = some k → base ≤ k ∧ k < hi) : Md base hi w w' :=
  ⟨h.os, h.tape, h.output, h.size, fun k hk hb => h.block k hk (fun e => by have := hr k e.symm; omega)⟩
theorem Md.trans {base hi : Nat} {w w1 w2 : World} (h : Md base hi w w1) (h' : Md base hi w1 w2) : Md base hi w w2 :=
  ⟨h'.os.trans h.os, h'.tape.trans h.tape, h'.output.trans h.output, Nat.le_trans h.size h'.size, fun k hk hb => (h'.block k (Nat.lt_of_lt_of_le hk h.size) hb).trans (h.block k hk hb)⟩
theorem SameRows.set {w : World} (g j : Nat) (v : Value) : SameRows w (w.setCell ⟨g, j, none⟩ v) := fun b cur t hb => by
  by_cases e : b = g
  · subst e
    exact ⟨cur.setIfInBounds j v, by rw [setCell_eq_setRow w b j cur t (0, 0) v hb, setRow_heap w b cur _ t _ hb], by simp⟩
  · exact ⟨cur, by rw [set_other _ e]; exact hb, rfl⟩
/-- A ring that may be written over: its blocks lie from base on, ahead of hi. -/
structure SpR (w : World) (base hi : Nat) (a : Option Addr) (n c : Nat) (raw : List MRow) : Prop where
  len : raw.length = n
  row : n = 0 ∨ ∃ g cur, a = some ⟨g, 0, none⟩ ∧ base ≤ g ∧ g < hi ∧ w.heap[g]? = some (.cells cur 61 (0, 0)) ∧ n * 3 ≤ cur.size ∧ ∀ (i : Nat) (r : MRow), raw[i]? = some r → w.cell? ⟨g, i * 3 + 2, none⟩ = some (.slice r.2.2.1 r.2.2.2.1 r.2.2.2.2)
  tok : ∀ (i : Nat) (r : MRow), raw[i]? = some r → LooseW w base hi r.2.2.1 r.2.2.2.1 r.2.2.2.2 ∧ r.2.2.2.1 ≤ 35184372088000
theorem SpR.of {w : World} {base n c : Nat} {a : Option Addr} {ms : List Mem} {raw : List MRow} (h : MsOwn w base (.slice a n c) ms raw) (hn : ms.length = n) (hz : ∀ m ∈ ms, m.2.2.length ≤ 35184372088000) : SpR w base w.heap.size a n c raw := by
  have hrd := h.rd.1
  have hl : raw.length = n := by rw [hrd.len, hn]
  have hrow : SOwn memE 61 w base (.slice a n c) n raw := by have := h.row; rw [hn] at this; exact this
  refine ⟨hl, ?_, fun i r hr => ?_⟩
  · by_cases h0 : n = 0
    · exact .inl h0
    · right
      have hb := SOwn.block hrow
      rcases hrow.2 with ⟨_, e0⟩ | ⟨g, cap, cur, h', h1, h2, h3, h4, h5, h6⟩
      · exact absurd e0 h0
      · simp only [Value.slice.injEq] at h'
        obtain ⟨rfl, _, rfl⟩ := h'
        have hb := hb g rfl
        refine ⟨g, cur, rfl, hb.1, hb.2, h2, by rw [h5]; exact Nat.mul_le_mul_right 3 h3, fun i r hr => ?_⟩
        obtain ⟨m, hm⟩ : ∃ m, ms[i]? = some m := ⟨_, List.getElem?_eq_getElem (by have := (List.getElem?_eq_some_iff.1 hr).1; omega)⟩
        rcases hrd.rd with e | ⟨b, off, e, hc⟩
        · rw [e] at hr; simp at hr
        · cases e
          have := memE.flat_get raw i r 2 hr (by decide)
          have := hc (i * 3 + 2) (.slice r.2.2.1 r.2.2.2.1 r.2.2.2.2) (by rw [show i * 3 + 2 = i * memE.size + 2 from rfl, this]; rfl)
          rw [Nat.zero_add] at this
          exact this
  · obtain ⟨m, hm⟩ : ∃ m, ms[i]? = some m := ⟨_, List.getElem?_eq_getElem (by have := (List.getElem?_eq_some_iff.1 hr).1; omega)⟩
    have ho := h.mem i r m hr hm
    have := LooseW.of (show SOwn wordE 43 w base (.slice r.2.2.1 r.2.2.2.1 r.2.2.2.2) r.2.2.2.1 m.2.2 by have h9 := ho.own; rw [ho.tn]; exact h9)
    exact ⟨this, by rw [ho.tn]; exact hz m (List.mem_of_getElem? hm)⟩
theorem SpR.md {w w' : World} {base hi b2 h2 : Nat} {a : Option Addr} {n c : Nat} {raw : List MRow} (h : SpR w base hi a n c raw) (hm : Md b2 h2 w w') (hd : hi ≤ b2 ∨ h2 ≤ base) : SpR w' base hi a n c raw := by
  have hbl : ∀ k, base ≤ k → k < hi → k < w.heap.size → w'.heap[k]? = w.heap[k]? := fun k h1 h3 h4 => hm.block k h4 (by omega)
  refine ⟨h.len, ?_, fun i r hr => ?_⟩
  · rcases h.row with h0 | ⟨g, cur, h1, h3, h4, h5, h6, h7⟩
    · exact .inl h0
    · have hb := hbl g h3 h4 (Array.getElem?_eq_some_iff.1 h5).1
      refine .inr ⟨g, cur, h1, h3, h4, by rw [hb]; exact h5, h6, fun i r hr => ?_⟩
      have := h7 i r hr
      rw [cell_of_row w g _ cur 61 _ h5] at this
      rw [cell_of_row w' g _ cur 61 _ (by rw [hb]; exact h5)]
      exact this
  · refine ⟨?_, (h.tok i r hr).2⟩
    rcases (h.tok i r hr).1 with h0 | ⟨g, h1, ⟨cur, h3, h4⟩, h5, h6, h7, h8⟩
    · exact .inl h0
    · exact .inr ⟨g, h1, ⟨cur, by rw [hbl g h7 h8 (Array.getElem?_eq_some_iff.1 h3).1]; exact h3, h4⟩, h5, h6, h7, h8⟩
end Go.Proofs.YtaljjemickonaaaGreat

/- Rings: SpoilRing, walked. -/
namespace Go.Proofs.YtaljjemickonaaaGreat
open Go.RowKit
set_option linter.unusedVariables false
set_option maxRecDepth 20000

theorem row_free {w : World} {g : Nat} {cur : Array Value} {t : TypeId} (h : w.heap[g]? = some (.cells cur t (0, 0))) (j : Nat) : w.frozen? ⟨g, j, none⟩ = false := by simp [World.frozen?, h]
theorem row_cell {w : World} {g : Nat} {cur : Array Value} {t : TypeId} (h : w.heap[g]? = some (.cells cur t (0, 0))) (j : Nat) (hj : j < cur.size) : ∃ v, w.cell? ⟨g, j, none⟩ = some v := ⟨_, by rw [cell_of_row w g j cur t _ h, Array.getElem?_eq_getElem hj]⟩
set_option maxHeartbeats 8000000 in
theorem spoil_ring (E : Int) (a : Option Addr) (n c base hi : Nat) (raw : List MRow) (w : World) (hs : SpR w base hi a n c raw) (hn : n ≤ 3518437208800) (hh : hi ≤ w.heap.size) :
    Calls Tryz.prog 22 #[.agg #[.int .u64 E, .slice a n c]] w fun e w' => e = .returned (.tuple #[]) ∧ Md base hi w w' := by
  have gA := World.grownBy_alloc w (.cells #[.int .u64 E, .slice a n c] 25) none
  have HBX : Hid ((w.alloc (.cells #[.int .u64 E, .slice a n c] 25)).heap[w.heap.size]? = some (.cells #[.int .u64 E, .slice a n c] 25 (0, 0))) := heap_alloc_new w _
  have HM0 : Hid (Md base hi w (w.alloc (.cells #[.int .u64 E, .slice a n c] 25))) := Md.of gA (by simp)
  have HSP : Hid (SpR (w.alloc (.cells #[.int .u64 E, .slice a n c] 25)) base hi a n c raw) := hs.md (Md.of (base := hi) (hi := hi) gA (by simp)) (.inl (Nat.le_refl _))
  obtain ⟨B, eB⟩ : ∃ B, w.heap.size = B := ⟨_, rfl⟩
  have EB : Hid (w.heap.size = B) := eB
  rw [eB] at HBX
  have HHB : Hid (hi ≤ B) := by show _ ≤ _; omega
  clear gA hs hh eB
  go_enter Tryz.func22, Tryz.ntmps22
  go_wp2
  try rw [EB.out]
  generalize w.alloc (.cells #[.int .u64 E, .slice a n c] 25) = W at *
  go_loopw [2] (fun t2 wr => ∃ (k : Nat), k ≤ n ∧ t2 = .int .i64 k ∧ Md base hi W wr ∧ SameRows W wr ∧ ∀ (g i : Nat) (r : MRow), a = some ⟨g, 0, none⟩ → k ≤ i → raw[i]? = some r → wr.cell? ⟨g, i * 3 + 2, none⟩ = some (.slice r.2.2.1 r.2.2.2.1 r.2.2.2.2)) (fun t2 _ => n - (intOf t2).toNat)
  case atStart =>
    refine ⟨0, Nat.zero_le _, rfl, ⟨rfl, rfl, rfl, Nat.le_refl _, fun _ _ _ => rfl⟩, fun b cur t hb => ⟨cur, hb, rfl⟩, fun g i r ha _ hr => ?_⟩
    rcases HSP.out.row with h0 | ⟨g', cur, h1, _, _, _, _, h7⟩
    · have := HSP.out.len; have := (List.getElem?_eq_some_iff.1 hr).1; omega
    · rw [ha] at h1; cases h1; exact h7 i r hr
  case round =>
    obtain ⟨k, hk, rfl, hm, hsr, hcell⟩ := hrel
    have HM : Hid (Md base hi W wr) := hm
    have HSR : Hid (SameRows W wr) := hsr
    have HC : Hid (∀ (g i : Nat) (r : MRow), a = some ⟨g, 0, none⟩ → k ≤ i → raw[i]? = some r → wr.cell? ⟨g, i * 3 + 2, none⟩ = some (.slice r.2.2.1 r.2.2.2.1 r.2.2.2.2)) := hcell
    have HBr : Hid (wr.heap[B]? = some (.cells #[.int .u64 E, .slice a n c] 25 (0, 0))) := by
      show _ = _
      rw [hm.block B (Array.getElem?_eq_some_iff.1 HBX.out).1 (.inr HHB.out)]; exact HBX.out
    obtain ⟨x0, x1⟩ := cell2 HBr.out
    clear hm hsr hcell
    by_cases hlt : k < n
    · have hki : (k : Int) < (n : Int) := by omega
      rcases HSP.out.row with h0 | ⟨g, cur0, rfl, hg1, hg2, hg3, hg4, _⟩
      · omega
      obtain ⟨⟨i1, s1, ta, nt, tc⟩, hr⟩ : ∃ r, raw[k]? = some r := ⟨_, List.getElem?_eq_getElem (by have := HSP.out.len; omega)⟩
      have y2 := HC.out g k _ rfl (Nat.le_refl _) hr
      obtain ⟨hlo, hnt⟩ := HSP.out.tok k _ hr
      simp only at y2 hlo hnt
      have hlo' := hlo.same HSR.out
      have C := wspoil ta base hi nt tc wr hlo' hnt
      obtain ⟨cur, hcur, hcs⟩ := HSR.out g cur0 61 hg3
      have HTB : Hid (∀ j, (Value.slice ta nt tc).ownBlock = some j → (base ≤ j ∧ j < hi) ∧ j ≠ g) := by
        intro j hj
        rcases hlo' with ⟨rfl, _, _⟩ | ⟨g9, rfl, ⟨c9, h91, _⟩, _, _, h92, h93⟩
        · simp [Value.ownBlock] at hj
        · simp only [Value.ownBlock, Option.some.injEq] at hj
          subst hj
          refine ⟨⟨h92, h93⟩, fun e => ?_⟩
          subst e
          rw [hcur] at h91
          simp at h91
      have HG : Hid (base ≤ g ∧ g < hi ∧ wr.heap[g]? = some (.cells cur 61 (0, 0)) ∧ n * 3 ≤ cur.size) := ⟨hg1, hg2, hcur, by omega⟩
      clear hr hlo hlo' hnt hg1 hg2 hg3 hg4 hcur hcs
      go_wp2_with fail
      refine C.mono ?_
      clear C x0 x1 y2
      rintro e w1 ⟨rfl, hg9, hs9⟩
      have HG9 : Hid (wr.grownBy w1 (Value.slice ta nt tc).ownBlock) := hg9
      have HS9 : Hid (SameRows wr w1) := hs9
      have hgw : w1.heap[g]? = some (.cells cur 61 (0, 0)) := by
        rw [hg9.block g (Array.getElem?_eq_some_iff.1 HG.out.2.2.1).1 (fun e => (HTB.out g e.symm).2 rfl)]; exact HG.out.2.2.1
      have HBw : Hid (w1.heap[B]? = some (.cells #[.int .u64 E, .slice (some ⟨g, 0, none⟩) n c] 25 (0, 0))) := by
        show _ = _
        rw [hg9.block B (Array.getElem?_eq_some_iff.1 HBr.out).1 (fun e => by have := (HTB.out B e.symm).1; have := HHB.out; omega)]; exact HBr.out
      obtain ⟨x0, x1⟩ := cell2 HBw.out
      have hsz := HG.out.2.2.2
      obtain ⟨v0, c0⟩ := row_cell hgw (k * 3) (by omega)
      obtain ⟨v1, c1⟩ := row_cell hgw (k * 3 + 1) (by omega)
      obtain ⟨v2, c2⟩ := row_cell hgw (k * 3 + 2) (by omega)
      have f0 := row_free hgw (k * 3)
      have f1 := row_free hgw (k * 3 + 1)
      have f2 := row_free hgw (k * 3 + 2)
      have HGW : Hid (w1.heap[g]? = some (.cells cur 61 (0, 0))) := hgw
      clear hg9 hs9 hgw hsz
      go_wp2
      go_roundw
      case rel =>
        have gs : w1.grownBy (((w1.setCell ⟨g, k * 3, none⟩ (.int .i64 (-7))).setCell ⟨g, k * 3 + 1, none⟩ (.int .i64 0)).setCell ⟨g, k * 3 + 2, none⟩ (.slice none 0 0)) (some g) := gb_trans (gb_trans (gb_set (g := g) rfl) (gb_set (g := g) rfl) (fun j hj => .inr hj)) (gb_set (g := g) rfl) (fun j hj => .inr hj)
        refine ⟨k + 1, by omega, by go_num, (HM.out.trans (Md.of HG9.out (fun j hj => (HTB.out j hj).1))).trans (Md.of gs (fun j hj => by cases hj; exact ⟨HG.out.1, HG.out.2.1⟩)), ((HSR.out.trans HS9.out).trans ((SameRows.set g _ _).trans ((SameRows.set g _ _).trans (SameRows.set g _ _)))), fun g' i r ha hi hr => ?_⟩
        cases ha
        have h1 := HC.out g i r rfl (by omega) hr
        rw [cell_of_row wr g _ cur 61 _ HG.out.2.2.1] at h1
        have h2 : w1.cell? ⟨g, i * 3 + 2, none⟩ = some (.slice r.2.2.1 r.2.2.2.1 r.2.2.2.2) := by rw [cell_of_row w1 g _ cur 61 _ HGW.out]; exact h1
        have e1 : ∀ (u : World) (j : Nat) (v : Value), j ≠ i * 3 + 2 → (u.setCell ⟨g, j, none⟩ v).cell? ⟨g, i * 3 + 2, none⟩ = u.cell? ⟨g, i * 3 + 2, none⟩ := fun u j v hj => by
          unfold World.setCell World.cell?
          simp only [Array.getElem?_modify]
          cases u.heap[g]? with
          | none => rfl
          | some o =>
            cases o <;> simp [hj, Option.map]
        rw [e1 _ _ _ (by omega), e1 _ _ _ (by omega), e1 _ _ _ (by omega)]
        exact h2
      case measure => simp [intOf]; omega
    · go_wp2
      go_end0
      exact ⟨rfl, HM0.out.trans HM.out⟩
end Go.Proofs.YtaljjemickonaaaGreat

/- Rings: RingChanges, walked. -/
namespace Go.Proofs.YtaljjemickonaaaGreat
open Go.RowKit
set_option linter.unusedVariables false
set_option maxRecDepth 20000

def GoOut (k : Nat) (E : Int) (ms : List Mem) (id : Int) (w : World) (e : Ending) (w' : World) : Prop :=
  ∃ a' c' raw', e = .returned (.tuple #[.agg #[.int .u64 (rE k E ms id), .slice a' (rM k E ms id).length c'], .int .i64 (chgE k E ms id)]) ∧ MsOwn w' w.heap.size (.slice a' (rM k E ms id).length c') (rM k E ms id) raw' ∧ w.grownBy w' none
theorem go_of {k : Nat} {E id : Int} {ms : List Mem} {w w' : World} {e : Ending} (h : RgOut k E ms id w e w') : GoOut k E ms id w e w' := by
  obtain ⟨E', a', n', c', rfl, hg, h1, h2⟩ := h
  by_cases hq : chgE k E ms id = 0
  · obtain ⟨rfl, h3, raw', h4⟩ := h1 hq
    have e1 : rE k E ms id = E + 1 := by unfold rE; rw [if_pos hq]
    have e2 : rM k E ms id = chgM k ms id := by unfold rM; rw [if_pos hq]
    exact ⟨a', c', raw', by rw [e1, e2, h3], by rw [e2]; rw [h3] at h4; exact h4, hg⟩
  · obtain ⟨rfl, rfl, rfl, rfl⟩ := h2 hq
    have e1 : rE k E ms id = 0 := by unfold rE; rw [if_neg hq]
    have e2 : rM k E ms id = [] := by unfold rM; rw [if_neg hq]
    exact ⟨none, 0, [], by rw [e1, e2]; rfl, by rw [e2]; exact MsOwn.nil _ _, hg⟩
theorem rM_small (k : Nat) (E : Int) (ms : List Mem) (id : Int) (hk : k < 4) : (rM k E ms id).length ≤ 17 ∧ ∀ m ∈ rM k E ms id, m.2.2.length ≤ 64 := by
  unfold rM
  split
  · rename_i hq
    have ho : ringOk ms = true := by
      unfold chgE at hq
      split at hq
      · rename_i h; exact h.1
      · cases hq
    obtain ⟨h1, h2⟩ := ok_small ho
    have ht := tokL_len id
    rcases k with _ | _ | _ | _ | k
    · refine ⟨?_, fun m hm => ?_⟩
      · show (ms.take (posI ms id) ++ [(id, 1, tokL id)] ++ ms.drop (posI ms id)).length ≤ 17
        simp only [List.length_append, List.length_take, List.length_drop, List.length_cons, List.length_nil]
        omega
      · have hm : m ∈ ms.take (posI ms id) ++ [(id, 1, tokL id)] ++ ms.drop (posI ms id) := hm
        simp only [List.mem_append, List.mem_cons, List.mem_nil_iff, or_false] at hm
        rcases hm with (hm | rfl) | hm
        · exact h2 m (List.mem_of_mem_take hm)
        · simp only; omega
        · exact h2 m (List.mem_of_mem_drop hm)
    all_goals first
      | omega
      | (refine ⟨by first
          | (show (setSt ms _ _).length ≤ 17; unfold setSt; rw [List.length_modify]; omega)
          | (show (ms.take (posI ms id) ++ ms.drop (posI ms id + 1)).length ≤ 17; simp only [List.length_append, List.length_take, List.length_drop]; omega), fun m hm => ?_⟩
         first
          | (have hm : m ∈ ms.take (posI ms id) ++ ms.drop (posI ms id + 1) := hm
             rcases List.mem_append.1 hm with hm | hm
             · exact h2 m (List.mem_of_mem_take hm)
             · exact h2 m (List.mem_of_mem_drop hm))
          | (obtain ⟨i, hi⟩ := List.getElem?_of_mem hm
             have hi : (ms.modify (posI ms id) _)[i]? = some m := hi
             rw [List.getElem?_modify] at hi
             cases e : ms[i]? with
             | none => rw [e] at hi; simp at hi
             | some x =>
               rw [e] at hi
               have hx := h2 x (List.mem_of_getElem? e)
               by_cases hp : posI ms id = i
               · simp [hp] at hi; rw [← hi]; exact hx
               · simp [hp] at hi; rw [← hi]; exact hx))
  · exact ⟨by simp, by simp⟩
end Go.Proofs.YtaljjemickonaaaGreat

