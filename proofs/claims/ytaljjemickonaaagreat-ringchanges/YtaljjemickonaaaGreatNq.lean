/- Several texts in one: Vf, Vg. -/
import Derived.Test.YtaljjemickonaaaGreatNp
import Derived.Test.YtaljjemickonaaaGreatMu
/- Rings: the document's Change: what its walks share. -/
namespace Go.Proofs.YtaljjemickonaaaGreat
open Go.RowKit
set_option linter.unusedVariables false
set_option maxRecDepth 20000

/-- The ring that a change answers. -/
def rE (k : Nat) (E : Int) (ms : List Mem) (id : Int) : Int := if chgE k E ms id = 0 then E + 1 else 0
def rM (k : Nat) (E : Int) (ms : List Mem) (id : Int) : List Mem := if chgE k E ms id = 0 then chgM k ms id else []
def RcOut (k : Nat) (E : Int) (ms : List Mem) (id : Int) (w : World) (e : Ending) (w' : World) : Prop :=
  ∃ a' c' raw', e = .returned (.tuple #[.agg #[.int .u64 (rE k E ms id), .slice a' (rM k E ms id).length c'], .int .i64 (chgE k E ms id)]) ∧ MsRd w' a' (rM k E ms id) raw' ∧ w.grownBy w' none
theorem rc_no {k : Nat} {E id q : Int} {ms : List Mem} {w w' : World} {e : Ending} (hq : chgE k E ms id = q) (h0 : q ≠ 0) (he : e = .returned (.tuple #[.agg #[.int .u64 0, .slice none 0 0], .int .i64 q])) (hg : w.grownBy w' none) : RcOut k E ms id w e w' := by
  have h1 : rE k E ms id = 0 := by unfold rE; rw [hq, if_neg h0]
  have h2 : rM k E ms id = [] := by unfold rM; rw [hq, if_neg h0]
  exact ⟨none, 0, [], by rw [h1, h2, hq]; exact he, by rw [h2]; exact MsRd.nil _ _, hg⟩
theorem rc_yes {k : Nat} {E id : Int} {ms M : List Mem} {w w' : World} {e : Ending} {a' : Option Addr} {n' c' : Nat} {raw' : List MRow} (hq : chgE k E ms id = 0) (hM : chgM k ms id = M) (hn : M.length = n') (he : e = .returned (.tuple #[.agg #[.int .u64 (E + 1), .slice a' n' c'], .int .i64 0])) (hr : MsRd w' a' M raw') (hg : w.grownBy w' none) : RcOut k E ms id w e w' := by
  have h1 : rE k E ms id = E + 1 := by unfold rE; rw [hq, if_pos rfl]
  have h2 : rM k E ms id = M := by unfold rM; rw [hq, if_pos rfl, hM]
  exact ⟨a', c', raw', by rw [h1, h2, hq, hn]; exact he, by rw [h2]; exact hr, hg⟩
/-- What is read lies in no box of a ring. -/
theorem srd_box {α : Type} {E : Elem α} {u : World} {B : Nat} {x : Int} {sa : Option Addr} {sn sc : Nat} (hB : u.heap[B]? = some (.cells #[.int .u64 x, .slice sa sn sc] 25 (0, 0))) (hE : ∀ (y : α) (v : Value), (E.cells y)[0]? = some v → (∀ z, v ≠ .int .u64 z) ∧ (∀ b n c, v ≠ .slice b n c)) {a : Option Addr} {l : List α} (h : SRd E u a l) {u' : World} (hg : u.grownBy u' (some B)) : SRd E u' a l := by
  cases l with
  | nil => exact .inl rfl
  | cons y l =>
    refine h.grown hg (fun p hp e => ?_)
    have e := Option.some.inj e
    rcases h with h | ⟨b, off, e2, hc⟩
    · cases h
    · rw [hp] at e2
      cases e2
      simp only at e
      subst e
      obtain ⟨v, hv⟩ : ∃ v, (E.cells y)[0]? = some v := ⟨_, List.getElem?_eq_getElem (by rw [E.len]; exact E.pos)⟩
      have h1 := hc 0 v (by
        have := E.flat_get (y :: l) 0 y 0 rfl E.pos
        rw [Nat.zero_mul, Nat.zero_add] at this
        rw [this]; exact hv)
      rw [Nat.add_zero, cell_of_row u b off _ 25 _ hB] at h1
      obtain ⟨k1, k2⟩ := hE y v hv
      rcases off with _ | _ | off
      · simp at h1; exact k1 x h1.symm
      · simp at h1; exact k2 _ _ _ h1.symm
      · simp at h1
theorem msrd_box {u u' : World} {B : Nat} {x : Int} {sa : Option Addr} {sn sc : Nat} (hB : u.heap[B]? = some (.cells #[.int .u64 x, .slice sa sn sc] 25 (0, 0))) {a : Option Addr} {ms : List Mem} {raw : List MRow} (h : MsRd u a ms raw) (hg : u.grownBy u' (some B)) : MsRd u' a ms raw :=
  ⟨srd_box hB (fun y v hv => by simp [memE] at hv; subst hv; exact ⟨fun z => by simp, fun b n c => by simp⟩) h.rd hg, h.len, fun i r m hr hm => ⟨(h.mem i r m hr hm).id, (h.mem i r m hr hm).st, (h.mem i r m hr hm).tn, srd_box hB (fun y v hv => by simp [wordE] at hv; subst hv; exact ⟨fun z => by simp, fun b n c => by simp⟩) (h.mem i r m hr hm).rd hg, (h.mem i r m hr hm).nil⟩⟩
theorem fresh61 {W w1 : World} (hg : (W.alloc (.cells #[] 61)).grownBy w1 (Value.slice (some ⟨W.heap.size, 0, none⟩) 0 0).ownBlock) : W.grownBy w1 none :=
  gb_trans (World.grownBy_alloc W _ none) hg (fun i hi => .inl (by simp [Value.ownBlock] at hi; omega))
theorem srd_takeM {w : World} {a : Option Addr} {l : List MRow} (h : SRd memE w a l) (j : Nat) : SRd memE w a (l.take j) := by
  rcases h with rfl | ⟨b, off, e2, hc⟩
  · left; simp
  · refine .inr ⟨b, off, e2, fun p q hp => hc p q ?_⟩
    have e3 : memE.flat l = memE.flat (l.take j) ++ memE.flat (l.drop j) := by
      conv => lhs; rw [← List.take_append_drop j l]
      simp only [Elem.flat, List.flatMap_append]
    rw [e3, List.getElem?_append_left (List.getElem?_eq_some_iff.1 hp).1]; exact hp
theorem srd_dropM {w : World} {g : Nat} {l : List MRow} (h : SRd memE w (some ⟨g, 0, none⟩) l) (j : Nat) : SRd memE w (some ⟨g, j * 3, none⟩) (l.drop j) := by
  rcases h with rfl | ⟨b, off, e2, hc⟩
  · left; simp
  · cases e2
    refine .inr ⟨g, j * 3, rfl, fun p q hp => ?_⟩
    have e3 : memE.flat l = memE.flat (l.take j) ++ memE.flat (l.drop j) := by
      conv => lhs; rw [← List.take_append_drop j l]
      simp only [Elem.flat, List.flatMap_append]
    have hlen : (memE.flat (l.take j)).length = min j l.length * 3 := by rw [memE.flat_len, List.length_take]; rfl
    have hj : j ≤ l.length := by
      apply Classical.byContradiction
      intro hn
      rw [List.drop_of_length_le (by omega)] at hp
      simp [Elem.flat] at hp
    have := hc (j * 3 + p) q (by rw [e3, List.getElem?_append_right (by omega), hlen, show j * 3 + p - min j l.length * 3 = p by rw [Nat.min_eq_left hj]; omega]; exact hp)
    rw [Nat.zero_add] at this
    exact this
theorem app3M {w1 w2 wt w3 : World} {v2 : Value} {n2 : Nat} {l2 : List MRow} {lit : Obj} (hg2 : (w1.alloc (.cells #[] 61)).grownBy w2 (Value.slice (some ⟨w1.heap.size, 0, none⟩) 0 0).ownBlock) (ho2 : SOwn memE 61 w2 w1.heap.size v2 n2 l2) (gt : w2.grownBy wt none) (hg3 : (wt.alloc lit).grownBy w3 v2.ownBlock) : w1.grownBy w3 none :=
  gb_trans ((fresh61 hg2).trans (gt.trans (World.grownBy_alloc wt _ none))) hg3 (fun k hk => .inl (SOwn.block ho2 k hk).1)
theorem app4M {w1 w3 w4 : World} {v3 : Value} {n3 : Nat} {l3 : List MRow} (h13 : w1.grownBy w3 none) (ho3 : SOwn memE 61 w3 w1.heap.size v3 n3 l3) (hg4 : w3.grownBy w4 v3.ownBlock) : w1.grownBy w4 none :=
  gb_trans h13 hg4 (fun k hk => .inl (SOwn.block ho3 k hk).1)
theorem tok34 {w1 w2 wt w3 w4 : World} {v2 v3 : Value} {n2 : Nat} {l2 : List MRow} {lit : Obj} {ta : Option Addr} {T : List Int} (hT : T ≠ []) (ho2 : SOwn memE 61 w2 w1.heap.size v2 n2 l2) (st : SRd wordE wt ta T) (hb : ∀ x, ta = some x → w2.heap.size ≤ x.block) (hg3 : (wt.alloc lit).grownBy w3 v2.ownBlock) (hl3 : v3.ownBlock = v2.ownBlock ∨ v3.ownBlock = some (wt.alloc lit).heap.size) (hg4 : w3.grownBy w4 v3.ownBlock) : SRd wordE w4 ta T ∧ ta ≠ none := by
  have hlen : 0 < T.length := List.length_pos_iff.2 hT
  obtain ⟨b, off, e, hc⟩ := st.at hlen
  subst e
  have hb' := hb _ rfl
  simp only at hb'
  have hlt : b < wt.heap.size := by
    obtain ⟨y, hy⟩ : ∃ y, T[0]? = some y := ⟨_, List.getElem?_eq_getElem hlen⟩
    have := hc 0 y 0 (.int .u32 y) hy rfl
    apply Classical.byContradiction
    intro hn
    have hnone : wt.heap[b]? = none := Array.getElem?_eq_none_iff.2 (by omega)
    simp [World.cell?, hnone] at this
  have s3 := (st.grown (World.grownBy_alloc wt lit none) (by simp)).grown hg3 (fun x hx e => by
    cases hx
    have := (SOwn.block ho2 b e.symm).2
    omega)
  refine ⟨s3.grown hg4 (fun x hx e => ?_), by simp⟩
  cases hx
  rcases hl3 with h | h
  · rw [h] at e
    have := (SOwn.block ho2 b e.symm).2
    omega
  · rw [h] at e
    have := Option.some.inj e
    rw [size_alloc] at this
    simp only at this
    omega
theorem ms_ins {w4 V : World} {base : Nat} {v : Value} {ms : List Mem} {raw3 : List MRow} {Q nt : Nat} {id to : Int} {ta : Option Addr} {tc : Nat} {a4 : Option Addr} (hm : MsOwn V base v ms raw3) (hQ : Q ≤ ms.length) (hg : V.grownBy w4 none) (hs : SRd memE w4 a4 ([] ++ raw3.take Q ++ [(id, to, (ta, nt, tc))] ++ raw3.drop Q)) (T : List Int) (hnt : T.length = nt) (ht : SRd wordE w4 ta T) (hne : ta ≠ none) : MsRd w4 a4 (ms.take Q ++ [(id, to, T)] ++ ms.drop Q) (raw3.take Q ++ [(id, to, (ta, nt, tc))] ++ raw3.drop Q) := by
  obtain ⟨a0, c0, hv, h1, _⟩ := hm.read
  have hl := h1.len
  refine ⟨by rw [List.nil_append] at hs; exact hs, by simp only [List.length_append, List.length_take, List.length_drop, List.length_cons, List.length_nil, hl], fun i r m hr hm' => ?_⟩
  rcases zip_ins raw3 ms (id, to, (ta, nt, tc)) (id, to, T) Q hl hQ i r m hr hm' with ⟨rfl, rfl⟩ | ⟨j, hj1, hj2⟩
  · exact ⟨rfl, rfl, hnt.symm, ht, fun e => absurd e hne⟩
  · exact (h1.mem j r m hj1 hj2).grown hg
end Go.Proofs.YtaljjemickonaaaGreat

/- Rings: the document's Change, walked. -/
namespace Go.Proofs.YtaljjemickonaaaGreat
open Go.RowKit
set_option linter.unusedVariables false
set_option maxRecDepth 20000

set_option maxHeartbeats 16000000 in
theorem r_change0 (E : Int) (ms : List Mem) (raw : List MRow) (id : Int) (a : Option Addr) (n c : Nat) (w : World) (hr : MsRd w a ms raw) (hn : ms.length = n) (hE : 0 ≤ E ∧ E ≤ 18446744073709551615) (hz : n ≤ 3518437208800) (hz2 : ∀ s ∈ ms, s.2.2.length ≤ 35184372088832) :
    Calls Tryz.prog 23 #[.agg #[.int .u64 E, .slice a n c], .int .i64 id, .int .i64 0, .int .i64 1] w fun e w' => RcOut 0 E ms id w e w' := by
  have HX : Hid (MsRd w a ms raw) := hr
  have HB0 : Hid (B2 ((w.alloc (.cells #[.int .u64 E, .slice a n c] 25)).alloc (.cells #[.int .u64 0, .slice none 0 0] 25)) w.heap.size E (.slice a n c) 0 (.slice none 0 0)) := B2.made w E _
  have g0 : w.grownBy ((w.alloc (.cells #[.int .u64 E, .slice a n c] 25)).alloc (.cells #[.int .u64 0, .slice none 0 0] 25)) none := (World.grownBy_alloc _ _ none).trans (World.grownBy_alloc _ _ none)
  have HG : Hid (w.grownBy ((w.alloc (.cells #[.int .u64 E, .slice a n c] 25)).alloc (.cells #[.int .u64 0, .slice none 0 0] 25)) none) := g0
  have CK := r_check E ms raw a n c _ (hr.grown g0) hn hz hz2
  obtain ⟨B, eB⟩ : ∃ B, w.heap.size = B := ⟨_, rfl⟩
  rw [eB] at HB0
  have EB : Hid (w.heap.size = B) := eB
  have HN : Hid (ms.length = n) := hn
  obtain ⟨p0, p1⟩ := cell2 HB0.out.arg
  by_cases hok : ringOk ms = true ∧ E ≠ 18446744073709551615 ∧ idOk id = true
  · obtain ⟨ho, hEm, hid⟩ := hok
    have hck : chkC ms = 0 := by unfold chkC; rw [if_pos ho]
    rw [hck] at CK
    have HCE : Hid (chgE 0 E ms id = chgC 0 ms id) := by show _ = _; unfold chgE; rw [if_pos ⟨ho, hEm, hid⟩]
    have FD : Hid (∀ u, w.grownBy u none → Calls Tryz.prog 46 #[.agg #[.int .u64 E, .slice a n c], .int .i64 id] u fun e w' => e = .returned (.tuple #[.int .i64 ((posI ms id : Nat) : Int), .bool (hasI ms id)]) ∧ u.grownBy w' none) := fun u hg => r_find E ms raw a n c id u (hr.grown hg) hn hz (ringOk_rise ho)
    have CO : Hid (∀ u, w.grownBy u none → Calls Tryz.prog 54 #[.agg #[.int .u64 E, .slice a n c]] u fun e w' => ∃ a' c' raw', e = .returned (.agg #[.int .u64 E, .slice a' n c']) ∧ MsOwn w' u.heap.size (.slice a' n c') ms raw' ∧ u.grownBy w' none) := fun u hg => r_copy E a raw ms n c u (hr.grown hg) hn (by omega) hz2
    have hl16 := (ok_small ho).1
    have HPL : Hid (posI ms id ≤ n) := by have := posI_le ms id; show _ ≤ _; omega
    have hid' : 0 ≤ id ∧ id < 16 := by unfold idOk at hid; simpa using hid
    have b1 : (E == 18446744073709551615) = false := by simp [hEm]
    have b2 : decide (id < 0) = false := by simp; omega
    have b3 : decide ((16 : Int) ≤ id) = false := by simp; omega
    have b4 : ¬ id < 0 := by omega
    have b5 : ¬ (16 : Int) ≤ id := by omega
    have hwE : IntKind.u64.wrap (E + 1) = E + 1 := by rw [IntKind.wrap_u64]; omega
    clear hr hz hz2 g0 eB ho hck hEm hid
    go_enter Tryz.func23, Tryz.ntmps23
    go_wp2_with fail
    try rw [EB.out]
    generalize ((w.alloc (.cells #[.int .u64 E, .slice a n c] 25)).alloc (.cells #[.int .u64 0, .slice none 0 0] 25)) = W at *
    refine CK.mono ?_
    clear CK p0 p1
    rintro e u1 ⟨rfl, g9⟩
    have HB1 : Hid (B2 u1 B E (.slice a n c) 0 (.slice none 0 0)) := HB0.out.grown g9
    replace HG : Hid (w.grownBy u1 none) := HG.out.trans g9
    clear g9 HB0
    obtain ⟨p0, p1⟩ := cell2 HB1.out.arg
    have C2 := FD.out u1 HG.out
    go_wp2_with fail
    clear p0 p1
    refine C2.mono ?_
    clear C2
    rintro e u2 ⟨rfl, g9⟩
    have HB2 : Hid (B2 u2 B E (.slice a n c) 0 (.slice none 0 0)) := HB1.out.grown g9
    replace HG : Hid (w.grownBy u2 none) := HG.out.trans g9
    clear g9 HB1
    obtain ⟨p0, p1⟩ := cell2 HB2.out.arg
    cases hF : hasI ms id with
    | true =>
      have HQ : Hid (chgE 0 E ms id = 131) := by show _ = _; rw [HCE.out]; show (if hasI ms id = true then (131 : Int) else 0) = 131; rw [hF]; rfl
      clear hF
      obtain ⟨r0, r1⟩ := cell2 HB2.out.res
      have f0 := free_row HB2.out.res 0
      have f1 := free_row HB2.out.res 1
      go_wp2
      refine bodyPost_ret (v := .tuple #[.agg #[.int .u64 0, .slice none 0 0], .int .i64 131]) (results_row_tmp Tryz.results23 _ _ _ (B + 1) 25 _ (0, 0) _ rfl (HB2.out.set 0 (.slice none 0 0)) Tryz.underlying25 isz25) rfl ?_
      exact rc_no HQ.out (by decide) rfl (gb_trans HG.out (B2.gset u2 B 0 _) (fun k hk => .inl (by cases hk; have := EB.out; omega)))
    | false =>
      have HQ : Hid (chgE 0 E ms id = 0) := by show _ = _; rw [HCE.out]; show (if hasI ms id = true then (131 : Int) else 0) = 0; rw [hF]; rfl
      have HCM : Hid (chgM 0 ms id = ms.take (posI ms id) ++ [(id, 1, tokL id)] ++ ms.drop (posI ms id)) := rfl
      have hn16 : n ≤ 16 := by have := HN.out; omega
      clear hF
      have C3 := CO.out u2 HG.out
      generalize posI ms id = Q at *
      go_wp2_with fail
      clear p0 p1
      refine C3.mono ?_
      clear C3
      rintro e u3 ⟨a3, c3, raw3, rfl, mo3, g9⟩
      have HB3 : Hid (B2 u3 B E (.slice a n c) 0 (.slice none 0 0)) := HB2.out.grown g9
      replace HG : Hid (w.grownBy u3 none) := HG.out.trans g9
      have HM3 : Hid (MsOwn u3 u2.heap.size (.slice a3 n c3) ms raw3) := mo3
      clear g9 mo3 HB2
      obtain ⟨D, eD⟩ : ∃ D, u3.heap.size = D := ⟨_, rfl⟩
      have ED : Hid (u3.heap.size = D) := eD
      have HV : Hid ((u3.alloc (.cells #[.int .u64 (E + 1), .slice a3 n c3] 25)).heap[D]? = some (.cells #[.int .u64 (E + 1), .slice a3 n c3] 25 (0, 0))) := by show _ = _; rw [← eD]; exact heap_alloc_new u3 _
      have HGV : Hid (u3.grownBy (u3.alloc (.cells #[.int .u64 (E + 1), .slice a3 n c3] 25)) none) := World.grownBy_alloc u3 _ none
      clear eD
      go_upto_region 10 with fail
      try rw [ED.out]
      generalize u3.alloc (.cells #[.int .u64 (E + 1), .slice a3 n c3] 25) = V at *
      have HBV : Hid (B2 V B E (.slice a n c) 0 (.slice none 0 0)) := HB3.out.grown HGV.out
      have HG3 : Hid (w.grownBy u3 none) := HG.out
      replace HG : Hid (w.grownBy V none) := HG.out.trans HGV.out
      have HMV : Hid (MsOwn V u2.heap.size (.slice a3 n c3) ms raw3) := HM3.out.kept HGV.out (by simp)
      have HBV3 : Hid (B + 1 < u3.heap.size) := HB3.out.lt
      clear HB3 HM3
      obtain ⟨d0, d1⟩ := cell2 HV.out
      have hcp := sown_cap (show SOwn memE 61 V u2.heap.size (.slice a3 n c3) n raw3 by have := HMV.out.row; rw [HN.out] at this; exact this)
      have HRL : Hid (raw3.length = n) := by have := HMV.out.rd.1.len; show _ = _; have := HN.out; omega
      rcases (show SOwn memE 61 V u2.heap.size (.slice a3 n c3) n raw3 by have := HMV.out.row; rw [HN.out] at this; exact this).2 with ⟨h', h0⟩ | ⟨g3, cap3, cur3, h', _⟩
      · simp only [Value.slice.injEq] at h'
        obtain ⟨rfl, rfl, rfl⟩ := h'
        obtain rfl : Q = 0 := by have := HPL.out; omega
        have hb0 : (0 : Int) ≤ ((0 : Nat) : Int) := by omega
        have hb1 : ((0 : Nat) : Int) ≤ ((0 : Nat) : Int) := by have := HPL.out; omega
        have hb2 : ((0 : Nat) : Int) ≤ (0 : Int) := by omega
        have hb3 : ((0 : Nat) : Int) ≤ (0 : Int) := by omega
        have hQn : (0 : Nat) ≤ (0 : Nat) := HPL.out
        have hRL := HRL.out
        have ed : (raw3.drop (0 : Nat)).length = (0 : Nat) - (0 : Nat) := by rw [List.length_drop]; omega
        have et : (raw3.take (0 : Nat)).length = (0 : Nat) := by rw [List.length_take]; omega
        have HSR : Hid (SRd memE V none raw3) := HMV.out.rd.1.rd
        have HTk : Hid (SRd memE V none (raw3.take (0 : Nat))) := srd_takeM HSR.out (0 : Nat)
        have HD : Hid (SRd memE V none (raw3.drop (0 : Nat))) := by left; exact List.drop_of_length_le (by omega)
        have H10 : Hid (∀ v1 w1, SOwn memE 61 w1 V.heap.size v1 (0 + ((0 : Nat) - (0 : Nat))) ([] ++ raw3.drop (0 : Nat)) → (V.alloc (.cells #[] 61)).grownBy w1 (Value.slice (some ⟨V.heap.size, 0, none⟩) 0 0).ownBlock → ∃ r1 cc1, v1 = .slice r1 ((0 : Nat) - (0 : Nat)) cc1 ∧ Hid (SRd memE w1 r1 (raw3.drop (0 : Nat)) ∧ (r1 = none → cc1 = 0) ∧ V.grownBy w1 none)) := by
          intro v1 w1 ho1 hg1
          rw [Nat.zero_add, List.nil_append] at ho1
          obtain ⟨r1, cc1, rfl⟩ := sown_slice ho1
          exact ⟨r1, cc1, rfl, SOwn.rd ho1, (sown_cap ho1).2, fresh61 hg1⟩
        have HV4F : Hid (∀ u, V.grownBy u none → u.heap[D]? = some (.cells #[.int .u64 (E + 1), .slice none (0 : Nat) 0] 25 (0, 0))) := fun u hg => by rw [hg.block D (Array.getElem?_eq_some_iff.1 HV.out).1 (by simp)]; exact HV.out
        have HQM : Hid ((0 : Nat) ≤ ms.length) := by show _ ≤ _; have := HN.out; omega
        have HTN : Hid (tokL id ≠ []) := by intro e; have := (tokL_len id).1; rw [e] at this; simp at this
        obtain ⟨nt, ent⟩ : ∃ nt, (tokL id).length = nt := ⟨_, rfl⟩
        have HNT : Hid ((tokL id).length = nt) := ent
        have TK : Hid (∀ u, Calls Tryz.prog 21 #[.int .i64 id] u fun e w' => ∃ a c, e = .returned (.slice a nt c) ∧ SRd wordE w' a (tokL id) ∧ (∀ x, a = some x → u.heap.size ≤ x.block) ∧ u.grownBy w' none) := fun u => by rw [← ent]; exact r_tokens id u
        clear ent
        have dv1 := (World.grownBy_alloc V (.cells #[] 61) none).cell d1 (by simp)
        go_upto_region 12 with (at_builtin; refine wpList_append_s memT23 rfl (.tmp 60) (.tmp 64) rfl V.heap.size (.slice (some ⟨V.heap.size, 0, none⟩) 0 0) 0 [] rfl (SOwn.empty memE 61 V) none (raw3.drop (0 : Nat)) ((0 : Nat) - (0 : Nat)) 0 (by go_simp; try (split <;> simp_all)) ed (HD.out.grown (World.grownBy_alloc V _ none) (by simp)) (fun _ => rfl) (by omega) (by unfold maxLen; omega) (by rw [size_alloc]; omega) ?_; intro v1 w1 ho1 hg1 hn1; obtain ⟨r1, cc1, e1, HR1⟩ := H10.out v1 w1 ho1 hg1; subst e1; clear ho1 hg1 hn1)
        have dw1 := (HR1.out.2.2.trans (World.grownBy_alloc w1 (.cells #[] 61) none)).cell d1 (by simp)
        obtain ⟨n4, en4⟩ : ∃ n4, 0 + (0 : Nat) + 1 + ((0 : Nat) - (0 : Nat)) = n4 := ⟨_, rfl⟩
        have HN4 : Hid ((ms.take (0 : Nat) ++ [(id, 1, tokL id)] ++ ms.drop (0 : Nat)).length = n4) := by
          show _ = _
          have := HN.out
          simp only [List.length_append, List.length_take, List.length_drop, List.length_cons, List.length_nil]
          omega
        have EN4 : Hid (0 + (0 : Nat) + 1 + ((0 : Nat) - (0 : Nat)) = n4) := en4
        clear en4
        go_upto_region 16 with (first | (at_builtin; refine wpList_append_s memT23 rfl (.tmp 75) (.tmp 79) rfl w1.heap.size (.slice (some ⟨w1.heap.size, 0, none⟩) 0 0) 0 [] rfl (SOwn.empty memE 61 w1) none (raw3.take (0 : Nat)) (0 : Nat) 0 (by go_simp) et (HTk.out.grown (HR1.out.2.2.trans (World.grownBy_alloc w1 _ none)) (by simp)) (fun _ => rfl) (by omega) (by unfold maxLen; omega) (by rw [size_alloc]; omega) ?_; intro v2 w2 ho2 hg2 hn2; replace ho2 : Hid _ := ho2; replace hg2 : Hid _ := hg2; clear hn2) | (go_at_call 21; refine (TK.out _).mono ?_; rintro e wt ⟨ta, tc, rfl, st, hbt, gt⟩; replace st : Hid _ := st; replace hbt : Hid _ := hbt; replace gt : Hid _ := gt) | (at_builtin; refine wpList_append_at memT23 rfl (.tmp 80) (.tmp 86) rfl w1.heap.size v2 (0 + (0 : Nat)) _ rfl (SOwn.kept (SOwn.kept ho2.out gt.out (Classical.em _)) (World.grownBy_alloc wt _ none) (Classical.em _)) ⟨wt.heap.size, 0, none⟩ [(id, 1, (ta, nt, tc))] 1 1 rfl rfl (srd_lit memE 61 wt [(id, 1, (ta, nt, tc))]) (by omega) (by unfold maxLen; omega) (by rw [size_alloc]; have := (fresh61 hg2.out).size; have := gt.out.size; omega) ?_; intro v3 w3 ho3 hg3 hn3 hl3; have h13 : Hid (w1.grownBy w3 none) := app3M hg2.out ho2.out gt.out hg3; replace ho3 : Hid _ := ho3; replace hg3 : Hid _ := hg3; replace hl3 : Hid _ := hl3; clear hn3) | (at_builtin; refine wpList_append_s memT23 rfl (.tmp 87) (.tmp 88) rfl w1.heap.size v3 (0 + (0 : Nat) + 1) _ rfl ho3.out r1 (raw3.drop (0 : Nat)) ((0 : Nat) - (0 : Nat)) cc1 rfl ed (HR1.out.1.grown h13.out (by simp)) HR1.out.2.1 (by omega) (by unfold maxLen; omega) h13.out.size ?_; intro v4 w4 ho4 hg4 hn4; rw [EN4.out] at ho4; obtain ⟨a4, c4, e4⟩ := sown_slice ho4; subst e4; have h14 : Hid (V.grownBy w4 none) := HR1.out.2.2.trans (app4M h13.out ho3.out hg4); have hv4 : Hid (w4.heap[D]? = some (.cells #[.int .u64 (E + 1), .slice none (0 : Nat) 0] 25 (0, 0))) := HV4F.out w4 h14.out; obtain ⟨z0, z1⟩ := cell2 hv4.out; have fz := free_row hv4.out 1; have MS4 : Hid (MsRd w4 a4 (ms.take (0 : Nat) ++ [(id, 1, tokL id)] ++ ms.drop (0 : Nat)) (raw3.take (0 : Nat) ++ [(id, 1, (ta, nt, tc))] ++ raw3.drop (0 : Nat))) := (ms_ins HMV.out HQM.out h14.out (SOwn.rd ho4) (tokL id) HNT.out (tok34 HTN.out ho2.out st.out hbt.out hg3.out hl3.out hg4).1 (tok34 HTN.out ho2.out st.out hbt.out hg3.out hl3.out hg4).2); clear ho4 hg4 hn4))
        clear z0 z1 fz dw1 dv1
        have HXD : Hid ((w4.setCell ⟨D, 1, none⟩ (.slice a4 n4 c4)).heap[D]? = some (.cells #[.int .u64 (E + 1), .slice a4 n4 c4] 25 (0, 0))) := set2 hv4.out _
        have HXB : Hid (B2 (w4.setCell ⟨D, 1, none⟩ (.slice a4 n4 c4)) B E (.slice a (0 : Nat) c) 0 (.slice none 0 0)) := by
          have h9 := HBV.out.grown h14.out
          have hne : B + 1 < D := by have := HBV3.out; have := ED.out; omega
          exact ⟨by rw [set_other _ (by omega)]; exact h9.arg, by rw [set_other _ (by omega)]; exact h9.res⟩
        have HXM : Hid (MsRd (w4.setCell ⟨D, 1, none⟩ (.slice a4 n4 c4)) a4 (ms.take (0 : Nat) ++ [(id, 1, tokL id)] ++ ms.drop (0 : Nat)) (raw3.take (0 : Nat) ++ [(id, 1, (ta, nt, tc))] ++ raw3.drop (0 : Nat))) := msrd_box hv4.out MS4.out (gb_set (g := D) rfl)
        have HXG : Hid (w.grownBy (w4.setCell ⟨D, 1, none⟩ (.slice a4 n4 c4)) none) := gb_trans (HG.out.trans h14.out) (gb_set (g := D) rfl) (fun k hk => .inl (by cases hk; have := HG3.out.size; have := ED.out; omega))
        generalize w4.setCell ⟨D, 1, none⟩ (.slice a4 n4 c4) = X at *
        obtain ⟨s0, s1⟩ := cell2 HXD.out
        obtain ⟨t0, t1⟩ := cell2 HXB.out.res
        have ft0 := free_row HXB.out.res 0
        have ft1 := free_row HXB.out.res 1
        go_wp2
        all_goals (refine bodyPost_ret (v := .tuple #[.agg #[.int .u64 (E + 1), .slice a4 n4 c4], .int .i64 0]) (results_row_tmp Tryz.results23 _ _ _ (B + 1) 25 _ (0, 0) _ rfl (HXB.out.set (E + 1) (.slice a4 n4 c4)) Tryz.underlying25 isz25) rfl ?_; exact rc_yes HQ.out HCM.out HN4.out rfl (msrd_box HXB.out.res HXM.out (B2.gset X B _ _)) (gb_trans HXG.out (B2.gset X B _ _) (fun k hk => .inl (by cases hk; have := EB.out; omega))))
      · simp only [Value.slice.injEq, true_and] at h'
        obtain ⟨rfl, rfl⟩ := h'
        have hb0 : (0 : Int) ≤ (Q : Int) := by omega
        have hb1 : (Q : Int) ≤ (n : Int) := by have := HPL.out; omega
        have hb2 : (n : Int) ≤ (c3 : Int) := by omega
        have hb3 : (Q : Int) ≤ (c3 : Int) := by omega
        have hQn : Q ≤ n := HPL.out
        have hRL := HRL.out
        have ed : (raw3.drop Q).length = n - Q := by rw [List.length_drop]; omega
        have et : (raw3.take Q).length = Q := by rw [List.length_take]; omega
        have HSR : Hid (SRd memE V (some ⟨g3, 0, none⟩) raw3) := HMV.out.rd.1.rd
        have HTk : Hid (SRd memE V (some ⟨g3, 0, none⟩) (raw3.take Q)) := srd_takeM HSR.out Q
        have HD : Hid (SRd memE V (some ⟨g3, if c3 = Q then 0 else Q * 3, none⟩) (raw3.drop Q)) := by
          by_cases e : Q < n
          · rw [if_neg (by omega)]; exact srd_dropM HSR.out Q
          · left; exact List.drop_of_length_le (by omega)
        have H10 : Hid (∀ v1 w1, SOwn memE 61 w1 V.heap.size v1 (0 + (n - Q)) ([] ++ raw3.drop Q) → (V.alloc (.cells #[] 61)).grownBy w1 (Value.slice (some ⟨V.heap.size, 0, none⟩) 0 0).ownBlock → ∃ r1 cc1, v1 = .slice r1 (n - Q) cc1 ∧ Hid (SRd memE w1 r1 (raw3.drop Q) ∧ (r1 = none → cc1 = 0) ∧ V.grownBy w1 none)) := by
          intro v1 w1 ho1 hg1
          rw [Nat.zero_add, List.nil_append] at ho1
          obtain ⟨r1, cc1, rfl⟩ := sown_slice ho1
          exact ⟨r1, cc1, rfl, SOwn.rd ho1, (sown_cap ho1).2, fresh61 hg1⟩
        have HV4F : Hid (∀ u, V.grownBy u none → u.heap[D]? = some (.cells #[.int .u64 (E + 1), .slice (some ⟨g3, 0, none⟩) n c3] 25 (0, 0))) := fun u hg => by rw [hg.block D (Array.getElem?_eq_some_iff.1 HV.out).1 (by simp)]; exact HV.out
        have HQM : Hid (Q ≤ ms.length) := by show _ ≤ _; have := HN.out; omega
        have HTN : Hid (tokL id ≠ []) := by intro e; have := (tokL_len id).1; rw [e] at this; simp at this
        obtain ⟨nt, ent⟩ : ∃ nt, (tokL id).length = nt := ⟨_, rfl⟩
        have HNT : Hid ((tokL id).length = nt) := ent
        have TK : Hid (∀ u, Calls Tryz.prog 21 #[.int .i64 id] u fun e w' => ∃ a c, e = .returned (.slice a nt c) ∧ SRd wordE w' a (tokL id) ∧ (∀ x, a = some x → u.heap.size ≤ x.block) ∧ u.grownBy w' none) := fun u => by rw [← ent]; exact r_tokens id u
        clear ent
        have dv1 := (World.grownBy_alloc V (.cells #[] 61) none).cell d1 (by simp)
        go_upto_region 12 with (at_builtin; refine wpList_append_s memT23 rfl (.tmp 60) (.tmp 64) rfl V.heap.size (.slice (some ⟨V.heap.size, 0, none⟩) 0 0) 0 [] rfl (SOwn.empty memE 61 V) (some ⟨g3, if c3 = Q then 0 else Q * 3, none⟩) (raw3.drop Q) (n - Q) (c3 - Q) (by go_simp; try (split <;> simp_all)) ed (HD.out.grown (World.grownBy_alloc V _ none) (by simp)) (by simp) (by omega) (by unfold maxLen; omega) (by rw [size_alloc]; omega) ?_; intro v1 w1 ho1 hg1 hn1; obtain ⟨r1, cc1, e1, HR1⟩ := H10.out v1 w1 ho1 hg1; subst e1; clear ho1 hg1 hn1)
        have dw1 := (HR1.out.2.2.trans (World.grownBy_alloc w1 (.cells #[] 61) none)).cell d1 (by simp)
        obtain ⟨n4, en4⟩ : ∃ n4, 0 + Q + 1 + (n - Q) = n4 := ⟨_, rfl⟩
        have HN4 : Hid ((ms.take Q ++ [(id, 1, tokL id)] ++ ms.drop Q).length = n4) := by
          show _ = _
          have := HN.out
          simp only [List.length_append, List.length_take, List.length_drop, List.length_cons, List.length_nil]
          omega
        have EN4 : Hid (0 + Q + 1 + (n - Q) = n4) := en4
        clear en4
        go_upto_region 16 with (first | (at_builtin; refine wpList_append_s memT23 rfl (.tmp 75) (.tmp 79) rfl w1.heap.size (.slice (some ⟨w1.heap.size, 0, none⟩) 0 0) 0 [] rfl (SOwn.empty memE 61 w1) (some ⟨g3, 0, none⟩) (raw3.take Q) Q c3 (by go_simp) et (HTk.out.grown (HR1.out.2.2.trans (World.grownBy_alloc w1 _ none)) (by simp)) (by simp) (by omega) (by unfold maxLen; omega) (by rw [size_alloc]; omega) ?_; intro v2 w2 ho2 hg2 hn2; replace ho2 : Hid _ := ho2; replace hg2 : Hid _ := hg2; clear hn2) | (go_at_call 21; refine (TK.out _).mono ?_; rintro e wt ⟨ta, tc, rfl, st, hbt, gt⟩; replace st : Hid _ := st; replace hbt : Hid _ := hbt; replace gt : Hid _ := gt) | (at_builtin; refine wpList_append_at memT23 rfl (.tmp 80) (.tmp 86) rfl w1.heap.size v2 (0 + Q) _ rfl (SOwn.kept (SOwn.kept ho2.out gt.out (Classical.em _)) (World.grownBy_alloc wt _ none) (Classical.em _)) ⟨wt.heap.size, 0, none⟩ [(id, 1, (ta, nt, tc))] 1 1 rfl rfl (srd_lit memE 61 wt [(id, 1, (ta, nt, tc))]) (by omega) (by unfold maxLen; omega) (by rw [size_alloc]; have := (fresh61 hg2.out).size; have := gt.out.size; omega) ?_; intro v3 w3 ho3 hg3 hn3 hl3; have h13 : Hid (w1.grownBy w3 none) := app3M hg2.out ho2.out gt.out hg3; replace ho3 : Hid _ := ho3; replace hg3 : Hid _ := hg3; replace hl3 : Hid _ := hl3; clear hn3) | (at_builtin; refine wpList_append_s memT23 rfl (.tmp 87) (.tmp 88) rfl w1.heap.size v3 (0 + Q + 1) _ rfl ho3.out r1 (raw3.drop Q) (n - Q) cc1 rfl ed (HR1.out.1.grown h13.out (by simp)) HR1.out.2.1 (by omega) (by unfold maxLen; omega) h13.out.size ?_; intro v4 w4 ho4 hg4 hn4; rw [EN4.out] at ho4; obtain ⟨a4, c4, e4⟩ := sown_slice ho4; subst e4; have h14 : Hid (V.grownBy w4 none) := HR1.out.2.2.trans (app4M h13.out ho3.out hg4); have hv4 : Hid (w4.heap[D]? = some (.cells #[.int .u64 (E + 1), .slice (some ⟨g3, 0, none⟩) n c3] 25 (0, 0))) := HV4F.out w4 h14.out; obtain ⟨z0, z1⟩ := cell2 hv4.out; have fz := free_row hv4.out 1; have MS4 : Hid (MsRd w4 a4 (ms.take Q ++ [(id, 1, tokL id)] ++ ms.drop Q) (raw3.take Q ++ [(id, 1, (ta, nt, tc))] ++ raw3.drop Q)) := (ms_ins HMV.out HQM.out h14.out (SOwn.rd ho4) (tokL id) HNT.out (tok34 HTN.out ho2.out st.out hbt.out hg3.out hl3.out hg4).1 (tok34 HTN.out ho2.out st.out hbt.out hg3.out hl3.out hg4).2); clear ho4 hg4 hn4))
        clear z0 z1 fz dw1 dv1
        have HXD : Hid ((w4.setCell ⟨D, 1, none⟩ (.slice a4 n4 c4)).heap[D]? = some (.cells #[.int .u64 (E + 1), .slice a4 n4 c4] 25 (0, 0))) := set2 hv4.out _
        have HXB : Hid (B2 (w4.setCell ⟨D, 1, none⟩ (.slice a4 n4 c4)) B E (.slice a n c) 0 (.slice none 0 0)) := by
          have h9 := HBV.out.grown h14.out
          have hne : B + 1 < D := by have := HBV3.out; have := ED.out; omega
          exact ⟨by rw [set_other _ (by omega)]; exact h9.arg, by rw [set_other _ (by omega)]; exact h9.res⟩
        have HXM : Hid (MsRd (w4.setCell ⟨D, 1, none⟩ (.slice a4 n4 c4)) a4 (ms.take Q ++ [(id, 1, tokL id)] ++ ms.drop Q) (raw3.take Q ++ [(id, 1, (ta, nt, tc))] ++ raw3.drop Q)) := msrd_box hv4.out MS4.out (gb_set (g := D) rfl)
        have HXG : Hid (w.grownBy (w4.setCell ⟨D, 1, none⟩ (.slice a4 n4 c4)) none) := gb_trans (HG.out.trans h14.out) (gb_set (g := D) rfl) (fun k hk => .inl (by cases hk; have := HG3.out.size; have := ED.out; omega))
        generalize w4.setCell ⟨D, 1, none⟩ (.slice a4 n4 c4) = X at *
        obtain ⟨s0, s1⟩ := cell2 HXD.out
        obtain ⟨t0, t1⟩ := cell2 HXB.out.res
        have ft0 := free_row HXB.out.res 0
        have ft1 := free_row HXB.out.res 1
        go_wp2
        all_goals (refine bodyPost_ret (v := .tuple #[.agg #[.int .u64 (E + 1), .slice a4 n4 c4], .int .i64 0]) (results_row_tmp Tryz.results23 _ _ _ (B + 1) 25 _ (0, 0) _ rfl (HXB.out.set (E + 1) (.slice a4 n4 c4)) Tryz.underlying25 isz25) rfl ?_; exact rc_yes HQ.out HCM.out HN4.out rfl (msrd_box HXB.out.res HXM.out (B2.gset X B _ _)) (gb_trans HXG.out (B2.gset X B _ _) (fun k hk => .inl (by cases hk; have := EB.out; omega))))
  · have HQ : Hid (chgE 0 E ms id = 130) := by show _ = _; unfold chgE; rw [if_neg hok]
    have HCS : Hid ((chkC ms != 0) = true ∨ (chkC ms != 0) = false ∧ ((E == 18446744073709551615) = true ∨ (E == 18446744073709551615) = false ∧ (id < 0 ∨ ¬ id < 0 ∧ 16 ≤ id))) := by
      by_cases ho : ringOk ms = true
      · refine .inr ⟨by unfold chkC; rw [if_pos ho]; rfl, ?_⟩
        by_cases h1 : E = 18446744073709551615
        · exact .inl (by simp [h1])
        · refine .inr ⟨by simp [h1], ?_⟩
          by_cases h2 : id < 0
          · exact .inl h2
          · refine .inr ⟨h2, ?_⟩
            apply Classical.byContradiction
            intro h3
            exact hok ⟨ho, h1, by unfold idOk; simp; omega⟩
      · exact .inl (by unfold chkC; rw [if_neg ho]; rfl)
    generalize chkC ms = q at *
    clear hr hz hz2 g0 eB hok
    go_enter Tryz.func23, Tryz.ntmps23
    go_wp2_with fail
    try rw [EB.out]
    generalize ((w.alloc (.cells #[.int .u64 E, .slice a n c] 25)).alloc (.cells #[.int .u64 0, .slice none 0 0] 25)) = W at *
    refine CK.mono ?_
    clear CK p0 p1
    rintro e u1 ⟨rfl, g9⟩
    have HB1 : Hid (B2 u1 B E (.slice a n c) 0 (.slice none 0 0)) := HB0.out.grown g9
    replace HG : Hid (w.grownBy u1 none) := HG.out.trans g9
    clear g9 HB0
    obtain ⟨p0, p1⟩ := cell2 HB1.out.arg
    rcases HCS.out with h1 | ⟨h1, h2 | ⟨h2, h3 | ⟨h3, h4⟩⟩⟩
    · obtain ⟨r0, r1⟩ := cell2 HB1.out.res
      have f0 := free_row HB1.out.res 0
      have f1 := free_row HB1.out.res 1
      go_wp2
      refine bodyPost_ret (v := .tuple #[.agg #[.int .u64 0, .slice none 0 0], .int .i64 130]) (results_row_tmp Tryz.results23 _ _ _ (B + 1) 25 _ (0, 0) _ rfl (HB1.out.set 0 (.slice none 0 0)) Tryz.underlying25 isz25) rfl ?_
      exact rc_no HQ.out (by decide) rfl (gb_trans HG.out (B2.gset u1 B 0 _) (fun k hk => .inl (by cases hk; have := EB.out; omega)))
    · obtain ⟨r0, r1⟩ := cell2 HB1.out.res
      have f0 := free_row HB1.out.res 0
      have f1 := free_row HB1.out.res 1
      go_wp2
      refine bodyPost_ret (v := .tuple #[.agg #[.int .u64 0, .slice none 0 0], .int .i64 130]) (results_row_tmp Tryz.results23 _ _ _ (B + 1) 25 _ (0, 0) _ rfl (HB1.out.set 0 (.slice none 0 0)) Tryz.underlying25 isz25) rfl ?_
      exact rc_no HQ.out (by decide) rfl (gb_trans HG.out (B2.gset u1 B 0 _) (fun k hk => .inl (by cases hk; have := EB.out; omega)))
    · obtain ⟨r0, r1⟩ := cell2 HB1.out.res
      have f0 := free_row HB1.out.res 0
      have f1 := free_row HB1.out.res 1
      go_wp2
      refine bodyPost_ret (v := .tuple #[.agg #[.int .u64 0, .slice none 0 0], .int .i64 130]) (results_row_tmp Tryz.results23 _ _ _ (B + 1) 25 _ (0, 0) _ rfl (HB1.out.set 0 (.slice none 0 0)) Tryz.underlying25 isz25) rfl ?_
      exact rc_no HQ.out (by decide) rfl (gb_trans HG.out (B2.gset u1 B 0 _) (fun k hk => .inl (by cases hk; have := EB.out; omega)))
    · obtain ⟨r0, r1⟩ := cell2 HB1.out.res
      have f0 := free_row HB1.out.res 0
      have f1 := free_row HB1.out.res 1
      go_wp2
      refine bodyPost_ret (v := .tuple #[.agg #[.int .u64 0, .slice none 0 0], .int .i64 130]) (results_row_tmp Tryz.results23 _ _ _ (B + 1) 25 _ (0, 0) _ rfl (HB1.out.set 0 (.slice none 0 0)) Tryz.underlying25 isz25) rfl ?_
      exact rc_no HQ.out (by decide) rfl (gb_trans HG.out (B2.gset u1 B 0 _) (fun k hk => .inl (by cases hk; have := EB.out; omega)))
end Go.Proofs.YtaljjemickonaaaGreat

