/- Lists of nodes: their copies. -/
import Derived.Test.YtnimdngiejcljaaWb
namespace Go.Proofs.Ytnimdngiejcljaa
open Go.ChangeShapes Go.WideShapes Go.ChangeAt Go.RowKit
set_option linter.unusedVariables false
set_option linter.unusedSimpArgs false
set_option maxRecDepth 20000

structure NdIn (W : World) (q : Row) : Prop where
  rd : NdRd W q
  mc : q.2.1.1 = none → q.2.1.2.2 = 0
  nc : q.2.2.1 = none → q.2.2.2.2 = 0
  mb : q.1.mat.length * 40 ≤ reachBytes
  nb : q.1.names.length * 16 ≤ reachBytes
theorem NdIn.grown {w w' : World} {q : Row} (h : NdIn w q) (hg : w.grownBy w' none) : NdIn w' q := ⟨h.rd.grown hg, h.mc, h.nc, h.mb, h.nb⟩
structure NsIn (w : World) (a : Option Addr) (c : Nat) (Q : List Row) : Prop where
  rd : SRd ndE w a Q
  each : ∀ q ∈ Q, NdIn w q
  nil : a = none → c = 0
  le : Q.length * 120 ≤ reachBytes
theorem NsIn.grown {w w' : World} {a : Option Addr} {c : Nat} {Q : List Row} (h : NsIn w a c Q) (hg : w.grownBy w' none) : NsIn w' a c Q := ⟨h.rd.grown hg (by simp), fun q hq => (h.each q hq).grown hg, h.nil, h.le⟩
theorem own_of {α : Type} {E : Elem α} {e : TypeId} {w : World} {base n : Nat} {v : Value} {l : List α} (h : SOwn E e w base v n l) (hn : v ≠ .slice none 0 0) : ∃ g cap, v = .slice (some ⟨g, 0, none⟩) n cap ∧ SOwn E e w base (.slice (some ⟨g, 0, none⟩) n cap) n l := by
  obtain ⟨g, cap, rfl, _⟩ := SOwn.some h hn
  exact ⟨g, cap, rfl, h⟩
theorem f_copyM (a : Option Addr) (ms : List Mt) (cap : Nat) (w : World) (hr : SRd matE w a ms) (hnil : a = none → cap = 0) (hz : ms.length * 40 ≤ reachBytes) :
    Calls Try.prog 30 #[.slice a ms.length cap] w fun e w' => ∃ s : Sl, e = .returned (slV s) ∧ SOwn matE 44 w' w.heap.size (slV s) ms.length ms ∧ w.grownBy w' none := by
  have HR := hid hr
  have HN := hid hnil
  simp only [reachBytes] at hz
  clear hr hnil
  obtain ⟨L, hL⟩ : ∃ L, ms.length = L := ⟨_, rfl⟩
  rw [hL] at hz ⊢
  have HL := hid hL
  clear hL
  go_enter Try.func30, Try.ntmps30
  go_wp2_with (at_builtin; refine wpList_append_s matT rfl (.tmp 3) (.tmp 4) rfl w.heap.size (.slice (some ⟨w.heap.size, 0, none⟩) 0 0) 0 [] rfl (SOwn.empty matE 44 w) a ms L cap rfl HL.out (HR.out.grown (World.grownBy_alloc w _ none) (by simp)) HN.out (by omega) (by unfold maxLen; omega) (Nat.le_of_lt (by rw [show ((w.alloc (.cells #[] 44)).heap.size) = w.heap.size + 1 from Array.size_push _]; omega)) ?_; intro v1 w1 ho1 hg1 hn1)
  go_ret
  rw [List.nil_append, Nat.zero_add] at ho1
  obtain ⟨g, c, rfl, ho⟩ := own_of ho1 (fun e => by simpa using (hn1 e).1)
  exact ⟨(some ⟨g, 0, none⟩, L, c), rfl, ho, gb_trans (World.grownBy_alloc w _ none) hg1 (fun i hi => .inl (by simp [Value.ownBlock] at hi; omega))⟩
theorem f_copyT (a : Option Addr) (ms : List ByteArray) (cap : Nat) (w : World) (hr : SRd strE w a ms) (hnil : a = none → cap = 0) (hz : ms.length * 16 ≤ reachBytes) :
    Calls Try.prog 31 #[.slice a ms.length cap] w fun e w' => ∃ s : Sl, e = .returned (slV s) ∧ SOwn strE 9 w' w.heap.size (slV s) ms.length ms ∧ w.grownBy w' none := by
  have HR := hid hr
  have HN := hid hnil
  simp only [reachBytes] at hz
  clear hr hnil
  obtain ⟨L, hL⟩ : ∃ L, ms.length = L := ⟨_, rfl⟩
  rw [hL] at hz ⊢
  have HL := hid hL
  clear hL
  go_enter Try.func31, Try.ntmps31
  go_wp2_with (at_builtin; refine wpList_append_s strT rfl (.tmp 3) (.tmp 4) rfl w.heap.size (.slice (some ⟨w.heap.size, 0, none⟩) 0 0) 0 [] rfl (SOwn.empty strE 9 w) a ms L cap rfl HL.out (HR.out.grown (World.grownBy_alloc w _ none) (by simp)) HN.out (by omega) (by unfold maxLen; omega) (Nat.le_of_lt (by rw [show ((w.alloc (.cells #[] 9)).heap.size) = w.heap.size + 1 from Array.size_push _]; omega)) ?_; intro v1 w1 ho1 hg1 hn1)
  go_ret
  rw [List.nil_append, Nat.zero_add] at ho1
  obtain ⟨g, c, rfl, ho⟩ := own_of ho1 (fun e => by simpa using (hn1 e).1)
  exact ⟨(some ⟨g, 0, none⟩, L, c), rfl, ho, gb_trans (World.grownBy_alloc w _ none) hg1 (fun i hi => .inl (by simp [Value.ownBlock] at hi; omega))⟩
theorem own_apart {α β : Type} {E : Elem α} {F : Elem β} {e f : TypeId} {w : World} {b b' n m : Nat} {v u : Value} {l : List α} {r : List β} (h : SOwn E e w b v n l) (h' : SOwn F f w b' u m r) (hne : e ≠ f) : ∀ j, u.ownBlock = some j → v.ownBlock ≠ some j := fun j hj hv => by
  obtain ⟨c1, e1⟩ := sown_blk h hv
  obtain ⟨c2, e2⟩ := sown_blk h' hj
  rw [e1] at e2
  injection e2 with e3
  injection e3 with _ e4 _
  exact hne e4
theorem nd_mk {w : World} {b : Nat} {v : Value} {L : List Row} (h : SOwn ndE 34 w b v L.length L) (hm : ∀ q ∈ L, SOwn matE 44 w b (slV q.2.1) q.1.mat.length q.1.mat) (hn : ∀ q ∈ L, SOwn strE 9 w b (slV q.2.2) q.1.names.length q.1.names) : NdAt w b v L :=
  ⟨h, hm, hn, fun q hq => own_apart h (hm q hq) (by decide), fun q hq => own_apart h (hn q hq) (by decide)⟩
theorem kept_apart {α β : Type} {E : Elem α} {F : Elem β} {e f : TypeId} {w w' : World} {b b' n m : Nat} {v u : Value} {l : List α} {r : List β} (h : SOwn E e w b v n l) (h' : SOwn F f w b' u m r) (hne : e ≠ f) (hg : w.grownBy w' v.ownBlock) : SOwn F f w' b' u m r := by
  refine SOwn.kept h' hg ?_
  cases hu : u.ownBlock with
  | none => exact .inl rfl
  | some j => exact .inr fun e => own_apart h h' hne j hu e.symm
theorem nd_app {w w' : World} {b : Nat} {v v' : Value} {L : List Row} {q : Row} (h : NdAt w b v L) (hm : SOwn matE 44 w b (slV q.2.1) q.1.mat.length q.1.mat) (hn : SOwn strE 9 w b (slV q.2.2) q.1.names.length q.1.names) (ho : SOwn ndE 34 w' b v' (L.length + 1) (L ++ [q])) (hg : w.grownBy w' v.ownBlock) : NdAt w' b v' (L ++ [q]) := by
  refine nd_mk (by rw [List.length_append]; exact ho) (fun r hr => ?_) (fun r hr => ?_)
  · rcases List.mem_append.1 hr with h1 | h1
    · exact kept_apart h.own (h.mat r h1) (by decide) hg
    · rw [List.mem_singleton] at h1; subst h1
      exact kept_apart h.own hm (by decide) hg
  · rcases List.mem_append.1 hr with h1 | h1
    · exact kept_apart h.own (h.nam r h1) (by decide) hg
    · rw [List.mem_singleton] at h1; subst h1
      exact kept_apart h.own hn (by decide) hg
theorem box_set {w : World} {g : Nat} {kd op wi ba gr pa : Int} {tx : ByteArray} {ms ns : Value} {bo : Bool} (h : w.heap[g]? = some (.cells #[.int .i64 kd, .int .i64 op, .string tx, ms, .int .i64 wi, .int .i64 ba, .int .i64 gr, ns, .bool bo, .int .i64 pa] 34 (0, 0))) (v : Value) :
    (w.setCell ⟨g, 3, none⟩ v).heap[g]? = some (.cells #[.int .i64 kd, .int .i64 op, .string tx, v, .int .i64 wi, .int .i64 ba, .int .i64 gr, ns, .bool bo, .int .i64 pa] 34 (0, 0)) ∧ (w.setCell ⟨g, 7, none⟩ v).heap[g]? = some (.cells #[.int .i64 kd, .int .i64 op, .string tx, ms, .int .i64 wi, .int .i64 ba, .int .i64 gr, v, .bool bo, .int .i64 pa] 34 (0, 0)) := by
  refine ⟨?_, ?_⟩ <;> simp [World.setCell, Array.getElem?_modify, h]
/-- Nodes copied. -/
def CpOut (Q : List Row) (w : World) (e : Ending) (w' : World) : Prop := ∃ a c L, e = .returned (.slice a Q.length c) ∧ NdAt w' w.heap.size (.slice a Q.length c) L ∧ L.map (·.1) = Q.map (·.1) ∧ w.grownBy w' none
set_option maxHeartbeats 8000000 in
theorem f_copyN (a : Option Addr) (c : Nat) (Q : List Row) (w : World) (h : NsIn w a c Q) : Calls Try.prog 15 #[.slice a Q.length c] w (CpOut Q w) := by
  have H := hid h
  have hle := h.le
  simp only [reachBytes] at hle
  have hqs : Q.length ≤ 1172812402961 := by omega
  clear h hle
  go_enter Try.func15, Try.ntmps15
  go_wp2
  go_loopw [3, 4] (fun t3 t4 wr => ∃ (i : Nat) (L : List Row), i ≤ Q.length ∧ t4 = .int .i64 (i : Int) ∧ Hid (NdAt wr w.heap.size t3 L) ∧ Hid (L.map (·.1) = (Q.take i).map (·.1)) ∧ Hid (w.grownBy wr none)) (fun _ t4 _ => Q.length - (intOf t4).toNat)
  case atStart => exact ⟨0, [], Nat.zero_le _, rfl, NdAt.nil _ _, rfl, World.grownBy.refl _ _⟩
  case round =>
    obtain ⟨i, L, hi, rfl, HN, HL, HG⟩ := hrel
    by_cases hlt : i < Q.length
    · have hki : (i : Int) < (Q.length : Int) := by omega
      obtain ⟨q, hq⟩ : ∃ q, Q[i]? = some q := ⟨_, List.getElem?_eq_getElem hlt⟩
      have hn := (H.out.grown HG.out).each q (List.mem_of_getElem? hq)
      obtain ⟨bb, oo, ea, _⟩ := H.out.rd.at (by omega)
      subst ea
      obtain ⟨d0, d1, d2, d3, d4, d5, d6, d7, d8, d9⟩ := nd_cells (i := i) (H.out.rd.grown HG.out (by simp)) hq
      have HT : Hid ((Q.take (i + 1)).map (·.1) = (Q.take i).map (·.1) ++ [q.1]) := by
        show _ = _
        rw [List.take_add_one, hq, List.map_append]; rfl
      have hll : L.length = i := by have := congrArg List.length HL.out; rw [List.length_map, List.length_map, List.length_take] at this; omega
      have HLL := hid hll
      obtain ⟨x, ⟨ma, mn, mc⟩, ⟨na, nn, nc⟩⟩ := q
      obtain rfl : mn = x.mat.length := hn.rd.ml
      obtain rfl : nn = x.names.length := hn.rd.nl
      have HCM : Hid (∀ W, wr.grownBy W none → Calls Try.prog 30 #[.slice ma x.mat.length mc] W fun e w' => ∃ s : Sl, e = .returned (slV s) ∧ SOwn matE 44 w' W.heap.size (slV s) x.mat.length x.mat ∧ W.grownBy w' none) := fun W hg => f_copyM ma x.mat mc W (hn.rd.mat.grown hg (by simp)) hn.mc hn.mb
      have HCT : Hid (∀ W, wr.grownBy W none → Calls Try.prog 31 #[.slice na x.names.length nc] W fun e w' => ∃ s : Sl, e = .returned (slV s) ∧ SOwn strE 9 w' W.heap.size (slV s) x.names.length x.names ∧ W.grownBy w' none) := fun W hg => f_copyT na x.names nc W (hn.rd.nam.grown hg (by simp)) hn.nc hn.nb
      have ga := hid (World.grownBy_alloc wr (.cells (ndA x (ma, x.mat.length, mc) (na, x.names.length, nc)) 34) none)
      have r0 := hid (heap_alloc_new wr (.cells (ndA x (ma, x.mat.length, mc) (na, x.names.length, nc)) 34))
      have hz0 : Hid (wr.heap.size < (wr.alloc (.cells (ndA x (ma, x.mat.length, mc) (na, x.names.length, nc)) 34)).heap.size) := by show _ < _; rw [size_alloc]; omega
      clear hn hq hll
      obtain ⟨va, vc, rfl⟩ := HN.out.val
      unfold ndA slV at *
      try dsimp only at *
      go_wp2_with fail
      refine (HCM.out _ ga.out).mono ?_
      rintro e w2 ⟨⟨a1, n1, c1⟩, rfl, ho1, g1⟩
      have R1 := hid ((g1.block _ hz0.out (by simp)).trans r0.out)
      have f1 := free_row R1.out 3
      have hz1 : Hid (wr.heap.size < w2.heap.size) := Nat.lt_of_lt_of_le hz0.out g1.size
      have G2 : Hid (wr.grownBy (w2.setCell ⟨wr.heap.size, 3, none⟩ (.slice a1 n1 c1)) none) := gb_trans (ga.out.trans g1) (gb_set (u := .slice a1 n1 c1) rfl) (fun k hk => .inl (by cases hk; exact Nat.le_refl _))
      have HO1 := hid ho1
      clear g1 ho1
      obtain ⟨c0, c1', c2, c3, c4, c5, c6, c7, c8, c9⟩ := nx_cells (box_set R1.out (.slice a1 n1 c1)).1
      obtain ⟨e0, e1', e2, e3, e4, e5, e6, e7, e8, e9⟩ := nx_cells R1.out
      clear d0 d1 d2 d3 d4 d5 d6 d7 d8 d9
      go_wp2_with fail
      refine (HCT.out _ G2.out).mono ?_
      rintro e w3 ⟨⟨a2, n2, c2'⟩, rfl, ho2, g2⟩
      have hsz2 : (w2.setCell ⟨wr.heap.size, 3, none⟩ (.slice a1 n1 c1)).heap.size = w2.heap.size := by simp [World.setCell]
      have HSZ2 := hid hsz2
      have R2 := hid ((g2.block wr.heap.size (by rw [hsz2]; exact hz1.out) (by simp)).trans (box_set R1.out (.slice a1 n1 c1)).1)
      have HO1b : Hid (SOwn matE 44 w3 w.heap.size (.slice a1 n1 c1) x.mat.length x.mat) := by
        have h1 : SOwn matE 44 (w2.setCell ⟨wr.heap.size, 3, none⟩ (.slice a1 n1 c1)) _ (.slice a1 n1 c1) x.mat.length x.mat := sown_same HO1.out (fun j hj _ => set_other (by
          have h9 := (SOwn.block HO1.out j hj).1
          have := hz0.out
          omega))
        exact SOwn.base (SOwn.kept h1 g2 (Classical.em _)) (by have := HG.out.size; have := hz0.out; omega)
      have HO2 : Hid (SOwn strE 9 w3 w.heap.size (.slice a2 n2 c2') x.names.length x.names) := SOwn.base ho2 (by rw [hsz2]; have := HG.out.size; have := hz1.out; omega)
      have f2 := free_row R2.out 7
      have hz2 : Hid (wr.heap.size < w3.heap.size) := Nat.lt_of_lt_of_le hz1.out (by have := g2.size; rw [hsz2] at this; exact this)
      have HNB := hid (SOwn.block ho2)
      have G3 : Hid (wr.grownBy (w3.setCell ⟨wr.heap.size, 7, none⟩ (.slice a2 n2 c2')) none) := gb_trans (G2.out.trans g2) (gb_set (u := .slice a2 n2 c2') rfl) (fun k hk => .inl (by cases hk; exact Nat.le_refl _))
      have HO1c : Hid (SOwn matE 44 (w3.setCell ⟨wr.heap.size, 7, none⟩ (.slice a2 n2 c2')) w.heap.size (.slice a1 n1 c1) x.mat.length x.mat) := sown_same HO1b.out (fun j hj _ => set_other (by
        have h9 := (SOwn.block HO1.out j hj).1
        have := hz0.out
        omega))
      have HO2c : Hid (SOwn strE 9 (w3.setCell ⟨wr.heap.size, 7, none⟩ (.slice a2 n2 c2')) w.heap.size (.slice a2 n2 c2') x.names.length x.names) := sown_same HO2.out (fun j hj _ => set_other (by
        have h9 := (HNB.out j hj).1
        have := HSZ2.out
        have := hz1.out
        omega))
      clear g2 ho2 hsz2 c0 c1' c2 c3 c4 c5 c6 c7 c8 c9 e0 e1' e2 e3 e4 e5 e6 e7 e8 e9 f1
      obtain ⟨c0, c1', c2, c3, c4, c5, c6, c7, c8, c9⟩ := nx_cells (box_set R2.out (.slice a2 n2 c2')).2
      obtain ⟨e0, e1', e2, e3, e4, e5, e6, e7, e8, e9⟩ := nx_cells R2.out
      have hs5 : (w3.setCell ⟨wr.heap.size, 7, none⟩ (.slice a2 n2 c2')).heap.size = w3.heap.size := by simp [World.setCell]
      have HS5 := hid hs5
      clear hs5
      have HNA := hid (HN.out.grown G3.out)
      have HIL : Hid (SRd ndE ((w3.setCell ⟨wr.heap.size, 7, none⟩ (.slice a2 n2 c2')).alloc (.cells #[.int .i64 x.kind, .int .i64 x.op, .string x.text, .slice a1 n1 c1, .int .i64 x.width, .int .i64 x.back, .int .i64 x.group, .slice a2 n2 c2', .bool x.bool, .int .i64 x.parts] 34)) (some ⟨w3.heap.size, 0, none⟩) [(x, (a1, n1, c1), (a2, n2, c2'))]) := by
        have := lit_rd ndE (w3.setCell ⟨wr.heap.size, 7, none⟩ (.slice a2 n2 c2')) 34 [(x, (a1, n1, c1), (a2, n2, c2'))]
        rw [HS5.out] at this
        exact this
      have ga5 := World.grownBy_alloc (w3.setCell ⟨wr.heap.size, 7, none⟩ (.slice a2 n2 c2')) (.cells #[.int .i64 x.kind, .int .i64 x.op, .string x.text, .slice a1 n1 c1, .int .i64 x.width, .int .i64 x.back, .int .i64 x.group, .slice a2 n2 c2', .bool x.bool, .int .i64 x.parts] 34) none
      have HNB5 := hid (HNA.out.grown ga5)
      have HMB5 := hid (SOwn.kept HO1c.out ga5 (Classical.em _))
      have HTB5 := hid (SOwn.kept HO2c.out ga5 (Classical.em _))
      have HGB5 := hid (HG.out.trans (G3.out.trans ga5))
      have HOW : Hid (SOwn ndE 34 ((w3.setCell ⟨wr.heap.size, 7, none⟩ (.slice a2 n2 c2')).alloc (.cells #[.int .i64 x.kind, .int .i64 x.op, .string x.text, .slice a1 n1 c1, .int .i64 x.width, .int .i64 x.back, .int .i64 x.group, .slice a2 n2 c2', .bool x.bool, .int .i64 x.parts] 34)) w.heap.size (.slice va L.length vc) L.length L) := HNB5.out.own
      clear ga5
      go_wp2_with (at_builtin; refine wpList_append_s ndT (by rfl) (.tmp 24) (.tmp 26) (by rfl) w.heap.size (.slice va L.length vc) L.length L (by rfl) ?hown (some ⟨w3.heap.size, 0, none⟩) [(x, (a1, n1, c1), (a2, n2, c2'))] 1 1 (by rfl) (by rfl) ?hil (by simp) (by have := HLL.out; omega) (by have := HLL.out; unfold maxLen; omega) ?hb ?_)
      case hown => exact HOW.out
      case hil => exact HIL.out
      case hb => exact HGB5.out.size
      intro v6 w6 ho6 hg6 hn6
      clear hn6
      go_wp2
      go_roundw
      case rel =>
        refine ⟨i + 1, L ++ [(x, (a1, n1, c1), (a2, n2, c2'))], by omega, by go_num, ?_, ?_, ?_⟩
        · exact nd_app HNB5.out HMB5.out HTB5.out ho6 hg6
        · show _ = _
          rw [List.map_append, HL.out, HT.out]; rfl
        · exact gb_trans HGB5.out hg6 (fun k hk => .inl (SOwn.block HOW.out k hk).1)
      case measure => simp [intOf]; omega
    · have hki : ¬ (i : Int) < (Q.length : Int) := by omega
      obtain rfl : i = Q.length := by omega
      have hll : L.length = Q.length := by have := congrArg List.length HL.out; rw [List.length_map, List.length_map, List.length_take] at this; omega
      have HLL := hid hll
      obtain ⟨va, vc, rfl⟩ := HN.out.val
      clear hll
      go_wp2
      go_ret
      refine ⟨va, vc, L, by show Ending.returned (Value.slice va L.length vc) = _; rw [HLL.out], ?_, by rw [HL.out, List.take_of_length_le (Nat.le_refl _)], HG.out⟩
      rw [← HLL.out]
      exact HN.out
end Go.Proofs.Ytnimdngiejcljaa
