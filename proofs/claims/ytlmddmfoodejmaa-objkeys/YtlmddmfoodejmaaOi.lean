/- Package obj: before, replace. -/
import Derived.Test.YtlmddmfoodejmaaOh
namespace Go.Proofs.Ytlmddmfoodejmaa
open Go.RowKit Go.Maps
set_option linter.unusedVariables false
set_option maxRecDepth 20000

set_option maxHeartbeats 4000000 in
theorem o_before (base d mb n : Nat) (x : DSt) (B : Nat → Prop) (k : ByteArray) (p : Nat) (o : Option (Nat × List Int)) (a : Option Addr) (M cd : Nat) (w : World) (h : DS w base d mb n x B) (hs : StRow w p d) (hk : keyB k = true) (hM : M ≤ 1048576) (hV : x.V (oN k) = o.map fileV) (ho : OkO o) :
    Calls Try.prog 29 #[.pointer (some ⟨p, 0, none⟩), .string k, .slice a M cd] w fun e w' => ∃ v N c, e = .returned (.tuple #[.agg #[.int .u64 (genO (seenO x o) : Int), .slice v N c], .int .i64 (if x.off = true then 60 else 0)]) ∧ Out w w' v N c (dataO (seenO x o)) ∧ w.grownBy w' none := by
  obtain ⟨hk1, hk2, hk3⟩ := keyB_name hk
  obtain ⟨W1, eW1⟩ : ∃ W1, W1 = w.alloc (.cells #[.int .u64 0, .slice none 0 0] 66) := ⟨_, rfl⟩
  have hg1 : w.grownBy W1 none := by rw [eW1]; exact World.grownBy_alloc w _ none
  have HG1 : Hid (w.grownBy W1 none) := hg1
  have HP : Hid (ObjAt W1 w.heap.size (.int .u64 0) (.slice none 0 0)) := by show ObjAt _ _ _ _; rw [eW1]; exact ObjAt.new w _ _
  have HK := o_isKey k (by omega) W1
  rw [hk] at HK
  have HS := o_stands base d mb n x B k p o W1 (DV.kept h hg1) (hs.grown hg1) hk hV ho
  generalize (if x.off = true then (60 : Int) else 0) = E at HS ⊢
  generalize genO (seenO x o) = G at HS ⊢
  generalize dataO (seenO x o) = D at HS ⊢
  have HS : Hid (Calls Try.prog 41 #[.pointer (some ⟨p, 0, none⟩), .string k] W1 fun e w' => ∃ v N c, e = .returned (.tuple #[.agg #[.int .u64 (G : Int), .slice v N c], .int .i64 E]) ∧ Out W1 w' v N c D ∧ W1.grownBy w' none) := HS
  have HOUT : Hid (∀ (w1 : World) v N c u u', Out W1 w1 v N c D → Out w ((w1.setCell ⟨w.heap.size, 0, none⟩ u).setCell ⟨w.heap.size, 1, none⟩ u') v N c D) := fun w1 v N c u u' hO => by
    obtain ⟨t1, t2, t3, t4, t5⟩ := hO
    have hlt := HP.out.lt
    have hne : ∀ y, v = some y → some y.block ≠ some w.heap.size := fun y hy e => by have := t5 y hy; have := Option.some.inj e; omega
    refine ⟨t1, (t2.grown (gb_set (g := w.heap.size) rfl) hne).grown (gb_set (g := w.heap.size) rfl) hne, t3, t4, fun y hy => by have := t5 y hy; omega⟩
  have q1 : decide ((1048576 : Int) < (M : Int)) = false := by simp; omega
  clear h hs hk hk1 hk2 hk3 hg1 hV ho
  go_enter Try.func29, Try.ntmps29
  go_upto_region 1 with fail
  rw [← eW1]
  clear eW1
  go_wp2_with fail
  refine HK.mono ?_
  rintro e w0 ⟨rfl, rfl⟩
  go_wp2_with fail
  refine HS.out.mono ?_
  rintro e w1 ⟨v, N, c, rfl, hO, hg⟩
  have HO : Hid (Out W1 w1 v N c D) := hO
  have HP2 : Hid (ObjAt w1 w.heap.size (.int .u64 0) (.slice none 0 0)) := HP.out.grown hg
  have HG2 : Hid (w.grownBy w1 none) := HG1.out.trans hg
  have c0 := HP2.out.c0
  have c1 := HP2.out.c1
  have g0 := HP2.out.f0
  have g1 := HP2.out.f1
  clear hg hO HK HS
  go_wp2
  exact bodyPost_ret (results_cell2 Try.results29 _ _ _ _ _ rfl (HP2.out.set _ _).var) rfl ⟨v, N, c, rfl, HOUT.out w1 v N c _ _ HO.out, gb_pair HG2.out (Nat.le_refl _) _ _⟩
set_option maxHeartbeats 4000000 in
theorem o_beforeNot (k : ByteArray) (p : Nat) (a : Option Addr) (M cd : Nat) (w : World) (hk : keyB k = false) (hs : (k.size : Int) ≤ 9223372036854775807) :
    Calls Try.prog 29 #[.pointer (some ⟨p, 0, none⟩), .string k, .slice a M cd] w fun e w' => e = .returned (.tuple #[.agg #[.int .u64 0, .slice none 0 0], .int .i64 110]) ∧ w.grownBy w' none := by
  obtain ⟨W1, eW1⟩ : ∃ W1, W1 = w.alloc (.cells #[.int .u64 0, .slice none 0 0] 66) := ⟨_, rfl⟩
  have hg1 : w.grownBy W1 none := by rw [eW1]; exact World.grownBy_alloc w _ none
  have HG1 : Hid (w.grownBy W1 none) := hg1
  have HP : Hid (ObjAt W1 w.heap.size (.int .u64 0) (.slice none 0 0)) := by show ObjAt _ _ _ _; rw [eW1]; exact ObjAt.new w _ _
  have HK := o_isKey k hs W1
  rw [hk] at HK
  have c0 := HP.out.c0
  have c1 := HP.out.c1
  have g0 := HP.out.f0
  have g1 := HP.out.f1
  clear hk hs hg1
  go_enter Try.func29, Try.ntmps29
  go_upto_region 1 with fail
  rw [← eW1]
  clear eW1
  go_wp2_with fail
  refine HK.mono ?_
  rintro e w0 ⟨rfl, rfl⟩
  clear HK
  go_wp2
  exact bodyPost_ret (results_cell2 Try.results29 _ _ _ _ _ rfl (HP.out.set _ _).var) rfl ⟨rfl, gb_pair HG1.out (Nat.le_refl _) _ _⟩
/-- What replace answers. -/
def RepOut (w : World) (base d mb n g : Nat) (r : Int × DSt) (B : Nat → Prop) (e : Ending) (w' : World) : Prop := e = .returned (.tuple #[.int .u64 (if r.1 = 0 then (g : Int) + 1 else 0), .int .i64 r.1]) ∧ ∃ n' B', n' ≤ n + 4 ∧ DS w' base d mb n' r.2 B' ∧ Step w w' B B' ∧ ∀ k, B' k → k < w'.heap.size
theorem flit (w : World) (l : List (Nat × Value)) (t : TypeId) : SRd fnE (w.alloc (.cells (fnE.flat l).toArray t)) (some ⟨w.heap.size, 0, none⟩) l := by
  refine .inr ⟨w.heap.size, 0, rfl, fun j v hj => ?_⟩
  have := news_at (w := w) (cs := fnE.flat l) (t := t) j v hj
  rw [Nat.zero_add]
  rw [← this]
  congr 1
  unfold Addr.add
  by_cases h0 : j = 0
  · rw [h0]; rfl
  · simp [h0]
/-- A draft's variable. -/
def TriAt (w : World) (g : Nat) (x y z : Value) : Prop := w.heap[g]? = some (.cells #[x, y, z] 75 (0, 0))
section
variable {w w' : World} {g : Nat} {x y z : Value}
theorem TriAt.c0 (h : TriAt w g x y z) : w.cell? ⟨g, 0, none⟩ = some x := by rw [cell_of_row w g 0 _ _ _ h]; rfl
theorem TriAt.c1 (h : TriAt w g x y z) : w.cell? ⟨g, 1, none⟩ = some y := by rw [cell_of_row w g 1 _ _ _ h]; rfl
theorem TriAt.c2 (h : TriAt w g x y z) : w.cell? ⟨g, 2, none⟩ = some z := by rw [cell_of_row w g 2 _ _ _ h]; rfl
theorem TriAt.f (h : TriAt w g x y z) (i : Nat) : w.frozen? ⟨g, i, none⟩ = false := by unfold TriAt at h; simp [World.frozen?, h]
theorem TriAt.lt (h : TriAt w g x y z) : g < w.heap.size := (Array.getElem?_eq_some_iff.1 h).1
theorem TriAt.grown (h : TriAt w g x y z) (hg : w.grownBy w' none) : TriAt w' g x y z := (hg.block g h.lt (by simp)).trans h
theorem TriAt.new (w : World) (x y z : Value) : TriAt (w.alloc (.cells #[x, y, z] 75)) w.heap.size x y z := heap_alloc_new w _
theorem TriAt.set (h : TriAt w g x y z) (x' y' z' : Value) : TriAt (((w.setCell ⟨g, 0, none⟩ x').setCell ⟨g, 1, none⟩ y').setCell ⟨g, 2, none⟩ z') g x' y' z' := by
  have h1 : (w.setCell ⟨g, 0, none⟩ x').heap[g]? = some (.cells #[x', y, z] 75 (0, 0)) := by
    unfold TriAt at h
    rw [setCell_eq_setRow w g 0 _ 75 (0, 0) _ h, setRow_heap w g _ _ 75 _ h]
    rfl
  have h2 : ((w.setCell ⟨g, 0, none⟩ x').setCell ⟨g, 1, none⟩ y').heap[g]? = some (.cells #[x', y', z] 75 (0, 0)) := by
    rw [setCell_eq_setRow _ g 1 _ 75 (0, 0) _ h1, setRow_heap _ g _ _ 75 _ h1]
    rfl
  unfold TriAt
  rw [setCell_eq_setRow _ g 2 _ 75 (0, 0) _ h2, setRow_heap _ g _ _ 75 _ h2]
  rfl
end
theorem gb_tri {w w1 : World} {g : Nat} (hg : w.grownBy w1 none) (hn : w.heap.size ≤ g) (u v t : Value) : w.grownBy (((w1.setCell ⟨g, 0, none⟩ u).setCell ⟨g, 1, none⟩ v).setCell ⟨g, 2, none⟩ t) none :=
  gb_trans (gb_pair hg hn u v) (gb_set (g := g) rfl) (fun k hk => .inl (by cases hk; exact hn))
set_option maxHeartbeats 8000000 in
theorem o_replace (base d mb n : Nat) (x : DSt) (B : Nat → Prop) (k : ByteArray) (p g : Nat) (sv : Value) (a : Option Addr) (M cd : Nat) (dd : List Int) (w : World) (h : DS w base d mb n x B) (hs : StRow w p d) (hpB : ¬ B p) (hok : x.ok) (hw : x.wn ≤ 999999980) (hB : ∀ k, B k → k < w.heap.size) (hk : keyB k = true) (hon : x.off = false) (hT : x.V (tN k) = none) (hn : n ≤ 1000000) (hbs : base ≤ w.heap.size) (hg : g < 18446744073709551600) (hr : Rd w a dd) (hM : dd.length = M) (hnil : a = none → cd = 0) (hlen : M ≤ 1048576) :
    Calls Try.prog 30 #[.pointer (some ⟨p, 0, none⟩), .string k, .agg #[.int .u64 (g : Int), sv], .slice a M cd] w (RepOut w base d mb n g (x.putW k (objB (g + 1) dd)) B) := by
  obtain ⟨r, er⟩ : ∃ r, r = x.putW k (objB (g + 1) dd) := ⟨_, rfl⟩
  rw [← er]
  obtain ⟨W1, eW1⟩ : ∃ W1, W1 = w.alloc (.cells #[.int .u64 (g : Int), sv] 66) := ⟨_, rfl⟩
  have hg1 : w.grownBy W1 none := by rw [eW1]; exact World.grownBy_alloc w _ none
  have HO1 : ObjAt W1 w.heap.size (.int .u64 (g : Int)) sv := by rw [eW1]; exact ObjAt.new w _ _
  obtain ⟨W2, eW2⟩ : ∃ W2, W2 = W1.alloc (.cells #[.int .u64 ((g : Int) + 1), .slice a M cd] 66) := ⟨_, rfl⟩
  have hg2 : W1.grownBy W2 none := by rw [eW2]; exact World.grownBy_alloc W1 _ none
  have HO2 : ObjAt W2 W1.heap.size (.int .u64 ((g : Int) + 1)) (.slice a M cd) := by rw [eW2]; exact ObjAt.new W1 _ _
  have hgw : w.grownBy W2 none := hg1.trans hg2
  have HLAY : Hid (∀ w1, W2.grownBy w1 none → Calls Try.prog 42 #[.agg #[.int .u64 ((g : Int) + 1), .slice a M cd]] w1 fun e w' => ∃ b L C, e = .returned (.slice (some ⟨b, 0, none⟩) L C) ∧ Own w' w1.heap.size b L C (objB (g + 1) dd) ∧ w1.grownBy w' none) := fun w1 hg' => by
    have := o_lay (g + 1) a M cd dd w1 ((hr.grown hgw (by simp)).grown hg' (by simp)) hM hnil hlen (by omega)
    rw [show ((g + 1 : Nat) : Int) = (g : Int) + 1 by omega] at this
    exact this
  have HST : Hid (StRow W2 p d) := hs.grown hgw
  have s0 := (hs.grown hgw).c0
  have c0 := HO1.c0
  have d0 := HO2.c0
  have d1 := HO2.c1
  have q1 : max ((g : Int) + 1) 1 = (g : Int) + 1 := by omega
  have hmf : ∀ (fn : Fn) (first cap : Array Value) (w : World), (Instr.makeFunc fn first cap).run Try.prog w = .ok (.func fn first cap) w := fun _ _ _ _ => rfl
  have HTURN : Hid (∀ (W3 : World) b L C t, W2.grownBy W3 none → Own W3 W2.heap.size b L C (objB (g + 1) dd) → Calls Try.prog 26 #[.slice (some ⟨W3.heap.size, 0, none⟩) 4 4] (W3.alloc (.cells #[.func (.func 38) #[drV d k (.slice (some ⟨b, 0, none⟩) L C)] #[], .func (.func 43) #[drV d k (.slice (some ⟨b, 0, none⟩) L C)] #[], .func (.func 44) #[drV d k (.slice (some ⟨b, 0, none⟩) L C)] #[], .func (.func 45) #[drV d k (.slice (some ⟨b, 0, none⟩) L C)] #[]] t)) (TurnOut (PutQ (W3.alloc (.cells #[.func (.func 38) #[drV d k (.slice (some ⟨b, 0, none⟩) L C)] #[], .func (.func 43) #[drV d k (.slice (some ⟨b, 0, none⟩) L C)] #[], .func (.func 44) #[drV d k (.slice (some ⟨b, 0, none⟩) L C)] #[], .func (.func 45) #[drV d k (.slice (some ⟨b, 0, none⟩) L C)] #[]] t)) base d mb n r B))) := fun W3 b L C t hg3 ho => by
    have hf := flit W3 (draws d k (.slice (some ⟨b, 0, none⟩) L C)) t
    obtain ⟨W4, eW4⟩ : ∃ W4, W4 = W3.alloc (.cells (fnE.flat (draws d k (.slice (some ⟨b, 0, none⟩) L C))).toArray t) := ⟨_, rfl⟩
    rw [← eW4] at hf
    have hg4 : W3.grownBy W4 none := by rw [eW4]; exact World.grownBy_alloc W3 _ none
    have hz4 : W4.heap.size = W3.heap.size + 1 := by rw [eW4]; exact Array.size_push _
    have hgw4 := (hgw.trans hg3).trans hg4
    have ho4 := ho.kept hg4 (by simp)
    have hbl := ho4.ge
    have hsz := hgw.size
    have hs3 := hg3.size
    have hby := ho4.rd.2
    have hol := ho4.len
    have hL : L ≤ 4194304 := by
      have := frame_enc_len (g + 1) (by omega)
      rw [← hol, objB, List.length_append]
      omega
    have hT4 := put_turn base d mb n x B k b (objB (g + 1) dd) L C W3.heap.size W4 (DV.kept h hgw4) hok hw (fun k hk => Nat.lt_of_lt_of_le (hB k hk) hgw4.size) hk hon hT hn (by
        rcases ho4.rd.1 with h0 | ⟨b', o', e, hc⟩
        · exact .inl h0
        · refine .inr ⟨b', o', e, fun j v hj => ?_⟩
          have hj' : j < (objB (g + 1) dd).length := by
            have := (List.getElem?_eq_some_iff.1 hj).1
            rw [byteE.flat_len, show byteE.size = 1 from rfl] at this
            omega
          rw [hc j hj']
          have hb' : byteE.flat (objB (g + 1) dd) = bs (objB (g + 1) dd) := by
            unfold Elem.flat bs
            rw [List.map_eq_flatMap]
            rfl
          rw [hb'] at hj
          unfold bs at hj
          rw [List.getElem?_map, List.getElem?_eq_getElem hj', Option.map_some] at hj
          rw [List.getD_eq_getElem?_getD, List.getElem?_eq_getElem hj']
          exact hj) hol hby hL (Nat.le_trans hbs hgw4.size) hbl.2 (fun hb => by have := hB _ hb; omega) (by omega) (fun hb => by have := hB _ hb; omega) hf
    rw [← er] at hT4
    have := o_inTurn (some ⟨W3.heap.size, 0, none⟩) (draws d k (.slice (some ⟨b, 0, none⟩) L C)) 4 4 _ _ W4 (fun w h => h) hf (by
      intro p hp
      simp only [draws, List.mem_cons, List.mem_nil_iff, or_false] at hp
      rcases hp with rfl | rfl | rfl | rfl <;> simp) rfl (by omega) hT4
    rw [eW4] at this
    exact this
  clear hr
  go_enter Try.func30, Try.ntmps30
  go_upto_region 2 with fail
  rw [← eW1]
  have hz1 : W1.heap.size = w.heap.size + 1 := by rw [eW1]; exact Array.size_push _
  rw [← eW2]
  rw [hz1] at HO2 d0 d1
  clear eW1 eW2
  have ne1 : W2.heap.size ≠ p := Nat.ne_of_gt HST.out.lt
  have ne2 : W2.heap.size ≠ w.heap.size + 1 := Nat.ne_of_gt HO2.lt
  go_region_held3 (fun W => W.cell? ⟨p, 0, none⟩ = some (.pointer (some ⟨d, 0, none⟩)) ∧ W.cell? ⟨w.heap.size + 1, 0, none⟩ = some (.int .u64 ((g : Int) + 1)) ∧ W.cell? ⟨w.heap.size + 1, 1, none⟩ = some (.slice a M cd)) (go_keep) (first
    | (go_at_call 42; refine (HLAY.out _ (gd W2)).mono ?_; rintro e w1 ⟨b, L, C, rfl, ho, hgl⟩; have HOW : Hid (Own w1 W2.heap.size b L C (objB (g + 1) dd)) := ho.base (Nat.le_refl _); have HG2 : Hid (W2.grownBy w1 none) := (gd W2).trans hgl; have s0' := (HST.out.grown HG2.out).c0; have d0' := (HO2.grown HG2.out).c0; have d1' := (HO2.grown HG2.out).c1; clear ho hgl)
    | (go_at_call 42; refine (HLAY.out _ ((gd W2).trans (World.grownBy_alloc W2.drew _ none))).mono ?_; rintro e w1 ⟨b, L, C, rfl, ho, hgl⟩; have HOW : Hid (Own w1 (W2.heap.size + 1) b L C (objB (g + 1) dd)) := ho.base (Nat.le_of_eq (Array.size_push _).symm); have HZ : Hid (TriAt w1 W2.heap.size (.pointer none) (.string ⟨#[]⟩) (.slice none 0 0)) := (TriAt.new W2.drew _ _ _).grown hgl; have HG2 : Hid (W2.grownBy w1 none) := ((gd W2).trans (World.grownBy_alloc W2.drew _ none)).trans hgl; have z0 := HZ.out.c0; have z1 := HZ.out.c1; have z2 := HZ.out.c2; have y0 := HZ.out.f 0; have y1 := HZ.out.f 1; have y2 := HZ.out.f 2; have s0' := (HST.out.grown HG2.out).c0; have d0' := (HO2.grown HG2.out).c0; have d1' := (HO2.grown HG2.out).c1; clear ho hgl))
  · obtain ⟨W3, eW3⟩ : ∃ W3, W3 = w1.alloc (.cells #[.pointer (some ⟨d, 0, none⟩), .string k, .slice (some ⟨b, 0, none⟩) L C] 75) := ⟨_, rfl⟩
    have hg3 : w1.grownBy W3 none := by rw [eW3]; exact World.grownBy_alloc w1 _ none
    have HT3 : Hid (TriAt W3 w1.heap.size (.pointer (some ⟨d, 0, none⟩)) (.string k) (.slice (some ⟨b, 0, none⟩) L C)) := by show TriAt _ _ _ _ _; rw [eW3]; exact TriAt.new w1 _ _ _
    have HG3 : Hid (W2.grownBy W3 none) := HG2.out.trans hg3
    have HW3 : Hid (Own W3 W2.heap.size b L C (objB (g + 1) dd)) := HOW.out.kept hg3 (by simp)
    have HO3 : Hid (ObjAt W3 (w.heap.size + 1) (.int .u64 ((g : Int) + 1)) (.slice a M cd)) := HO2.grown HG3.out
    rw [← eW3]
    clear eW3 hg3
    clear HO2 d0' d1' s0' s0 c0 d0 d1
    have p0 := HT3.out.c0
    have p1 := HT3.out.c1
    have p2 := HT3.out.c2
    have HC := HTURN.out W3 b L C 73 HG3.out HW3.out
    have HOB : Hid (∀ (w5 : World) (B' : Nat → Prop), Step (W3.alloc (.cells #[.func (.func 38) #[drV d k (.slice (some ⟨b, 0, none⟩) L C)] #[], .func (.func 43) #[drV d k (.slice (some ⟨b, 0, none⟩) L C)] #[], .func (.func 44) #[drV d k (.slice (some ⟨b, 0, none⟩) L C)] #[], .func (.func 45) #[drV d k (.slice (some ⟨b, 0, none⟩) L C)] #[]] 73)) w5 B B' → ObjAt w5 (w.heap.size + 1) (.int .u64 ((g : Int) + 1)) (.slice a M cd) ∧ Step w w5 B B') := fun w5 B' hst =>
      ⟨(HO3.out.grown (World.grownBy_alloc W3 _ none)).kept hst.1 (fun hb => by have := hB _ hb; omega), (Step.grown B ((hgw.trans HG3.out).trans (World.grownBy_alloc W3 _ none))).trans hst⟩
    clear HTURN HLAY HST HT3 HW3 HG3 HO3 HG2 HOW
    clear h hs hpB hok hw hB hk hon hT hn hbs hM hnil hlen er hg1 HO1 hg2 hgw ne1 ne2 hz1
    go_wp2_with fail
    refine HC.mono ?_
    rintro e w5 ⟨c, rfl, rfl, n', B', hn', hd', hs', hb'⟩
    obtain ⟨ho5, hst5⟩ := HOB.out w5 B' hs'
    have HF : Hid (∃ n' B', n' ≤ n + 4 ∧ DS w5 base d mb n' r.2 B' ∧ Step w w5 B B' ∧ ∀ k, B' k → k < w5.heap.size) := ⟨n', B', hn', hd', hst5, hb'⟩
    have HO5 : Hid (ObjAt w5 (w.heap.size + 1) (.int .u64 ((g : Int) + 1)) (.slice a M cd)) := ho5
    have t0 := ho5.c0
    obtain ⟨rc, ry⟩ := r
    dsimp only at HF ⊢
    clear HC HOB ho5 hst5 hs' hd' hb'
    by_cases hc0 : rc = 0
    · subst hc0
      go_wp2
      go_ret2
      exact ⟨rfl, HF.out⟩
    · have q : (rc != 0) = true := by simpa using hc0
      have HC0 : Hid (¬ rc = 0) := hc0
      clear hc0
      go_wp2
      go_ret2
      exact ⟨by rw [if_neg (show ¬ (rc, ry).1 = 0 from HC0.out)]; rfl, HF.out⟩
  · obtain ⟨W3, eW3⟩ : ∃ W3, W3 = ((w1.setCell ⟨W2.heap.size, 0, none⟩ (.pointer (some ⟨d, 0, none⟩))).setCell ⟨W2.heap.size, 1, none⟩ (.string k)).setCell ⟨W2.heap.size, 2, none⟩ (.slice (some ⟨b, 0, none⟩) L C) := ⟨_, rfl⟩
    have HT3 : Hid (TriAt W3 W2.heap.size (.pointer (some ⟨d, 0, none⟩)) (.string k) (.slice (some ⟨b, 0, none⟩) L C)) := by show TriAt _ _ _ _ _; rw [eW3]; exact HZ.out.set _ _ _
    have HG3 : Hid (W2.grownBy W3 none) := by show W2.grownBy W3 none; rw [eW3]; exact gb_tri HG2.out (Nat.le_refl _) _ _ _
    have HW3 : Hid (Own W3 W2.heap.size b L C (objB (g + 1) dd)) := by
      have hbg := HOW.out.ge.1
      have hne : some b ≠ some W2.heap.size := fun e => by have := Option.some.inj e; omega
      show Own W3 _ _ _ _ _
      rw [eW3]
      exact (((HOW.out.kept (gb_set (g := W2.heap.size) rfl) hne).kept (gb_set (g := W2.heap.size) rfl) hne).kept (gb_set (g := W2.heap.size) rfl) hne).base (by omega)
    have HO3 : Hid (ObjAt W3 (w.heap.size + 1) (.int .u64 ((g : Int) + 1)) (.slice a M cd)) := HO2.grown HG3.out
    rw [← eW3]
    clear eW3 HZ z0 z1 z2 y0 y1 y2
    clear HO2 d0' d1' s0' s0 c0 d0 d1
    have p0 := HT3.out.c0
    have p1 := HT3.out.c1
    have p2 := HT3.out.c2
    have HC := HTURN.out W3 b L C 73 HG3.out HW3.out
    have HOB : Hid (∀ (w5 : World) (B' : Nat → Prop), Step (W3.alloc (.cells #[.func (.func 38) #[drV d k (.slice (some ⟨b, 0, none⟩) L C)] #[], .func (.func 43) #[drV d k (.slice (some ⟨b, 0, none⟩) L C)] #[], .func (.func 44) #[drV d k (.slice (some ⟨b, 0, none⟩) L C)] #[], .func (.func 45) #[drV d k (.slice (some ⟨b, 0, none⟩) L C)] #[]] 73)) w5 B B' → ObjAt w5 (w.heap.size + 1) (.int .u64 ((g : Int) + 1)) (.slice a M cd) ∧ Step w w5 B B') := fun w5 B' hst =>
      ⟨(HO3.out.grown (World.grownBy_alloc W3 _ none)).kept hst.1 (fun hb => by have := hB _ hb; omega), (Step.grown B ((hgw.trans HG3.out).trans (World.grownBy_alloc W3 _ none))).trans hst⟩
    clear HTURN HLAY HST HT3 HW3 HG3 HO3 HG2 HOW
    clear h hs hpB hok hw hB hk hon hT hn hbs hM hnil hlen er hg1 HO1 hg2 hgw ne1 ne2 hz1
    go_wp2_with fail
    refine HC.mono ?_
    rintro e w5 ⟨c, rfl, rfl, n', B', hn', hd', hs', hb'⟩
    obtain ⟨ho5, hst5⟩ := HOB.out w5 B' hs'
    have HF : Hid (∃ n' B', n' ≤ n + 4 ∧ DS w5 base d mb n' r.2 B' ∧ Step w w5 B B' ∧ ∀ k, B' k → k < w5.heap.size) := ⟨n', B', hn', hd', hst5, hb'⟩
    have HO5 : Hid (ObjAt w5 (w.heap.size + 1) (.int .u64 ((g : Int) + 1)) (.slice a M cd)) := ho5
    have t0 := ho5.c0
    obtain ⟨rc, ry⟩ := r
    dsimp only at HF ⊢
    clear HC HOB ho5 hst5 hs' hd' hb'
    by_cases hc0 : rc = 0
    · subst hc0
      go_wp2
      go_ret2
      exact ⟨rfl, HF.out⟩
    · have q : (rc != 0) = true := by simpa using hc0
      have HC0 : Hid (¬ rc = 0) := hc0
      clear hc0
      go_wp2
      go_ret2
      exact ⟨by rw [if_neg (show ¬ (rc, ry).1 = 0 from HC0.out)]; rfl, HF.out⟩
end Go.Proofs.Ytlmddmfoodejmaa
