/- Package obj: stands, find, before. -/
import Derived.Test.YtlmddmfoodejmaaOf
namespace Go.Proofs.Ytlmddmfoodejmaa
open Go.RowKit Go.Maps
set_option linter.unusedVariables false
set_option maxRecDepth 20000

abbrev StRow (w : World) (p d : Nat) : Prop := w.rowIs p 63 1 (fun _ => .pointer (some ⟨d, 0, none⟩))
theorem StRow.c0 {w : World} {p d : Nat} (h : StRow w p d) : w.cell? ⟨p, 0, none⟩ = some (.pointer (some ⟨d, 0, none⟩)) := h.cell (i := 0) (by omega)
theorem StRow.grown {w w' : World} {p d : Nat} (h : StRow w p d) (hg : w.grownBy w' none) : StRow w' p d := h.of_block (hg.block p h.lt (by simp))
def genO : Option (Nat × List Int) → Nat
  | none => 0
  | some q => q.1
def dataO : Option (Nat × List Int) → List Int
  | none => []
  | some q => q.2
def OkO : Option (Nat × List Int) → Prop
  | none => True
  | some q => 1 ≤ q.1 ∧ q.1 < 18446744073709551616 ∧ q.2.length ≤ 1048576
/-- What stands on a disk at a key. -/
def seenO (x : DSt) (o : Option (Nat × List Int)) : Option (Nat × List Int) := if x.off = true then none else o
theorem objB_pos (g : Nat) (d : List Int) : 0 < (objB g d).length := by
  have h1 := enc_len_pos (enc g).length
  rw [objB, frameR]
  simp only [List.length_append]
  omega
theorem objB_byte {w : World} {v : Option Addr} {g : Nat} {d : List Int} (h : ∀ z ∈ objB g d, 0 ≤ z ∧ z ≤ 255) : ∀ z ∈ d, 0 ≤ z ∧ z ≤ 255 := fun z hz => h z (List.mem_append_right _ hz)
set_option maxHeartbeats 4000000 in
theorem o_stands (base d mb n : Nat) (x : DSt) (B : Nat → Prop) (k : ByteArray) (p : Nat) (o : Option (Nat × List Int)) (w : World) (h : DS w base d mb n x B) (hs : StRow w p d) (hk : keyB k = true) (hV : x.V (oN k) = o.map fileV) (ho : OkO o) :
    Calls Try.prog 41 #[.pointer (some ⟨p, 0, none⟩), .string k] w fun e w' => ∃ v N c, e = .returned (.tuple #[.agg #[.int .u64 (genO (seenO x o) : Int), .slice v N c], .int .i64 (if x.off = true then 60 else 0)]) ∧ Out w w' v N c (dataO (seenO x o)) ∧ w.grownBy w' none := by
  obtain ⟨hk1, hk2, hk3⟩ := keyB_name hk
  obtain ⟨W1, eW1⟩ : ∃ W1, W1 = w.alloc (.cells #[.int .u64 0, .slice none 0 0] 66) := ⟨_, rfl⟩
  have hg1 : w.grownBy W1 none := by rw [eW1]; exact World.grownBy_alloc w _ none
  have HG1 : Hid (w.grownBy W1 none) := hg1
  have HP : Hid (ObjAt W1 w.heap.size (.int .u64 0) (.slice none 0 0)) := by show ObjAt _ _ _ _; rw [eW1]; exact ObjAt.new w _ _
  have HR := x_read base d mb n x B (oN k) W1 (DV.kept h hg1) (name_oN hk)
  have s0 := (hs.grown hg1).c0
  have q1 : ¬ (9223372036854775807 : Nat) < 2 + k.size := by omega
  have HZ : Hid (w.heap.size ≤ W1.heap.size) := hg1.size
  unfold seenO
  unfold DSt.read at HR
  clear h hs hk hk1 hk2 hk3 hg1
  cases hoff : x.off with
  | true =>
    rw [hoff] at HR
    simp only [if_true] at HR
    rw [if_pos rfl, if_pos rfl]
    have HR : Hid (Calls Try.prog 55 #[.pointer (some ⟨d, 0, none⟩), .string (oN k)] W1 fun e w' => ∃ a c, e = .returned (.tuple #[.slice a 0 c, .int .i64 60]) ∧ W1.grownBy w' none) := HR.mono (fun e w' ⟨a, c, h1, _, _, _, h2⟩ => ⟨a, c, h1, h2⟩)
    clear hV ho hoff
    go_enter Try.func41, Try.ntmps41
    go_upto_region 1 with fail
    rw [← eW1]
    clear eW1
    go_wp2_with fail
    rw [oN_eq]
    refine HR.out.mono ?_
    rintro e w1 ⟨a, c, rfl, hg⟩
    have HP2 : Hid (ObjAt w1 w.heap.size (.int .u64 0) (.slice none 0 0)) := HP.out.grown hg
    have HG2 : Hid (w.grownBy w1 none) := HG1.out.trans hg
    have c0 := HP2.out.c0
    have c1 := HP2.out.c1
    have g0 := HP2.out.f0
    have g1 := HP2.out.f1
    clear hg HR
    go_wp2
    exact bodyPost_ret (results_cell2 Try.results41 _ _ _ _ _ rfl (HP2.out.set _ _).var) rfl ⟨none, 0, 0, rfl, Out.nil _ _, gb_pair HG2.out (Nat.le_refl _) _ _⟩
  | false =>
    rw [hoff] at HR
    rw [if_neg (by simp)] at HR
    rw [if_neg (by simp), if_neg (by simp)]
    rw [hV] at HR
    cases o with
    | none =>
      have HR : Hid (Calls Try.prog 55 #[.pointer (some ⟨d, 0, none⟩), .string (oN k)] W1 fun e w' => ∃ a c, e = .returned (.tuple #[.slice a 0 c, .int .i64 62]) ∧ W1.grownBy w' none) := HR.mono (fun e w' ⟨a, c, h1, _, _, _, h2⟩ => ⟨a, c, h1, h2⟩)
      clear hV ho hoff
      go_enter Try.func41, Try.ntmps41
      go_upto_region 1 with fail
      rw [← eW1]
      clear eW1
      go_wp2_with fail
      rw [oN_eq]
      refine HR.out.mono ?_
      rintro e w1 ⟨a, c, rfl, hg⟩
      have HP2 : Hid (ObjAt w1 w.heap.size (.int .u64 0) (.slice none 0 0)) := HP.out.grown hg
      have HG2 : Hid (w.grownBy w1 none) := HG1.out.trans hg
      have c0 := HP2.out.c0
      have c1 := HP2.out.c1
      have g0 := HP2.out.f0
      have g1 := HP2.out.f1
      clear hg HR
      go_wp2
      exact bodyPost_ret (results_cell2 Try.results41 _ _ _ _ _ rfl (HP2.out.set _ _).var) rfl ⟨none, 0, 0, rfl, Out.nil _ _, gb_pair HG2.out (Nat.le_refl _) _ _⟩
    | some q =>
      obtain ⟨g, dd⟩ := q
      obtain ⟨ho1, ho2, ho3⟩ := ho
      obtain ⟨L, hL⟩ : ∃ L, (objB g dd).length = L := ⟨_, rfl⟩
      have hpos := objB_pos g dd
      have HR : Hid (Calls Try.prog 55 #[.pointer (some ⟨d, 0, none⟩), .string (oN k)] W1 fun e w' => ∃ b c, e = .returned (.tuple #[.slice (some ⟨b, 0, none⟩) L c, .int .i64 0]) ∧ Rd w' (some ⟨b, 0, none⟩) (objB g dd) ∧ L ≤ c ∧ W1.heap.size ≤ b ∧ W1.grownBy w' none) := HR.mono (fun e w' ⟨a, c, h1, h2, h3, _, h5⟩ => by
        have h1 : e = .returned (.tuple #[.slice a (objB g dd).length c, .int .i64 0]) := h1
        have h2 : SOwn byteE 5 w' W1.heap.size (.slice a (objB g dd).length c) (objB g dd).length (objB g dd) := h2
        obtain ⟨b, cap, e1, e2, e3, e4, e5⟩ := h2.some (by intro e; injection e with _ e _; omega)
        have e1' : a = some ⟨b, 0, none⟩ ∧ c = cap := by injection e1 with e1 _ e2; exact ⟨e1, e2⟩
        obtain ⟨rfl, rfl⟩ := e1'
        rw [hL] at h1 e4
        exact ⟨b, c, h1, srd_rd h2.rd h3, e4, e2, h5⟩)
      have HRD : Hid (∀ b c w1, Rd w1 (some ⟨b, 0, none⟩) (objB g dd) → L ≤ c → Calls Try.prog 56 #[.slice (some ⟨b, 0, none⟩) L c] w1 fun e w' => ∃ v N c, e = .returned (.agg #[.int .u64 (g : Int), .slice v N c]) ∧ DataAt b w' v N c dd ∧ w1.grownBy w' none) := fun b c w1 h1 h2 => o_read b L c g dd w1 h1 hL h2 ho1 ho2 ho3
      have hL4 : L ≤ 1048601 := by rw [← hL, objB, List.length_append]; have := frame_enc_len g ho2; simp only at ho3; omega
      clear hV hoff ho1 ho2 ho3 hL hpos
      go_enter Try.func41, Try.ntmps41
      go_upto_region 1 with fail
      rw [← eW1]
      clear eW1
      go_wp2_with fail
      rw [oN_eq]
      refine HR.out.mono ?_
      rintro e w1 ⟨b, c, rfl, hrd, hc, hb, hg⟩
      have HC := HRD.out b c w1 hrd hc
      have HP2 : Hid (ObjAt w1 w.heap.size (.int .u64 0) (.slice none 0 0)) := HP.out.grown hg
      have HG2 : Hid (w.grownBy w1 none) := HG1.out.trans hg
      have HB : Hid (w.heap.size < b) := Nat.lt_of_lt_of_le HP.out.lt hb
      clear hg HR hrd HRD hb
      go_wp2_with fail
      refine HC.mono ?_
      rintro e w2 ⟨v, N, c', rfl, hd, hg⟩
      have HP3 : Hid (ObjAt w2 w.heap.size (.int .u64 0) (.slice none 0 0)) := HP2.out.grown hg
      have HG3 : Hid (w.grownBy w2 none) := HG2.out.trans hg
      have HD : Hid (DataAt b w2 v N c' dd) := hd
      have c0 := HP3.out.c0
      have c1 := HP3.out.c1
      have g0 := HP3.out.f0
      have g1 := HP3.out.f1
      clear hg hd HC
      go_wp2
      refine bodyPost_ret (results_cell2 Try.results41 _ _ _ _ _ rfl (HP3.out.set _ _).var) rfl ⟨v, N, c', rfl, ?_, gb_pair HG3.out (Nat.le_refl _) _ _⟩
      obtain ⟨t1, t2, t3, o', t4⟩ := HD.out
      have hlt := HP3.out.lt
      refine ⟨t1, ?_, fun hn => ?_, t3, fun y hy => ?_⟩
      · subst t4
        have hbw : b ≠ w.heap.size := Nat.ne_of_gt HB.out
        exact (t2.grown (gb_set (g := w.heap.size) rfl) (fun y hy => by cases hy; intro e; exact hbw (Option.some.inj e))).grown (gb_set (g := w.heap.size) rfl) (fun y hy => by cases hy; intro e; exact hbw (Option.some.inj e))
      · rw [hn] at t4; cases t4
      · rw [t4] at hy; cases hy; exact Nat.le_of_lt HB.out
/-- A variable of type object, made and set. -/
def stW (w : World) (x y : Value) : World := w.alloc (.cells #[x, y] 66)
theorem stW_gb (w : World) (x y : Value) : w.grownBy (stW w x y) none := World.grownBy_alloc w _ none
theorem stW_at (w : World) (x y : Value) : ObjAt (stW w x y) w.heap.size x y := ObjAt.new w x y
/-- What find answers: its error. -/
def findE (x : DSt) (o : Option (Nat × List Int)) : Int := if x.off = true then 60 else if genO o = 0 then 111 else 0
def findO (x : DSt) (o : Option (Nat × List Int)) : Option (Nat × List Int) := seenO x o
set_option maxHeartbeats 4000000 in
theorem o_find (base d mb n : Nat) (x : DSt) (B : Nat → Prop) (k : ByteArray) (p : Nat) (o : Option (Nat × List Int)) (w : World) (h : DS w base d mb n x B) (hs : StRow w p d) (hk : keyB k = true) (hV : x.V (oN k) = o.map fileV) (ho : OkO o) :
    Calls Try.prog 33 #[.pointer (some ⟨p, 0, none⟩), .string k] w fun e w' => ∃ v N c, e = .returned (.tuple #[.agg #[.int .u64 (genO (seenO x o) : Int), .slice v N c], .int .i64 (findE x o)]) ∧ Out w w' v N c (dataO (seenO x o)) ∧ w.grownBy w' none := by
  obtain ⟨hk1, hk2, hk3⟩ := keyB_name hk
  obtain ⟨W1, eW1⟩ : ∃ W1, W1 = w.alloc (.cells #[.int .u64 0, .slice none 0 0] 66) := ⟨_, rfl⟩
  have hg1 : w.grownBy W1 none := by rw [eW1]; exact World.grownBy_alloc w _ none
  have HG1 : Hid (w.grownBy W1 none) := hg1
  have HP : Hid (ObjAt W1 w.heap.size (.int .u64 0) (.slice none 0 0)) := by show ObjAt _ _ _ _; rw [eW1]; exact ObjAt.new w _ _
  have HK := o_isKey k (by omega) W1
  rw [hk] at HK
  have HS := o_stands base d mb n x B k p o W1 (DV.kept h hg1) (hs.grown hg1) hk hV ho
  obtain ⟨E, hE⟩ : ∃ E, E = (if x.off = true then (60 : Int) else 0) := ⟨_, rfl⟩
  obtain ⟨F, hF⟩ : ∃ F, F = findE x o := ⟨_, rfl⟩
  obtain ⟨G, hG⟩ : ∃ G, G = genO (seenO x o) := ⟨_, rfl⟩
  obtain ⟨D, hD⟩ : ∃ D, D = dataO (seenO x o) := ⟨_, rfl⟩
  have hcase : (E = 60 ∧ F = 60) ∨ (E = 0 ∧ G = 0 ∧ D = [] ∧ F = 111) ∨ (E = 0 ∧ G ≠ 0 ∧ F = 0) := by
    cases hx : x.off with
    | true => exact .inl ⟨by rw [hE, hx]; rfl, by rw [hF]; unfold findE; rw [hx]; rfl⟩
    | false =>
      have e1 : E = 0 := by rw [hE, hx]; rfl
      have e2 : seenO x o = o := by unfold seenO; rw [hx]; rfl
      have e3 : F = if genO o = 0 then 111 else 0 := by rw [hF]; unfold findE; rw [hx]; rfl
      rw [e2] at hG hD
      cases o with
      | none => exact .inr (.inl ⟨e1, hG, hD, e3⟩)
      | some q =>
        obtain ⟨h1, _⟩ := ho
        exact .inr (.inr ⟨e1, by rw [hG]; show q.1 ≠ 0; omega, by rw [e3]; exact if_neg (show ¬ q.1 = 0 by omega)⟩)
  rw [← hE, ← hG, ← hD] at HS
  rw [← hF, ← hG, ← hD]
  have HS : Hid (Calls Try.prog 41 #[.pointer (some ⟨p, 0, none⟩), .string k] W1 fun e w' => ∃ v N c, e = .returned (.tuple #[.agg #[.int .u64 (G : Int), .slice v N c], .int .i64 E]) ∧ Out W1 w' v N c D ∧ W1.grownBy w' none) := HS
  have HOUT : Hid (∀ (w1 w2 : World) v N c u u', Out W1 w1 v N c D → w1.grownBy w2 none → Out w ((w2.setCell ⟨w.heap.size, 0, none⟩ u).setCell ⟨w.heap.size, 1, none⟩ u') v N c D) := fun w1 w2 v N c u u' hO hg => by
    obtain ⟨t1, t2, t3, t4, t5⟩ := hO
    have hlt := HP.out.lt
    have hne : ∀ y, v = some y → some y.block ≠ some w.heap.size := fun y hy e => by have := t5 y hy; have := Option.some.inj e; omega
    refine ⟨t1, ((t2.grown hg (by simp)).grown (gb_set (g := w.heap.size) rfl) hne).grown (gb_set (g := w.heap.size) rfl) hne, t3, t4, fun y hy => by have := t5 y hy; omega⟩
  clear h hs hk hk1 hk2 hk3 hg1 hV ho hE hF hG hD
  rcases hcase with ⟨rfl, rfl⟩ | ⟨rfl, rfl, rfl, rfl⟩ | ⟨rfl, hG0, rfl⟩
  · go_enter Try.func33, Try.ntmps33
    go_upto_region 1 with fail
    rw [← eW1]
    clear eW1
    go_wp2_with fail
    refine HK.mono ?_
    rintro e w0 ⟨rfl, rfl⟩
    go_wp2_with fail
    refine HS.out.mono ?_
    rintro e w1 ⟨v, N, c, rfl, hO, hg⟩
    have HO : Hid (Out W1 w1 v N c D) := hO
    obtain ⟨W2, eW2⟩ : ∃ W2, W2 = stW w1 (.int .u64 (G : Int)) (.slice v N c) := ⟨_, rfl⟩
    have hg2 : w1.grownBy W2 none := by rw [eW2]; exact stW_gb _ _ _
    have hp2 : ObjAt W2 w1.heap.size (.int .u64 (G : Int)) (.slice v N c) := by rw [eW2]; exact stW_at _ _ _
    have HP2 : Hid (ObjAt W2 w.heap.size (.int .u64 0) (.slice none 0 0)) := (HP.out.grown hg).grown hg2
    have HG2 : Hid (w.grownBy W2 none) := (HG1.out.trans hg).trans hg2
    have HG3 : Hid (w1.grownBy W2 none) := hg2
    have c0 := HP2.out.c0
    have c1 := HP2.out.c1
    have g0 := HP2.out.f0
    have g1 := HP2.out.f1
    have d0 := hp2.c0
    have d1 := hp2.c1
    clear hg hO hg2 hp2 HK HS
    go_upto_region 4 with fail
    unfold stW at eW2
    rw [← eW2]
    clear eW2
    go_wp2
    exact bodyPost_ret (results_cell2 Try.results33 _ _ _ _ _ rfl (HP2.out.set _ _).var) rfl ⟨v, N, c, rfl, HOUT.out w1 W2 v N c _ _ HO.out HG3.out, gb_pair HG2.out (Nat.le_refl _) _ _⟩
  · go_enter Try.func33, Try.ntmps33
    go_upto_region 1 with fail
    rw [← eW1]
    clear eW1
    go_wp2_with fail
    refine HK.mono ?_
    rintro e w0 ⟨rfl, rfl⟩
    go_wp2_with fail
    refine HS.out.mono ?_
    rintro e w1 ⟨v, N, c, rfl, hO, hg⟩
    obtain ⟨W2, eW2⟩ : ∃ W2, W2 = stW w1 (.int .u64 (0)) (.slice v N c) := ⟨_, rfl⟩
    have hg2 : w1.grownBy W2 none := by rw [eW2]; exact stW_gb _ _ _
    have hp2 : ObjAt W2 w1.heap.size (.int .u64 (0)) (.slice v N c) := by rw [eW2]; exact stW_at _ _ _
    have HP2 : Hid (ObjAt W2 w.heap.size (.int .u64 0) (.slice none 0 0)) := (HP.out.grown hg).grown hg2
    have HG2 : Hid (w.grownBy W2 none) := (HG1.out.trans hg).trans hg2
    have HG3 : Hid (w1.grownBy W2 none) := hg2
    have c0 := HP2.out.c0
    have c1 := HP2.out.c1
    have g0 := HP2.out.f0
    have g1 := HP2.out.f1
    have d0 := hp2.c0
    have d1 := hp2.c1
    clear hg hO hg2 hp2 HK HS
    go_upto_region 4 with fail
    unfold stW at eW2
    rw [← eW2]
    clear eW2
    go_wp2
    exact bodyPost_ret (results_cell2 Try.results33 _ _ _ _ _ rfl (HP2.out.set _ _).var) rfl ⟨none, 0, 0, rfl, Out.nil _ _, gb_pair HG2.out (Nat.le_refl _) _ _⟩
  · go_enter Try.func33, Try.ntmps33
    go_upto_region 1 with fail
    rw [← eW1]
    clear eW1
    go_wp2_with fail
    refine HK.mono ?_
    rintro e w0 ⟨rfl, rfl⟩
    go_wp2_with fail
    refine HS.out.mono ?_
    rintro e w1 ⟨v, N, c, rfl, hO, hg⟩
    have hG1 : ((G : Int) == 0) = false := by simp; omega
    have HO : Hid (Out W1 w1 v N c D) := hO
    obtain ⟨W2, eW2⟩ : ∃ W2, W2 = stW w1 (.int .u64 (G : Int)) (.slice v N c) := ⟨_, rfl⟩
    have hg2 : w1.grownBy W2 none := by rw [eW2]; exact stW_gb _ _ _
    have hp2 : ObjAt W2 w1.heap.size (.int .u64 (G : Int)) (.slice v N c) := by rw [eW2]; exact stW_at _ _ _
    have HP2 : Hid (ObjAt W2 w.heap.size (.int .u64 0) (.slice none 0 0)) := (HP.out.grown hg).grown hg2
    have HG2 : Hid (w.grownBy W2 none) := (HG1.out.trans hg).trans hg2
    have HG3 : Hid (w1.grownBy W2 none) := hg2
    have c0 := HP2.out.c0
    have c1 := HP2.out.c1
    have g0 := HP2.out.f0
    have g1 := HP2.out.f1
    have d0 := hp2.c0
    have d1 := hp2.c1
    clear hg hO hg2 hp2 HK HS
    go_upto_region 4 with fail
    unfold stW at eW2
    rw [← eW2]
    clear eW2
    go_wp2
    exact bodyPost_ret (results_cell2 Try.results33 _ _ _ _ _ rfl (HP2.out.set _ _).var) rfl ⟨v, N, c, rfl, HOUT.out w1 W2 v N c _ _ HO.out HG3.out, gb_pair HG2.out (Nat.le_refl _) _ _⟩
end Go.Proofs.Ytlmddmfoodejmaa
