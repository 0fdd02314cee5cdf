/- Package obj: Slice, Delete. -/
import Derived.Test.YtlmddmfoodejmaaOj
import Derived.Test.YtlmddmfoodejmaaMk
namespace Go.Proofs.Ytlmddmfoodejmaa
open Go.RowKit Go.Maps
set_option linter.unusedVariables false
set_option maxRecDepth 20000

theorem rd_srd {w : World} {a : Option Addr} {zs : List Int} (h : Rd w a zs) : SRd byteE w a zs := by
  rcases h.1 with h0 | ⟨b', o', e, hc⟩
  · exact .inl h0
  · refine .inr ⟨b', o', e, fun j v hj => ?_⟩
    have hj' : j < zs.length := by
      have := (List.getElem?_eq_some_iff.1 hj).1
      rw [byteE.flat_len, show byteE.size = 1 from rfl] at this
      omega
    rw [hc j hj']
    have hb' : byteE.flat zs = bs zs := by
      unfold Elem.flat bs
      rw [List.map_eq_flatMap]
      rfl
    rw [hb'] at hj
    unfold bs at hj
    rw [List.getElem?_map, List.getElem?_eq_getElem hj', Option.map_some] at hj
    rw [List.getD_eq_getElem?_getD, List.getElem?_eq_getElem hj']
    exact hj
theorem rd_part {w : World} {a : Option Addr} {zs : List Int} {L cap k n : Nat} (hr : Rd w a zs) (hL : zs.length = L) (hn : k + n ≤ L) (hcap : L ≤ cap) : Rd w (if cap = k then a else a.map (·.add k)) ((zs.drop k).take n) := by
  by_cases h0 : n = 0
  · subst h0
    exact ⟨.inl (by simp), by simp⟩
  · obtain ⟨b, off, rfl, hc⟩ := hr.at (by omega)
    have e : (if cap = k then some (⟨b, off, none⟩ : Addr) else (some (⟨b, off, none⟩ : Addr)).map (·.add k)) = some ⟨b, off + k, none⟩ := by
      rw [if_neg (by omega)]
      by_cases h0 : k = 0
      · subst h0; rfl
      · simp [Addr.add, h0]
    rw [e]
    exact (rd_window hc hr.2 k n (by omega)).1
theorem slice_part (w : World) (a : Option Addr) (L cap k n : Nat) (hn : k + n ≤ cap) : (Instr.slice 22 (.slice a L cap) (some (.int .i64 (k : Int))) (some (.int .i64 ((k + n : Nat) : Int))) none).run Try.prog w = .ok (.slice (if cap = k then a else a.map (·.add k)) n (cap - k)) w := by
  rw [run_slice_lh w 22 a L cap (by rw [elem22]; exact Try.underlying22) .i64 .i64 (k : Int) ((k + n : Nat) : Int) (by omega) (by omega) (by omega), elem22, sz5, show (((k + n : Nat) : Int)).toNat = k + n by omega]
  simp [Result.andThen, sliced]
/-- slices.Clone of any bytes. -/
theorem d_cloneAny (a : Option Addr) (zs : List Int) (k c : Nat) (w : World) (hr : Rd w a zs) (hk : zs.length = k) (hz : k ≤ 4194304) (hnil : a = none → c = 0) :
    Calls Try.prog 37 #[.slice a k c] w fun e w' => ∃ a' c', e = .returned (.slice a' k c') ∧ SOwn byteE 5 w' w.heap.size (.slice a' k c') k zs ∧ w.grownBy w' none := by
  cases a with
  | none =>
    have h0 := hr.none
    subst h0
    have hc := hnil rfl
    subst hc
    have hk0 : k = 0 := hk.symm
    subst hk0
    refine (d_cloneNil w).mono ?_
    rintro e w' ⟨rfl, rfl⟩
    exact ⟨none, 0, rfl, SOwn.nil 5 _ _, World.grownBy.refl _ _⟩
  | some ad => exact d_clone ad zs k c w (rd_srd hr) hk hz
set_option maxHeartbeats 8000000 in
theorem o_slice (base d mb n : Nat) (x : DSt) (B : Nat → Prop) (k : ByteArray) (p : Nat) (g : Nat) (D : List Int) (f m : Nat) (T : Int) (w : World) (h : DS w base d mb n x B) (hs : StRow w p d) (hk : keyB k = true) (hon : x.off = false) (hV : x.V (oN k) = (some (g, D)).map fileV) (ho : OkO (some (g, D))) (hfm : f + m ≤ D.length) (hT : T = ((f + m : Nat) : Int)) :
    Calls Try.prog 24 #[.pointer (some ⟨p, 0, none⟩), .string k, .int .i64 (f : Int), .int .i64 T] w fun e w' => ∃ a c, e = .returned (.tuple #[.slice a m c, .int .i64 0]) ∧ SOwn byteE 5 w' w.heap.size (.slice a m c) m ((D.drop f).take m) ∧ (∀ z ∈ (D.drop f).take m, 0 ≤ z ∧ z ≤ 255) ∧ w.grownBy w' none := by
  have HF := o_find base d mb n x B k p _ w h hs hk hV ho
  have e1 : seenO x (some (g, D)) = some (g, D) := by unfold seenO; rw [hon]; rfl
  have e2 : findE x (some (g, D)) = 0 := by
    unfold findE
    rw [hon, if_neg (by simp)]
    exact if_neg (show ¬ g = 0 by have := ho.1; dsimp only at this; omega)
  rw [e1, e2] at HF
  have hD : D.length ≤ 1048576 := ho.2.2
  obtain ⟨L, hL⟩ : ∃ L, L = D.length := ⟨_, rfl⟩
  have HF : Hid (Calls Try.prog 33 #[.pointer (some ⟨p, 0, none⟩), .string k] w fun e w' => ∃ v c, e = .returned (.tuple #[.agg #[.int .u64 (g : Int), .slice v L c], .int .i64 0]) ∧ Out w w' v L c D ∧ w.grownBy w' none) := HF.mono (fun e w' ⟨v, N, c, h1, h2, h3⟩ => by
    have hN : N = L := by rw [hL]; exact h2.1.symm
    subst hN
    exact ⟨v, c, h1, h2, h3⟩)
  have HSL : Hid (∀ (w1 : World) v c, Out w w1 v L c D → ∀ w2, w1.grownBy w2 none → Calls Try.prog 37 #[.slice (if c = f then v else v.map (·.add f)) m (c - f)] w2 fun e w' => ∃ a' c', e = .returned (.slice a' m c') ∧ SOwn byteE 5 w' w2.heap.size (.slice a' m c') m ((D.drop f).take m) ∧ w2.grownBy w' none) := fun w1 v c hO w2 hg => by
    obtain ⟨t1, t2, t3, t4, t5⟩ := hO
    refine d_cloneAny _ _ m _ w2 (rd_part (t2.grown hg (by simp)) t1 (by omega) t4) (by rw [List.length_take, List.length_drop]; omega) (by omega) (fun hn => ?_)
    cases v with
    | none => have := t3 rfl; omega
    | some y => split at hn <;> simp at hn
  have HBY : Hid (∀ (w1 : World) v c, Out w w1 v L c D → ∀ z ∈ (D.drop f).take m, 0 ≤ z ∧ z ≤ 255) := fun w1 v c hO z hz => hO.2.1.2 z (List.mem_of_mem_drop (List.mem_of_mem_take hz))
  have hsl := fun (w : World) (v : Option Addr) (c : Nat) (hc : L ≤ c) => slice_part w v L c f m (by omega)
  have q1 : decide ((f : Int) < 0) = false := by simp
  have q2' : decide (f + m < f) = false := by simp
  have q3' : decide (L < f + m) = false := by simp; omega
  have q2 : decide (((f + m : Nat) : Int) < (f : Int)) = false := by simp; omega
  have q3 : decide ((L : Int) < ((f + m : Nat) : Int)) = false := by simp; omega
  subst hT
  have hfl : f ≤ 1048576 := by omega
  obtain ⟨t, et⟩ : ∃ t, t = f + m := ⟨_, rfl⟩
  rw [← et] at hsl q2 q3 q2' q3' ⊢
  have htl : t ≤ 1048576 := by omega
  have hLl : L ≤ 1048576 := by omega
  clear h hs hk hon hV ho hfm e1 e2 hD hL et
  go_enter Try.func24, Try.ntmps24
  go_wp2_with fail
  refine HF.out.mono ?_
  rintro e w1 ⟨v, c, rfl, hO, hg⟩
  obtain ⟨W2, eW2⟩ : ∃ W2, W2 = w1.alloc (.cells #[.int .u64 (g : Int), .slice v L c] 66) := ⟨_, rfl⟩
  have hg2 : w1.grownBy W2 none := by rw [eW2]; exact World.grownBy_alloc w1 _ none
  have hp2 : ObjAt W2 w1.heap.size (.int .u64 (g : Int)) (.slice v L c) := by rw [eW2]; exact ObjAt.new _ _ _
  have d0 := hp2.c0
  have d1 := hp2.c1
  have HC := HSL.out w1 v c hO W2 hg2
  have HB : Hid (∀ z ∈ (D.drop f).take m, 0 ≤ z ∧ z ≤ 255) := HBY.out w1 v c hO
  have HG : Hid (w.grownBy W2 none) := hg.trans hg2
  have hsv := fun w => hsl w v c hO.2.2.2.1
  generalize (if c = f then v else v.map (·.add f)) = V at HC hsv
  clear HF HSL HBY hsl hO hg hg2 hp2
  go_upto_region 2 with fail
  rw [← eW2]
  clear eW2
  go_wp2_with fail
  refine HC.mono ?_
  rintro e w3 ⟨a, c', rfl, hso, hg3⟩
  have HR : Hid (SOwn byteE 5 w3 w.heap.size (.slice a m c') m ((D.drop f).take m) ∧ w.grownBy w3 none) := ⟨hso.base HG.out.size, HG.out.trans hg3⟩
  clear HC hso hg3
  go_wp2
  go_ret2
  exact ⟨a, c', rfl, HR.out.1, HB.out, HR.out.2⟩
set_option maxHeartbeats 8000000 in
theorem o_sliceNot (base d mb n : Nat) (x : DSt) (B : Nat → Prop) (k : ByteArray) (p : Nat) (g : Nat) (D : List Int) (f t : Int) (w : World) (h : DS w base d mb n x B) (hs : StRow w p d) (hk : keyB k = true) (hon : x.off = false) (hV : x.V (oN k) = (some (g, D)).map fileV) (ho : OkO (some (g, D))) (hf : 0 ≤ f) (hft : f ≤ t) (ht : (D.length : Int) < t) :
    Calls Try.prog 24 #[.pointer (some ⟨p, 0, none⟩), .string k, .int .i64 f, .int .i64 t] w fun e w' => e = .returned (.tuple #[.slice none 0 0, .int .i64 113]) ∧ w.grownBy w' none := by
  have HF := o_find base d mb n x B k p _ w h hs hk hV ho
  have e1 : seenO x (some (g, D)) = some (g, D) := by unfold seenO; rw [hon]; rfl
  have e2 : findE x (some (g, D)) = 0 := by
    unfold findE
    rw [hon, if_neg (by simp)]
    exact if_neg (show ¬ g = 0 by have := ho.1; dsimp only at this; omega)
  rw [e1, e2] at HF
  have hD : D.length ≤ 1048576 := ho.2.2
  obtain ⟨L, hL⟩ : ∃ L, L = D.length := ⟨_, rfl⟩
  have HF : Hid (Calls Try.prog 33 #[.pointer (some ⟨p, 0, none⟩), .string k] w fun e w' => ∃ v c, e = .returned (.tuple #[.agg #[.int .u64 (g : Int), .slice v L c], .int .i64 0]) ∧ w.grownBy w' none) := HF.mono (fun e w' ⟨v, N, c, h1, h2, h3⟩ => by
    have hN : N = L := by rw [hL]; exact h2.1.symm
    subst hN
    exact ⟨v, c, h1, h3⟩)
  have q1 : decide (f < 0) = false := by simp; omega
  have q2 : decide (t < f) = false := by simp; omega
  have q3 : decide ((L : Int) < t) = true := by simp; omega
  have hLl : L ≤ 1048576 := by omega
  clear h hs hk hon hV ho e1 e2 hD hL hf hft ht
  go_enter Try.func24, Try.ntmps24
  go_wp2_with fail
  refine HF.out.mono ?_
  rintro e w1 ⟨v, c, rfl, hg⟩
  have HG : Hid (w.grownBy w1 none) := hg
  clear HF hg
  go_wp2
  go_ret2
  exact ⟨rfl, HG.out.trans (World.grownBy_alloc w1 _ none)⟩
set_option maxHeartbeats 4000000 in
theorem o_delete (base d mb n : Nat) (x : DSt) (B : Nat → Prop) (k : ByteArray) (p : Nat) (o : Option (Nat × List Int)) (w : World) (h : DS w base d mb n x B) (hs : StRow w p d) (hok : x.ok) (hk : keyB k = true) (hV : x.V (oN k) = o.map fileV) (ho : OkO o) (h0 : findE x o = 0) :
    Calls Try.prog 28 #[.pointer (some ⟨p, 0, none⟩), .string k] w (Leaves w base d mb n (x.delete (oN k)) B) := by
  obtain ⟨hk1, hk2, hk3⟩ := keyB_name hk
  have HF := o_find base d mb n x B k p o w h hs hk hV ho
  rw [h0] at HF
  obtain ⟨r, er⟩ : ∃ r, r = x.delete (oN k) := ⟨_, rfl⟩
  have HD : Hid (∀ w1, w.grownBy w1 none → Calls Try.prog 39 #[.pointer (some ⟨d, 0, none⟩), .string (oN k)] w1 (Leaves w base d mb n r B)) := fun w1 hg => by
    have := x_delete base d mb n x B (oN k) w1 (DV.kept h hg) hok (name_oN hk)
    rw [← er] at this
    exact this.mono (fun e w' hL => hL.from_ hg)
  rw [← er]
  generalize genO (seenO x o) = G at HF
  generalize dataO (seenO x o) = D at HF
  have q1 : ¬ (9223372036854775807 : Nat) < 2 + k.size := by omega
  have HS : Hid (StRow w p d) := hs
  have HF : Hid (Calls Try.prog 33 #[.pointer (some ⟨p, 0, none⟩), .string k] w fun e w' => ∃ v N c, e = .returned (.tuple #[.agg #[.int .u64 (G : Int), .slice v N c], .int .i64 0]) ∧ w.grownBy w' none) := HF.mono (fun e w' ⟨v, N, c, h1, h2, h3⟩ => ⟨v, N, c, h1, h3⟩)
  clear h hs hok hk hk1 hk2 hk3 hV ho h0 er
  go_enter Try.func28, Try.ntmps28
  go_wp2_with fail
  refine HF.out.mono ?_
  rintro e w1 ⟨v, N, c, rfl, hg⟩
  obtain ⟨W2, eW2⟩ : ∃ W2, W2 = w1.alloc (.cells #[.int .u64 (G : Int), .slice v N c] 66) := ⟨_, rfl⟩
  have hg2 : w1.grownBy W2 none := by rw [eW2]; exact World.grownBy_alloc w1 _ none
  have HC := HD.out W2 (hg.trans hg2)
  have s0 := ((HS.out.grown hg).grown hg2).c0
  clear HF hg hg2 HD
  go_upto_region 2 with fail
  rw [← eW2]
  clear eW2
  go_wp2_with fail
  rw [oN_eq]
  refine HC.mono ?_
  rintro e w3 ⟨rfl, hL⟩
  have HL : Hid (∃ n' B', n' ≤ n + 1 ∧ DS w3 base d mb n' r.2 B' ∧ Step w w3 B B') := hL
  clear HC hL
  go_wp2
  go_ret
  exact ⟨rfl, HL.out⟩
set_option maxHeartbeats 4000000 in
theorem o_deleteNot (base d mb n : Nat) (x : DSt) (B : Nat → Prop) (k : ByteArray) (p : Nat) (o : Option (Nat × List Int)) (w : World) (h : DS w base d mb n x B) (hs : StRow w p d) (hk : keyB k = true) (hV : x.V (oN k) = o.map fileV) (ho : OkO o) (h0 : findE x o ≠ 0) :
    Calls Try.prog 28 #[.pointer (some ⟨p, 0, none⟩), .string k] w fun e w' => e = .returned (.int .i64 (findE x o)) ∧ w.grownBy w' none := by
  have HF := o_find base d mb n x B k p o w h hs hk hV ho
  generalize genO (seenO x o) = G at HF
  generalize dataO (seenO x o) = D at HF
  generalize findE x o = E at HF h0 ⊢
  have HF : Hid (Calls Try.prog 33 #[.pointer (some ⟨p, 0, none⟩), .string k] w fun e w' => ∃ v N c, e = .returned (.tuple #[.agg #[.int .u64 (G : Int), .slice v N c], .int .i64 E]) ∧ w.grownBy w' none) := HF.mono (fun e w' ⟨v, N, c, h1, h2, h3⟩ => ⟨v, N, c, h1, h3⟩)
  have q : (E != 0) = true := by simpa using h0
  clear h hs hk hV ho h0
  go_enter Try.func28, Try.ntmps28
  go_wp2_with fail
  refine HF.out.mono ?_
  rintro e w1 ⟨v, N, c, rfl, hg⟩
  have HG : Hid (w.grownBy w1 none) := hg
  clear HF hg
  go_wp2
  go_ret
  exact ⟨rfl, HG.out.trans (World.grownBy_alloc w1 _ none)⟩
end Go.Proofs.Ytlmddmfoodejmaa
