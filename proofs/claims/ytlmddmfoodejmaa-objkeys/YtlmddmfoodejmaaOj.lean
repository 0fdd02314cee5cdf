/- Package obj: Put, PutIf, Get. -/
import Derived.Test.YtlmddmfoodejmaaOi
namespace Go.Proofs.Ytlmddmfoodejmaa
open Go.RowKit Go.Maps
set_option linter.unusedVariables false
set_option maxRecDepth 20000

set_option maxHeartbeats 4000000 in
theorem o_putNot (k : ByteArray) (p : Nat) (a : Option Addr) (M cd : Nat) (w : World) (hk : keyB k = false) (hs : (k.size : Int) ≤ 9223372036854775807) :
    Calls Try.prog 10 #[.pointer (some ⟨p, 0, none⟩), .string k, .slice a M cd] w fun e w' => e = .returned (.tuple #[.int .u64 0, .int .i64 110]) ∧ w.grownBy w' none := by
  have HB := o_beforeNot k p a M cd w hk hs
  clear hk hs
  go_enter Try.func10, Try.ntmps10
  go_wp2_with fail
  refine HB.mono ?_
  rintro e w1 ⟨rfl, hg⟩
  have HG : Hid (w.grownBy w1 none) := hg
  clear hg HB
  go_wp2
  go_ret2
  exact ⟨rfl, HG.out.trans (World.grownBy_alloc w1 _ none)⟩
theorem repOut_from {w w1 : World} {base d mb n g : Nat} {r : Int × DSt} {B : Nat → Prop} {e : Ending} {w' : World} (hg : w.grownBy w1 none) (h : RepOut w1 base d mb n g r B e w') : RepOut w base d mb n g r B e w' := by
  obtain ⟨h1, n', B', h2, h3, h4, h5⟩ := h
  exact ⟨h1, n', B', h2, h3, (Step.grown B hg).trans h4, h5⟩
set_option maxHeartbeats 4000000 in
theorem o_put (base d mb n : Nat) (x : DSt) (B : Nat → Prop) (k : ByteArray) (p : Nat) (o : Option (Nat × List Int)) (a : Option Addr) (M cd : Nat) (dd : List Int) (w : World) (h : DS w base d mb n x B) (hs : StRow w p d) (hpB : ¬ B p) (hok : x.ok) (hw : x.wn ≤ 999999980) (hB : ∀ k, B k → k < w.heap.size) (hk : keyB k = true) (hon : x.off = false) (hT : x.V (tN k) = none) (hn : n ≤ 1000000) (hbs : base ≤ w.heap.size) (hg : genO o < 18446744073709551600) (hV : x.V (oN k) = o.map fileV) (ho : OkO o) (hr : Rd w a dd) (hM : dd.length = M) (hnil : a = none → cd = 0) (hlen : M ≤ 1048576) :
    Calls Try.prog 10 #[.pointer (some ⟨p, 0, none⟩), .string k, .slice a M cd] w (RepOut w base d mb n (genO o) (x.putW k (objB (genO o + 1) dd)) B) := by
  have HB := o_before base d mb n x B k p o a M cd w h hs hk hlen hV ho
  have e1 : seenO x o = o := by unfold seenO; rw [hon]; rfl
  rw [e1, hon] at HB
  rw [if_neg (by simp)] at HB
  obtain ⟨G, hG⟩ : ∃ G, G = genO o := ⟨_, rfl⟩
  rw [← hG] at HB hg ⊢
  obtain ⟨r, er⟩ : ∃ r, r = x.putW k (objB (G + 1) dd) := ⟨_, rfl⟩
  have HR : Hid (∀ w1 v N c, w.grownBy w1 none → Calls Try.prog 30 #[.pointer (some ⟨p, 0, none⟩), .string k, .agg #[.int .u64 (G : Int), .slice v N c], .slice a M cd] w1 (RepOut w base d mb n G r B)) := fun w1 v N c hg1 => by
    have := o_replace base d mb n x B k p G (.slice v N c) a M cd dd w1 (DV.kept h hg1) (hs.grown hg1) hpB hok hw (fun k hk => Nat.lt_of_lt_of_le (hB k hk) hg1.size) hk hon hT hn (Nat.le_trans hbs hg1.size) hg (hr.grown hg1 (by simp)) hM hnil hlen
    rw [← er] at this
    exact this.mono (fun e w' hq => repOut_from hg1 hq)
  rw [← er]
  have HB : Hid (Calls Try.prog 29 #[.pointer (some ⟨p, 0, none⟩), .string k, .slice a M cd] w fun e w' => ∃ v N c, e = .returned (.tuple #[.agg #[.int .u64 (G : Int), .slice v N c], .int .i64 0]) ∧ w.grownBy w' none) := HB.mono (fun e w' ⟨v, N, c, h1, _, h2⟩ => ⟨v, N, c, h1, h2⟩)
  clear h hs hpB hok hw hB hk hon hT hn hbs hg hV ho hr hM hnil hlen er hG e1
  go_enter Try.func10, Try.ntmps10
  go_wp2_with fail
  refine HB.out.mono ?_
  rintro e w1 ⟨v, N, c, rfl, hg⟩
  obtain ⟨W2, eW2⟩ : ∃ W2, W2 = w1.alloc (.cells #[.int .u64 (G : Int), .slice v N c] 66) := ⟨_, rfl⟩
  have hg2 : w1.grownBy W2 none := by rw [eW2]; exact World.grownBy_alloc w1 _ none
  have hp2 : ObjAt W2 w1.heap.size (.int .u64 (G : Int)) (.slice v N c) := by rw [eW2]; exact ObjAt.new _ _ _
  have d0 := hp2.c0
  have d1 := hp2.c1
  have HC := HR.out W2 v N c (hg.trans hg2)
  clear HB HR hg hg2 hp2
  go_upto_region 2 with fail
  rw [← eW2]
  clear eW2
  go_wp2_with fail
  refine HC.mono ?_
  rintro e w3 ⟨rfl, hF⟩
  have HF : Hid (∃ n' B', n' ≤ n + 4 ∧ DS w3 base d mb n' r.2 B' ∧ Step w w3 B B' ∧ ∀ k, B' k → k < w3.heap.size) := hF
  obtain ⟨Y, hY⟩ : ∃ Y, Y = (if r.1 = 0 then (G : Int) + 1 else 0) := ⟨_, rfl⟩
  have HY : Hid (Y = (if r.1 = 0 then (G : Int) + 1 else 0)) := hY
  rw [← hY]
  clear HC hF hY
  go_wp2
  go_ret2
  exact ⟨by rw [← HY.out]; rfl, HF.out⟩
set_option maxHeartbeats 4000000 in
theorem o_putIf (base d mb n : Nat) (x : DSt) (B : Nat → Prop) (k : ByteArray) (p : Nat) (o : Option (Nat × List Int)) (a : Option Addr) (M cd : Nat) (dd : List Int) (w : World) (h : DS w base d mb n x B) (hs : StRow w p d) (hpB : ¬ B p) (hok : x.ok) (hw : x.wn ≤ 999999980) (hB : ∀ k, B k → k < w.heap.size) (hk : keyB k = true) (hon : x.off = false) (hT : x.V (tN k) = none) (hn : n ≤ 1000000) (hbs : base ≤ w.heap.size) (hg : genO o < 18446744073709551600) (hV : x.V (oN k) = o.map fileV) (ho : OkO o) (hr : Rd w a dd) (hM : dd.length = M) (hnil : a = none → cd = 0) (hlen : M ≤ 1048576) (u : Int) (hu : (genO o : Int) = u) :
    Calls Try.prog 20 #[.pointer (some ⟨p, 0, none⟩), .string k, .slice a M cd, .int .u64 u] w (RepOut w base d mb n (genO o) (x.putW k (objB (genO o + 1) dd)) B) := by
  have HB := o_before base d mb n x B k p o a M cd w h hs hk hlen hV ho
  have e1 : seenO x o = o := by unfold seenO; rw [hon]; rfl
  rw [e1, hon] at HB
  rw [if_neg (by simp)] at HB
  obtain ⟨G, hG⟩ : ∃ G, G = genO o := ⟨_, rfl⟩
  rw [← hG] at HB hg hu ⊢
  subst hu
  obtain ⟨r, er⟩ : ∃ r, r = x.putW k (objB (G + 1) dd) := ⟨_, rfl⟩
  have HR : Hid (∀ w1 v N c, w.grownBy w1 none → Calls Try.prog 30 #[.pointer (some ⟨p, 0, none⟩), .string k, .agg #[.int .u64 (G : Int), .slice v N c], .slice a M cd] w1 (RepOut w base d mb n G r B)) := fun w1 v N c hg1 => by
    have := o_replace base d mb n x B k p G (.slice v N c) a M cd dd w1 (DV.kept h hg1) (hs.grown hg1) hpB hok hw (fun k hk => Nat.lt_of_lt_of_le (hB k hk) hg1.size) hk hon hT hn (Nat.le_trans hbs hg1.size) hg (hr.grown hg1 (by simp)) hM hnil hlen
    rw [← er] at this
    exact this.mono (fun e w' hq => repOut_from hg1 hq)
  rw [← er]
  have HB : Hid (Calls Try.prog 29 #[.pointer (some ⟨p, 0, none⟩), .string k, .slice a M cd] w fun e w' => ∃ v N c, e = .returned (.tuple #[.agg #[.int .u64 (G : Int), .slice v N c], .int .i64 0]) ∧ w.grownBy w' none) := HB.mono (fun e w' ⟨v, N, c, h1, _, h2⟩ => ⟨v, N, c, h1, h2⟩)
  clear h hs hpB hok hw hB hk hon hT hn hbs hg hV ho hr hM hnil hlen er hG e1
  go_enter Try.func20, Try.ntmps20
  go_wp2_with fail
  refine HB.out.mono ?_
  rintro e w1 ⟨v, N, c, rfl, hg⟩
  obtain ⟨W2, eW2⟩ : ∃ W2, W2 = w1.alloc (.cells #[.int .u64 (G : Int), .slice v N c] 66) := ⟨_, rfl⟩
  have hg2 : w1.grownBy W2 none := by rw [eW2]; exact World.grownBy_alloc w1 _ none
  have hp2 : ObjAt W2 w1.heap.size (.int .u64 (G : Int)) (.slice v N c) := by rw [eW2]; exact ObjAt.new _ _ _
  have d0 := hp2.c0
  have d1 := hp2.c1
  have HC := HR.out W2 v N c (hg.trans hg2)
  clear HB HR hg hg2 hp2
  go_upto_region 2 with fail
  rw [← eW2]
  clear eW2
  go_wp2_with fail
  refine HC.mono ?_
  rintro e w3 ⟨rfl, hF⟩
  have HF : Hid (∃ n' B', n' ≤ n + 4 ∧ DS w3 base d mb n' r.2 B' ∧ Step w w3 B B' ∧ ∀ k, B' k → k < w3.heap.size) := hF
  obtain ⟨Y, hY⟩ : ∃ Y, Y = (if r.1 = 0 then (G : Int) + 1 else 0) := ⟨_, rfl⟩
  have HY : Hid (Y = (if r.1 = 0 then (G : Int) + 1 else 0)) := hY
  rw [← hY]
  clear HC hF hY
  go_wp2
  go_ret2
  exact ⟨by rw [← HY.out]; rfl, HF.out⟩
set_option maxHeartbeats 4000000 in
theorem o_putIfNot (base d mb n : Nat) (x : DSt) (B : Nat → Prop) (k : ByteArray) (p : Nat) (o : Option (Nat × List Int)) (a : Option Addr) (M cd : Nat) (w : World) (h : DS w base d mb n x B) (hs : StRow w p d) (hk : keyB k = true) (hon : x.off = false) (hV : x.V (oN k) = o.map fileV) (ho : OkO o) (hlen : M ≤ 1048576) (u : Int) (hu : (genO o : Int) ≠ u) :
    Calls Try.prog 20 #[.pointer (some ⟨p, 0, none⟩), .string k, .slice a M cd, .int .u64 u] w fun e w' => e = .returned (.tuple #[.int .u64 (genO o : Int), .int .i64 112]) ∧ w.grownBy w' none := by
  have HB := o_before base d mb n x B k p o a M cd w h hs hk hlen hV ho
  have e1 : seenO x o = o := by unfold seenO; rw [hon]; rfl
  rw [e1, hon] at HB
  rw [if_neg (by simp)] at HB
  obtain ⟨G, hG⟩ : ∃ G, G = genO o := ⟨_, rfl⟩
  rw [← hG] at HB hu ⊢
  have HB : Hid (Calls Try.prog 29 #[.pointer (some ⟨p, 0, none⟩), .string k, .slice a M cd] w fun e w' => ∃ v N c, e = .returned (.tuple #[.agg #[.int .u64 (G : Int), .slice v N c], .int .i64 0]) ∧ w.grownBy w' none) := HB.mono (fun e w' ⟨v, N, c, h1, _, h2⟩ => ⟨v, N, c, h1, h2⟩)
  have q1 : ((G : Int) != u) = true := by simpa using hu
  clear h hs hk hon hV ho hlen hG e1 hu
  go_enter Try.func20, Try.ntmps20
  go_wp2_with fail
  refine HB.out.mono ?_
  rintro e w1 ⟨v, N, c, rfl, hg⟩
  have HG : Hid (w.grownBy w1 none) := hg
  clear hg HB
  go_wp2
  go_ret2
  exact ⟨rfl, HG.out.trans (World.grownBy_alloc w1 _ none)⟩
set_option maxHeartbeats 4000000 in
theorem o_get (base d mb n : Nat) (x : DSt) (B : Nat → Prop) (k : ByteArray) (p : Nat) (o : Option (Nat × List Int)) (w : World) (h : DS w base d mb n x B) (hs : StRow w p d) (hk : keyB k = true) (hV : x.V (oN k) = o.map fileV) (ho : OkO o) :
    Calls Try.prog 16 #[.pointer (some ⟨p, 0, none⟩), .string k] w fun e w' => ∃ v N c, e = .returned (.tuple #[.slice v N c, .int .u64 (genO (seenO x o) : Int), .int .i64 (findE x o)]) ∧ Out w w' v N c (dataO (seenO x o)) ∧ w.grownBy w' none := by
  have HF := o_find base d mb n x B k p o w h hs hk hV ho
  generalize genO (seenO x o) = G at HF ⊢
  generalize dataO (seenO x o) = D at HF ⊢
  generalize findE x o = E at HF ⊢
  clear h hs hk hV ho
  go_enter Try.func16, Try.ntmps16
  go_wp2_with fail
  refine HF.mono ?_
  rintro e w1 ⟨v, N, c, rfl, hO, hg⟩
  obtain ⟨W2, eW2⟩ : ∃ W2, W2 = w1.alloc (.cells #[.int .u64 (G : Int), .slice v N c] 66) := ⟨_, rfl⟩
  have hg2 : w1.grownBy W2 none := by rw [eW2]; exact World.grownBy_alloc w1 _ none
  have hp2 : ObjAt W2 w1.heap.size (.int .u64 (G : Int)) (.slice v N c) := by rw [eW2]; exact ObjAt.new _ _ _
  have d0 := hp2.c0
  have d1 := hp2.c1
  have HO : Hid (Out w W2 v N c D) := by
    obtain ⟨t1, t2, t3, t4, t5⟩ := hO
    exact ⟨t1, t2.grown hg2 (by simp), t3, t4, t5⟩
  have HG : Hid (w.grownBy W2 none) := hg.trans hg2
  clear HF hg hg2 hp2 hO
  go_upto_region 2 with fail
  rw [← eW2]
  clear eW2
  go_quiet (fail)
  go_wp2
  go_ret3
  exact ⟨v, N, c, rfl, ⟨HO.out.1, HO.out.2.1.drewN _, HO.out.2.2⟩, HG.out.trans (gb_drewN _ _)⟩
end Go.Proofs.Ytlmddmfoodejmaa
