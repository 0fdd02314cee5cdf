/- The row of closures. -/
import Derived.Test.YthkalbiglfgleaaLc
import Derived.Deep.CutRange
import Derived.Deep.Cut
namespace Go.Proofs.Ythkalbiglfgleaa
set_option maxRecDepth 20000
open Go.RowKit
set_option linter.unusedVariables false

abbrev smpV (la : Option Addr) (L lc : Nat) (T V : Int) : Value := .agg #[.slice la L lc, .int .i64 T, .int .u64 V]
theorem g_q1 (la : Option Addr) (ls : List Lab) (L lc lb : Nat) (T V m : Int) (w : World) (hx : SRd labE w la ls) (hL : ls.length = L) (hz : L ≤ 4398046511104) (hm : w.cell? ⟨lb, 1, none⟩ = some (.int .i64 m)) :
    Calls Try.prog 25 #[smpV la L lc T V, .pointer (some ⟨lb, 0, none⟩)] w fun e w' => e = .returned (.bool (fitB ls m)) ∧ w.grownBy w' none := by
  have HC : Hid (∀ w1, w.grownBy w1 none → Calls Try.prog 26 #[.slice la L lc, .int .i64 m] w1 fun e w' => e = .returned (.bool (fitB ls m)) ∧ w1.grownBy w' none) := fun w1 hg => g_fit la ls L lc m _ w1 (hx.grown hg (by simp)) hL hz rfl
  have HG : Hid (w.grownBy (w.alloc (.cells #[.slice la L lc, .int .i64 T, .int .u64 V] 37)) none) := World.grownBy_alloc w _ none
  have c1 : (w.alloc (.cells #[.slice la L lc, .int .i64 T, .int .u64 V] 37)).cell? ⟨lb, 1, none⟩ = some (.int .i64 m) := HG.out.cell hm (by simp)
  generalize fitB ls m = R at HC ⊢
  clear hx hL hm
  go_enter Try.func25, Try.ntmps25
  go_wp2_with (go_at_call 26; refine (HC.out _ HG.out).mono ?_; rintro e w1 ⟨rfl, hg1⟩)
  go_ret
  exact ⟨rfl, HG.out.trans hg1⟩
theorem g_q2 (la : Option Addr) (L lc : Nat) (T V : Int) (w : World) :
    Calls Try.prog 27 #[smpV la L lc T V] w fun e w' => e = .returned (.bool (timeB T)) ∧ w.grownBy w' none := by
  have HC : Hid (∀ w1, Calls Try.prog 28 #[.int .i64 T] w1 fun e w' => e = .returned (.bool (timeB T)) ∧ w1 = w') := fun w1 => g_inTime T _ w1 rfl
  generalize timeB T = R at HC ⊢
  go_enter Try.func27, Try.ntmps27
  go_wp2_with (go_at_call 28; refine (HC.out _).mono ?_; rintro e w1 ⟨rfl, rfl⟩)
  go_ret
  exact ⟨rfl, World.grownBy_alloc w _ none⟩
set_option maxHeartbeats 400000 in
theorem g_ask1 (la : Option Addr) (ls : List Lab) (L lc rb eb lb : Nat) (T V m E : Int) (w : World) (hx : SRd labE w la ls) (hL : ls.length = L) (hz : L ≤ 4398046511104)
    (hr : w.cell? ⟨rb, 0, none⟩ = some (.func (.func 25) #[] #[.pointer (some ⟨lb, 0, none⟩)])) (he : w.cell? ⟨eb, 0, none⟩ = some (.int .i64 E)) (hm : w.cell? ⟨lb, 1, none⟩ = some (.int .i64 m)) :
    Calls Try.prog 32 #[smpV la L lc T V, .pointer (some ⟨rb, 0, none⟩), .pointer (some ⟨eb, 0, none⟩)] w fun e w' => e = .returned (.int .i64 (if fitB ls m then 0 else E)) ∧ w.grownBy w' none := by
  have HC : Hid (∀ w1, w.grownBy w1 none → Calls Try.prog 25 #[smpV la L lc T V, .pointer (some ⟨lb, 0, none⟩)] w1 fun e w' => e = .returned (.bool (fitB ls m)) ∧ w1.grownBy w' none) := fun w1 hg => g_q1 la ls L lc lb T V m w1 (hx.grown hg (by simp)) hL hz (hg.cell hm (by simp))
  obtain ⟨W, hW⟩ : ∃ W, W = w.alloc (.cells #[.slice la L lc, .int .i64 T, .int .u64 V] 37) := ⟨_, rfl⟩
  have HG : Hid (w.grownBy W none) := hW ▸ World.grownBy_alloc w _ none
  have c1 : (w.alloc (.cells #[.slice la L lc, .int .i64 T, .int .u64 V] 37)).cell? ⟨rb, 0, none⟩ = _ := hW ▸ HG.out.cell hr (by simp)
  have HE : Hid (W.cell? ⟨eb, 0, none⟩ = some (.int .i64 E)) := HG.out.cell he (by simp)
  have HW : Hid (W = w.alloc (.cells #[.slice la L lc, .int .i64 T, .int .u64 V] 37)) := hW
  generalize fitB ls m = R at HC ⊢
  clear hx hL hm hr he hW
  cases R with
  | true =>
    go_enter Try.func32, Try.ntmps32
    go_wp2_with (go_at_call 25; rw [← HW.out]; refine (HC.out _ HG.out).mono ?_; rintro e w1 ⟨rfl, hg1⟩)
    go_ret
    exact ⟨rfl, HG.out.trans hg1⟩
  | false =>
    go_enter Try.func32, Try.ntmps32
    go_wp2_with (go_at_call 25; rw [← HW.out]; refine (HC.out _ HG.out).mono ?_; rintro e w1 ⟨rfl, hg1⟩; have c2 : w1.cell? ⟨eb, 0, none⟩ = some (.int .i64 E) := hg1.cell HE.out (by simp))
    go_ret
    exact ⟨rfl, HG.out.trans hg1⟩
set_option maxHeartbeats 400000 in
theorem g_ask2 (la : Option Addr) (L lc rb eb : Nat) (T V E : Int) (w : World)
    (hr : w.cell? ⟨rb, 0, none⟩ = some (.func (.func 27) #[] #[])) (he : w.cell? ⟨eb, 0, none⟩ = some (.int .i64 E)) :
    Calls Try.prog 32 #[smpV la L lc T V, .pointer (some ⟨rb, 0, none⟩), .pointer (some ⟨eb, 0, none⟩)] w fun e w' => e = .returned (.int .i64 (if timeB T then 0 else E)) ∧ w.grownBy w' none := by
  have HC : Hid (∀ w1, Calls Try.prog 27 #[smpV la L lc T V] w1 fun e w' => e = .returned (.bool (timeB T)) ∧ w1.grownBy w' none) := fun w1 => g_q2 la L lc T V w1
  obtain ⟨W, hW⟩ : ∃ W, W = w.alloc (.cells #[.slice la L lc, .int .i64 T, .int .u64 V] 37) := ⟨_, rfl⟩
  have HG : Hid (w.grownBy W none) := hW ▸ World.grownBy_alloc w _ none
  have c1 : (w.alloc (.cells #[.slice la L lc, .int .i64 T, .int .u64 V] 37)).cell? ⟨rb, 0, none⟩ = _ := hW ▸ HG.out.cell hr (by simp)
  have HE : Hid (W.cell? ⟨eb, 0, none⟩ = some (.int .i64 E)) := HG.out.cell he (by simp)
  have HW : Hid (W = w.alloc (.cells #[.slice la L lc, .int .i64 T, .int .u64 V] 37)) := hW
  generalize timeB T = R at HC ⊢
  clear hr he hW
  cases R with
  | true =>
    go_enter Try.func32, Try.ntmps32
    go_wp2_with (go_at_call 27; rw [← HW.out]; refine (HC.out _).mono ?_; rintro e w1 ⟨rfl, hg1⟩)
    go_ret
    exact ⟨rfl, HG.out.trans hg1⟩
  | false =>
    go_enter Try.func32, Try.ntmps32
    go_wp2_with (go_at_call 27; rw [← HW.out]; refine (HC.out _).mono ?_; rintro e w1 ⟨rfl, hg1⟩; have c2 : w1.cell? ⟨eb, 0, none⟩ = some (.int .i64 E) := hg1.cell HE.out (by simp))
    go_ret
    exact ⟨rfl, HG.out.trans hg1⟩
/-- unless. -/
theorem g_unless (f : Fn) (ms cs : Array Value) (E : Int) (w : World) :
    Calls Try.prog 24 #[.func f ms cs, .int .i64 E] w fun e w' => ∃ r x, e = .returned (.func (.func 32) #[] #[.pointer (some ⟨r, 0, none⟩), .pointer (some ⟨x, 0, none⟩)]) ∧ w'.cell? ⟨r, 0, none⟩ = some (.func f ms cs) ∧ w'.cell? ⟨x, 0, none⟩ = some (.int .i64 E) ∧ w.grownBy w' none := by
  go_enter Try.func24, Try.ntmps24
  go_wp2
  go_ret
  refine ⟨w.heap.size, w.heap.size + 1, rfl, ?_, ?_, (World.grownBy_alloc w _ none).trans (World.grownBy_alloc _ _ none)⟩
  · refine (World.grownBy_alloc (w.alloc (.cells #[.func f ms cs] 54)) _ none).cell ?_ (by simp)
    rw [cell_of_row _ w.heap.size 0 _ _ _ (heap_alloc_new w _)]
    rfl
  · have hs : (w.alloc (.cells #[.func f ms cs] 54)).heap.size = w.heap.size + 1 := Array.size_push _
    rw [← hs, cell_of_row _ _ 0 _ _ _ (heap_alloc_new (w.alloc (.cells #[.func f ms cs] 54)) _)]
    rfl
/-- The questions, as they lie. -/
def Asked (w : World) (g : Nat) (m : Int) : Prop := ∃ r1 x1 r2 x2 lb : Nat,
  w.cell? ⟨g, 0, none⟩ = some (.func (.func 32) #[] #[.pointer (some ⟨r1, 0, none⟩), .pointer (some ⟨x1, 0, none⟩)]) ∧
  w.cell? ⟨g, 1, none⟩ = some (.func (.func 32) #[] #[.pointer (some ⟨r2, 0, none⟩), .pointer (some ⟨x2, 0, none⟩)]) ∧
  w.cell? ⟨r1, 0, none⟩ = some (.func (.func 25) #[] #[.pointer (some ⟨lb, 0, none⟩)]) ∧ w.cell? ⟨x1, 0, none⟩ = some (.int .i64 152) ∧
  w.cell? ⟨r2, 0, none⟩ = some (.func (.func 27) #[] #[]) ∧ w.cell? ⟨x2, 0, none⟩ = some (.int .i64 153) ∧
  w.cell? ⟨lb, 1, none⟩ = some (.int .i64 m)
theorem Asked.grown {w w' : World} {g : Nat} {m : Int} (h : Asked w g m) (hg : w.grownBy w' none) : Asked w' g m := by
  obtain ⟨r1, x1, r2, x2, lb, h1, h2, h3, h4, h5, h6, h7⟩ := h
  exact ⟨r1, x1, r2, x2, lb, hg.cell h1 (by simp), hg.cell h2 (by simp), hg.cell h3 (by simp), hg.cell h4 (by simp), hg.cell h5 (by simp), hg.cell h6 (by simp), hg.cell h7 (by simp)⟩
abbrev limV (S m P : Int) (H : Bool) : Value := .agg #[.int .i64 S, .int .i64 m, .int .i64 P, .bool H]
set_option maxHeartbeats 400000 in
theorem g_questions (S m P : Int) (H : Bool) (w : World) :
    Calls Try.prog 18 #[limV S m P H] w fun e w' => ∃ g, e = .returned (.slice (some ⟨g, 0, none⟩) 2 2) ∧ Asked w' g m ∧ w.grownBy w' none := by
  obtain ⟨W, hW⟩ : ∃ W, W = w.alloc (.cells #[.int .i64 S, .int .i64 m, .int .i64 P, .bool H] 24) := ⟨_, rfl⟩
  have HG : Hid (w.grownBy W none) := hW ▸ World.grownBy_alloc w _ none
  have HM : Hid (W.cell? ⟨w.heap.size, 1, none⟩ = some (.int .i64 m)) := by
    show _ = _
    rw [hW, cell_of_row _ w.heap.size 1 _ _ _ (heap_alloc_new w _)]
    rfl
  have HW : Hid (W = w.alloc (.cells #[.int .i64 S, .int .i64 m, .int .i64 P, .bool H] 24)) := hW
  have HU : Hid (∀ f ms cs E w, Calls Try.prog 24 #[.func f ms cs, .int .i64 E] w fun e w' => ∃ r x, e = .returned (.func (.func 32) #[] #[.pointer (some ⟨r, 0, none⟩), .pointer (some ⟨x, 0, none⟩)]) ∧ w'.cell? ⟨r, 0, none⟩ = some (.func f ms cs) ∧ w'.cell? ⟨x, 0, none⟩ = some (.int .i64 E) ∧ w.grownBy w' none) := g_unless
  clear hW
  go_enter Try.func18, Try.ntmps18
  go_wp2_with fail
  rw [← HW.out]
  refine (HU.out _ _ _ _ _).mono ?_
  rintro e w1 ⟨r1, x1, rfl, c1, c2, g1⟩
  have H1 : Hid (W.grownBy w1 none ∧ w1.cell? ⟨r1, 0, none⟩ = some (.func (.func 25) #[] #[.pointer (some ⟨w.heap.size, 0, none⟩)]) ∧ w1.cell? ⟨x1, 0, none⟩ = some (.int .i64 152)) := ⟨g1, c1, c2⟩
  clear c1 c2 g1
  go_wp2_with fail
  refine (HU.out _ _ _ _ _).mono ?_
  rintro e w2 ⟨r2, x2, rfl, c1, c2, g1⟩
  have H2 : Hid (w1.grownBy w2 none ∧ w2.cell? ⟨r2, 0, none⟩ = some (.func (.func 27) #[] #[]) ∧ w2.cell? ⟨x2, 0, none⟩ = some (.int .i64 153)) := ⟨g1, c1, c2⟩
  clear c1 c2 g1
  go_wp2
  go_ret
  obtain ⟨k1, k2, k3⟩ := H1.out
  obtain ⟨k4, k5, k6⟩ := H2.out
  have k7 := World.grownBy_alloc w2 (.cells #[.func (.func 32) #[] #[.pointer (some ⟨r1, 0, none⟩), .pointer (some ⟨x1, 0, none⟩)], .func (.func 32) #[] #[.pointer (some ⟨r2, 0, none⟩), .pointer (some ⟨x2, 0, none⟩)]] 51) none
  refine ⟨w2.heap.size, rfl, ⟨r1, x1, r2, x2, w.heap.size, ?_, ?_, k7.cell (k4.cell k2 (by simp)) (by simp), k7.cell (k4.cell k3 (by simp)) (by simp), k7.cell k5 (by simp), k7.cell k6 (by simp), k7.cell (k4.cell (k1.cell HM.out (by simp)) (by simp)) (by simp)⟩, ((HG.out.trans k1).trans k4).trans k7⟩
  · rw [cell_of_row _ w2.heap.size 0 _ _ _ (heap_alloc_new w2 _)]; rfl
  · rw [cell_of_row _ w2.heap.size 1 _ _ _ (heap_alloc_new w2 _)]; rfl
/-- What is wrong with a sample. -/
def wrongR (m : Int) (ls : List Lab) (T : Int) : Int := if fitB ls m = true then (if timeB T = true then 0 else 153) else 152
set_option maxHeartbeats 1000000 in
theorem g_wrong (la : Option Addr) (ls : List Lab) (L lc g : Nat) (T V m : Int) (w : World) (hx : SRd labE w la ls) (hL : ls.length = L) (hz : L ≤ 4398046511104) (ha : Asked w g m) :
    Calls Try.prog 19 #[smpV la L lc T V, .slice (some ⟨g, 0, none⟩) 2 2] w fun e w' => e = .returned (.int .i64 (wrongR m ls T)) ∧ w.grownBy w' none := by
  obtain ⟨W, hW⟩ : ∃ W, W = w.alloc (.cells #[.slice la L lc, .int .i64 T, .int .u64 V] 37) := ⟨_, rfl⟩
  have HG : Hid (w.grownBy W none) := hW ▸ World.grownBy_alloc w _ none
  have HB : Hid (W.cell? ⟨w.heap.size, 0, none⟩ = some (.slice la L lc) ∧ W.cell? ⟨w.heap.size, 1, none⟩ = some (.int .i64 T) ∧ W.cell? ⟨w.heap.size, 2, none⟩ = some (.int .u64 V)) := by
    rw [hW]
    refine ⟨?_, ?_, ?_⟩
    · rw [cell_of_row _ w.heap.size 0 _ _ _ (heap_alloc_new w _)]; rfl
    · rw [cell_of_row _ w.heap.size 1 _ _ _ (heap_alloc_new w _)]; rfl
    · rw [cell_of_row _ w.heap.size 2 _ _ _ (heap_alloc_new w _)]; rfl
  obtain ⟨r1, x1, r2, x2, lb, h1, h2, h3, h4, h5, h6, h7⟩ := ha.grown HG.out
  have HX := hx.grown HG.out (by simp)
  have HA1 : Hid (∀ w1, W.grownBy w1 none → Calls Try.prog 32 #[smpV la L lc T V, .pointer (some ⟨r1, 0, none⟩), .pointer (some ⟨x1, 0, none⟩)] w1 fun e w' => e = .returned (.int .i64 (if fitB ls m then 0 else 152)) ∧ w1.grownBy w' none) := fun w1 hg => g_ask1 la ls L lc r1 x1 lb T V m 152 w1 (HX.grown hg (by simp)) hL hz (hg.cell h3 (by simp)) (hg.cell h4 (by simp)) (hg.cell h7 (by simp))
  have HA2 : Hid (∀ w1, W.grownBy w1 none → Calls Try.prog 32 #[smpV la L lc T V, .pointer (some ⟨r2, 0, none⟩), .pointer (some ⟨x2, 0, none⟩)] w1 fun e w' => e = .returned (.int .i64 (if timeB T then 0 else 153)) ∧ w1.grownBy w' none) := fun w1 hg => g_ask2 la L lc r2 x2 T V 153 w1 (hg.cell h5 (by simp)) (hg.cell h6 (by simp))
  have HW : Hid (w.alloc (.cells #[.slice la L lc, .int .i64 T, .int .u64 V] 37) = W) := hW.symm
  have HR : Hid (wrongR m ls T = if fitB ls m = true then (if timeB T = true then 0 else 153) else 152) := rfl
  generalize wrongR m ls T = R at HR ⊢
  generalize fitB ls m = b1 at HA1 HR
  generalize timeB T = b2 at HA2 HR
  clear hx hL hW h3 h4 h5 h6 h7 HX ha
  have HF : Hid (W.cell? ⟨g, 0, none⟩ = some (.func (.func 32) #[] #[.pointer (some ⟨r1, 0, none⟩), .pointer (some ⟨x1, 0, none⟩)]) ∧ W.cell? ⟨g, 1, none⟩ = some (.func (.func 32) #[] #[.pointer (some ⟨r2, 0, none⟩), .pointer (some ⟨x2, 0, none⟩)])) := ⟨h1, h2⟩
  clear h1 h2
  go_enter Try.func19, Try.ntmps19
  go_upto_region 1 with fail
  rw [HW.out]
  obtain ⟨d0, d1, d2⟩ := HB.out
  obtain ⟨f0, f1⟩ := HF.out
  go_wp2_with fail
  refine wp_loop_rounds 3 ?_
  rw [rounds_succ]
  cases b1 with
  | false =>
    have hs : (152 : Int) = R := by have h := HR.out; simpa using h.symm
    have HS : Hid ((152 : Int) = R) := hs
    clear hs
    go_wp2_with (go_at_call 32; refine (HA1.out _ (World.grownBy.refl _ _)).mono ?_; rintro e w1 ⟨rfl, hg1⟩)
    go_ret
    exact ⟨ret_int HS.out, HG.out.trans hg1⟩
  | true =>
    go_wp2_with fail
    refine (HA1.out _ (World.grownBy.refl _ _)).mono ?_
    rintro e w1 ⟨rfl, hg1⟩
    have H1 : Hid (W.grownBy w1 none) := hg1
    replace d0 := hg1.cell d0 (by simp)
    replace d1 := hg1.cell d1 (by simp)
    replace d2 := hg1.cell d2 (by simp)
    replace f0 := hg1.cell f0 (by simp)
    replace f1 := hg1.cell f1 (by simp)
    clear hg1
    go_wp2
    rw [rounds_succ]
    cases b2 with
    | false =>
      have hs : (153 : Int) = R := by have h := HR.out; simpa using h.symm
      have HS : Hid ((153 : Int) = R) := hs
      clear hs
      go_wp2_with (go_at_call 32; refine (HA2.out _ H1.out).mono ?_; rintro e w2 ⟨rfl, hg2⟩)
      go_ret
      exact ⟨ret_int HS.out, (HG.out.trans H1.out).trans hg2⟩
    | true =>
      have hs : (0 : Int) = R := by have h := HR.out; simpa using h.symm
      have HS : Hid ((0 : Int) = R) := hs
      clear hs
      go_wp2_with (go_at_call 32; refine (HA2.out _ H1.out).mono ?_; rintro e w2 ⟨rfl, hg2⟩; have H2 : Hid (w1.grownBy w2 none) := hg2; clear hg2)
      rw [rounds_succ]
      go_wp2
      go_ret
      exact ⟨ret_int HS.out, (HG.out.trans H1.out).trans H2.out⟩
end Go.Proofs.Ythkalbiglfgleaa
