/- Several texts in one: Ro0, Ro1, Ro2, Ro3. -/
import Derived.Test.YtboamjhlaehoaaaGreatMy
/- Rings: Join, Activate, Leave, Gone. -/
namespace Go.Proofs.YtboamjhlaehoaaaGreat
open Go.RowKit
set_option linter.unusedVariables false
set_option maxRecDepth 20000

theorem results_row_tmp {fn : Func} {p u : Tmp} {ty : TypeId} (h : fn.results = #[.cell p ty, .tmp u]) (tmps : Array Value) (P : Program) (w : World) (g : Nat) (t : TypeId) (cs : Array Value) (fr : Nat × Nat) (F : Array Field)
    (hp : tmps.getD p undef = .pointer (some ⟨g, 0, none⟩)) (hg : w.heap[g]? = some (.cells cs t fr))
    (hu : P.underlying ty = some (.struct F)) (hi : (P.info? ty).map (·.size) = some cs.size) :
    (results fn tmps).run P w = .ok (.tuple #[.agg cs, tmps.getD u undef]) w := by
  rw [results_cell_tmp h, hp]
  simp [asAddr, Result.andThen, run_loadVar_row w g t ty cs fr (.struct F) hg hu rfl hi]
/-- What a change says, with all that is asked ahead of it. -/
def chgE (k : Nat) (E : Int) (ms : List Mem) (id : Int) : Int := if ringOk ms = true ∧ E ≠ 18446744073709551615 ∧ idOk id = true then chgC k ms id else 130
/-- What a change answers. -/
def RgOut (k : Nat) (E : Int) (ms : List Mem) (id : Int) (w : World) (e : Ending) (w' : World) : Prop :=
  ∃ E' a' n' c', e = .returned (.tuple #[.agg #[.int .u64 E', .slice a' n' c'], .int .i64 (chgE k E ms id)]) ∧ w.grownBy w' none ∧
    (chgE k E ms id = 0 → E' = E + 1 ∧ n' = (chgM k ms id).length ∧ ∃ raw', MsOwn w' w.heap.size (.slice a' n' c') (chgM k ms id) raw') ∧
    (chgE k E ms id ≠ 0 → E' = 0 ∧ a' = none ∧ n' = 0 ∧ c' = 0)
/-- The boxes that a call lays: a ring that came in, a ring that is answered. -/
structure B2 (w : World) (N : Nat) (E : Int) (V : Value) (E' : Int) (V' : Value) : Prop where
  arg : w.heap[N]? = some (.cells #[.int .u64 E, V] 25 (0, 0))
  res : w.heap[N + 1]? = some (.cells #[.int .u64 E', V'] 25 (0, 0))
theorem B2.made (w : World) (E : Int) (V : Value) : B2 ((w.alloc (.cells #[.int .u64 E, V] 25)).alloc (.cells #[.int .u64 0, .slice none 0 0] 25)) w.heap.size E V 0 (.slice none 0 0) := by
  have s1 := size_alloc w (.cells #[.int .u64 E, V] 25)
  have g2 := World.grownBy_alloc (w.alloc (.cells #[.int .u64 E, V] 25)) (.cells #[.int .u64 0, .slice none 0 0] 25) none
  refine ⟨?_, ?_⟩
  · rw [g2.block _ (by omega) (by simp)]; exact heap_alloc_new w _
  · rw [← s1]; exact heap_alloc_new _ _
theorem B2.lt {w : World} {N : Nat} {E E' : Int} {V V' : Value} (h : B2 w N E V E' V') : N + 1 < w.heap.size := (Array.getElem?_eq_some_iff.1 h.res).1
theorem B2.ab {w w' : World} {N base : Nat} {E E' : Int} {V V' : Value} (h : B2 w N E V E' V') (hg : Ab base w w') (hb : N + 1 < base) : B2 w' N E V E' V' :=
  ⟨by rw [hg.block N (by omega) (by have := h.lt; omega)]; exact h.arg, by rw [hg.block (N + 1) hb h.lt]; exact h.res⟩
theorem B2.grown {w w' : World} {N : Nat} {E E' : Int} {V V' : Value} (h : B2 w N E V E' V') (hg : w.grownBy w' none) : B2 w' N E V E' V' :=
  ⟨by rw [hg.block N (by have := h.lt; omega) (by simp)]; exact h.arg, by rw [hg.block (N + 1) h.lt (by simp)]; exact h.res⟩
theorem B2.set {w : World} {N : Nat} {E E' : Int} {V V' : Value} (h : B2 w N E V E' V') (E2 : Int) (V2 : Value) : ((w.setCell ⟨N + 1, 0, none⟩ (.int .u64 E2)).setCell ⟨N + 1, 1, none⟩ V2).heap[N + 1]? = some (.cells #[.int .u64 E2, V2] 25 (0, 0)) := pair_set h.res _ _
theorem B2.gset (w : World) (N : Nat) (E2 : Int) (V2 : Value) : w.grownBy ((w.setCell ⟨N + 1, 0, none⟩ (.int .u64 E2)).setCell ⟨N + 1, 1, none⟩ V2) (some (N + 1)) := gb_trans (gb_set (g := N + 1) rfl) (gb_set (g := N + 1) rfl) (fun k hk => .inr hk)
set_option maxHeartbeats 4000000 in
theorem g_changed0 (E : Int) (ms : List Mem) (raw : List MRow) (id : Int) (a : Option Addr) (n c : Nat) (w : World) (hr : MsRd w a ms raw) (hn : ms.length = n) (hnil : a = none → c = 0) (hE : 0 ≤ E ∧ E ≤ 18446744073709551615) (hz : n ≤ 3518437208800) (hz2 : ∀ s ∈ ms, s.2.2.length ≤ 35184372088832) :
    Calls Tryz.prog 39 #[.agg #[.int .u64 E, .slice a n c], .int .i64 id, .func (.func 40) #[] #[]] w fun e w' => RgOut 0 E ms id w e w' := by
  have HN : Hid (ms.length = n) := hn
  have HB0 : Hid (B2 ((w.alloc (.cells #[.int .u64 E, .slice a n c] 25)).alloc (.cells #[.int .u64 0, .slice none 0 0] 25)) w.heap.size E (.slice a n c) 0 (.slice none 0 0)) := B2.made w E _
  have HG0 : Hid (w.grownBy ((w.alloc (.cells #[.int .u64 E, .slice a n c] 25)).alloc (.cells #[.int .u64 0, .slice none 0 0] 25)) none) := (World.grownBy_alloc _ _ none).trans (World.grownBy_alloc _ _ none)
  have HM : Hid (∀ w1, w.grownBy w1 none → Calls Tryz.prog 44 #[.agg #[.int .u64 E, .slice a n c]] w1 fun e w' => e = .returned (.bool (ringOk ms)) ∧ w1.grownBy w' none) := fun w1 hg => g_mayBe E a raw ms n c w1 (hr.grown hg) hn (by omega) hz2
  have HI : Hid (∀ w1, Calls Tryz.prog 62 #[.int .i64 id] w1 fun e w' => e = .returned (.bool (idOk id)) ∧ w' = w1) := fun w1 => g_isID id w1
  unfold RgOut
  cases ho : ringOk ms with
  | false =>
    have HE : Hid (chgE 0 E ms id = 130) := by show _ = _; simp [chgE, ho]
    rw [ho] at HM
    clear hr hn hz2 hz ho hnil
    go_enter Tryz.func39, Tryz.ntmps39
    go_wp2_with fail
    generalize ((w.alloc (.cells #[.int .u64 E, .slice a n c] 25)).alloc (.cells #[.int .u64 0, .slice none 0 0] 25)) = W at HB0 HG0 ⊢
    refine (HM.out W HG0.out).mono ?_
    rintro e w1 ⟨rfl, hg1⟩
    have HB1 : Hid (B2 w1 w.heap.size E (.slice a n c) 0 (.slice none 0 0)) := HB0.out.grown hg1
    have HG1 : Hid (w.grownBy w1 none) := HG0.out.trans hg1
    obtain ⟨p0, p1⟩ := cell2 HB1.out.arg
    obtain ⟨r0, r1⟩ := cell2 HB1.out.res
    have f0 := free_row HB1.out.res 0
    have f1 := free_row HB1.out.res 1
    clear hg1
    go_wp2
    refine bodyPost_ret (v := .tuple #[.agg #[.int .u64 0, .slice none 0 0], .int .i64 (130)]) (results_row_tmp Tryz.results39 _ _ _ (w.heap.size + 1) 25 _ (0, 0) _ rfl (HB1.out.set 0 (.slice none 0 0)) Tryz.underlying25 isz25) rfl ?_
    exact ⟨0, none, 0, 0, by rw [HE.out], gb_trans HG1.out (B2.gset w1 w.heap.size 0 _) (fun k hk => .inl (by cases hk; omega)), fun e => absurd e (by rw [HE.out]; decide), fun _ => ⟨rfl, rfl, rfl, rfl⟩⟩
  | true =>
    by_cases h1 : E = 18446744073709551615
    · have HE : Hid (chgE 0 E ms id = 130) := by show _ = _; simp [chgE, h1]
      have hb : (E == 18446744073709551615) = true := by simp [h1]
      rw [ho] at HM
      clear hr hn hz2 hz ho hnil h1 hE
      go_enter Tryz.func39, Tryz.ntmps39
      go_wp2_with fail
      generalize ((w.alloc (.cells #[.int .u64 E, .slice a n c] 25)).alloc (.cells #[.int .u64 0, .slice none 0 0] 25)) = W at HB0 HG0 ⊢
      refine (HM.out W HG0.out).mono ?_
      rintro e w1 ⟨rfl, hg1⟩
      have HB1 : Hid (B2 w1 w.heap.size E (.slice a n c) 0 (.slice none 0 0)) := HB0.out.grown hg1
      have HG1 : Hid (w.grownBy w1 none) := HG0.out.trans hg1
      obtain ⟨p0, p1⟩ := cell2 HB1.out.arg
      obtain ⟨r0, r1⟩ := cell2 HB1.out.res
      have f0 := free_row HB1.out.res 0
      have f1 := free_row HB1.out.res 1
      clear hg1
      go_wp2
      refine bodyPost_ret (v := .tuple #[.agg #[.int .u64 0, .slice none 0 0], .int .i64 (130)]) (results_row_tmp Tryz.results39 _ _ _ (w.heap.size + 1) 25 _ (0, 0) _ rfl (HB1.out.set 0 (.slice none 0 0)) Tryz.underlying25 isz25) rfl ?_
      exact ⟨0, none, 0, 0, by rw [HE.out], gb_trans HG1.out (B2.gset w1 w.heap.size 0 _) (fun k hk => .inl (by cases hk; omega)), fun e => absurd e (by rw [HE.out]; decide), fun _ => ⟨rfl, rfl, rfl, rfl⟩⟩
    · have hb : (E == 18446744073709551615) = false := by simp [h1]
      cases hi : idOk id with
      | false =>
        have HE : Hid (chgE 0 E ms id = 130) := by show _ = _; simp [chgE, hi]
        rw [ho] at HM
        rw [hi] at HI
        clear hr hn hz2 hz ho hnil h1 hi hE
        go_enter Tryz.func39, Tryz.ntmps39
        go_wp2_with fail
        generalize ((w.alloc (.cells #[.int .u64 E, .slice a n c] 25)).alloc (.cells #[.int .u64 0, .slice none 0 0] 25)) = W at HB0 HG0 ⊢
        refine (HM.out W HG0.out).mono ?_
        rintro e w1 ⟨rfl, hg1⟩
        have HB1 : Hid (B2 w1 w.heap.size E (.slice a n c) 0 (.slice none 0 0)) := HB0.out.grown hg1
        have HG1 : Hid (w.grownBy w1 none) := HG0.out.trans hg1
        obtain ⟨p0, p1⟩ := cell2 HB1.out.arg
        obtain ⟨r0, r1⟩ := cell2 HB1.out.res
        have f0 := free_row HB1.out.res 0
        have f1 := free_row HB1.out.res 1
        clear hg1
        go_wp2_with (go_at_call 62; refine (HI.out _).mono ?_; rintro e w9 ⟨rfl, e9⟩; rw [e9]; clear e9)
        refine bodyPost_ret (v := .tuple #[.agg #[.int .u64 0, .slice none 0 0], .int .i64 (130)]) (results_row_tmp Tryz.results39 _ _ _ (w.heap.size + 1) 25 _ (0, 0) _ rfl (HB1.out.set 0 (.slice none 0 0)) Tryz.underlying25 isz25) rfl ?_
        exact ⟨0, none, 0, 0, by rw [HE.out], gb_trans HG1.out (B2.gset w1 w.heap.size 0 _) (fun k hk => .inl (by cases hk; omega)), fun e => absurd e (by rw [HE.out]; decide), fun _ => ⟨rfl, rfl, rfl, rfl⟩⟩
      | true =>
        have HE : Hid (chgE 0 E ms id = chgC 0 ms id) := by show _ = _; simp [chgE, ho, h1, hi]
        have hlen := ringOk_len ho
        have HCP : Hid (∀ w1, w.grownBy w1 none → Calls Tryz.prog 63 #[.slice a n c] w1 fun e w' => ∃ a' c' raw', e = .returned (.slice a' n c') ∧ MsOwn w' w1.heap.size (.slice a' n c') ms raw' ∧ w1.grownBy w' none) := fun w1 hg => g_copied a raw ms n c w1 (hr.grown hg) hn hnil (by omega) hz2
        have HCH : Hid (∀ w1 a1 c1 raw1 base, MsOwn w1 base (.slice a1 n c1) ms raw1 → base ≤ w1.heap.size → Calls Tryz.prog 40 #[.slice a1 n c1, .int .i64 id] w1 fun e w' => ChgOut 0 ms id base w1 e w') := fun w1 a1 c1 raw1 base h1 h2 => g_chg0 ms raw1 id a1 n c1 base w1 h1 hn (by omega) (ringOk_rise ho) h2
        rw [ho] at HM
        rw [hi] at HI
        have HE1 : Hid (0 ≤ E ∧ E < 18446744073709551615) := by show _ ∧ _; omega
        have hwE : IntKind.u64.wrap (E + 1) = E + 1 := by
          have : IntKind.u64.wrap (E + 1) = (E + 1) % 18446744073709551616 := by simp [IntKind.wrap, IntKind.bits, IntKind.signed]
          omega
        clear hr hn hz2 hz ho hnil h1 hi hlen hE
        rw [HE.out]
        go_enter Tryz.func39, Tryz.ntmps39
        go_wp2_with fail
        generalize ((w.alloc (.cells #[.int .u64 E, .slice a n c] 25)).alloc (.cells #[.int .u64 0, .slice none 0 0] 25)) = W at HB0 HG0 ⊢
        refine (HM.out W HG0.out).mono ?_
        rintro e w1 ⟨rfl, hg1⟩
        have HB1 : Hid (B2 w1 w.heap.size E (.slice a n c) 0 (.slice none 0 0)) := HB0.out.grown hg1
        have HG1 : Hid (w.grownBy w1 none) := HG0.out.trans hg1
        obtain ⟨p0, p1⟩ := cell2 HB1.out.arg
        obtain ⟨r0, r1⟩ := cell2 HB1.out.res
        have f0 := free_row HB1.out.res 0
        have f1 := free_row HB1.out.res 1
        clear hg1
        go_wp2_with (first | (go_at_call 62; refine (HI.out _).mono ?_; rintro e w9 ⟨rfl, e9⟩; rw [e9]; clear e9) | fail)
        refine (HCP.out w1 HG1.out).mono ?_
        rintro e w2 ⟨a2, c2, raw2, rfl, ho2, hg2⟩
        have HG2 : Hid (w.grownBy w2 none) := HG1.out.trans hg2
        have HB2 : Hid (B2 w2 w.heap.size E (.slice a n c) 0 (.slice none 0 0)) := HB1.out.grown hg2
        have HW1 : Hid (w.heap.size + 1 < w1.heap.size) := HB1.out.lt
        have HC2 := HCH.out w2 a2 c2 raw2 w1.heap.size ho2 hg2.size
        clear ho2 hg2 p0 p1 r0 r1 f0 f1
        go_wp2_with fail
        refine HC2.mono ?_
        rintro e w3 ⟨a3, n3, c3, raw3, rfl, h3, hab⟩
        have HB1 : Hid (B2 w3 w.heap.size E (.slice a n c) 0 (.slice none 0 0)) := HB2.out.ab hab HW1.out
        have HG3 : Hid (w.grownBy w3 none) := hab.gb HG2.out (by have := HW1.out; omega)
        have H3 : Hid (chgC 0 ms id = 0 → n3 = (chgM 0 ms id).length ∧ MsOwn w3 w1.heap.size (.slice a3 n3 c3) (chgM 0 ms id) raw3) := h3
        obtain ⟨p0, p1⟩ := cell2 HB1.out.arg
        obtain ⟨r0, r1⟩ := cell2 HB1.out.res
        have f0 := free_row HB1.out.res 0
        have f1 := free_row HB1.out.res 1
        clear h3 hab
        by_cases h0 : chgC 0 ms id = 0
        · have hq : (chgC 0 ms id != 0) = false := by simp [h0]
          have HZ : Hid (chgC 0 ms id = 0) := h0
          clear h0
          go_wp2
          refine bodyPost_ret (v := .tuple #[.agg #[.int .u64 (E + 1), .slice a3 n3 c3], .int .i64 0]) (results_row_tmp Tryz.results39 _ _ _ (w.heap.size + 1) 25 _ (0, 0) _ rfl (HB1.out.set (E + 1) (.slice a3 n3 c3)) Tryz.underlying25 isz25) rfl ?_
          have gs := B2.gset w3 w.heap.size (E + 1) (.slice a3 n3 c3)
          obtain ⟨e1, e2⟩ := H3.out HZ.out
          refine ⟨E + 1, a3, n3, c3, by rw [HZ.out], gb_trans HG3.out gs (fun k hk => .inl (by cases hk; omega)), fun _ => ⟨rfl, e1, raw3, (e2.kept gs (fun k hk => by cases hk; exact .inl HW1.out)).base (by have := HW1.out; omega)⟩, fun e => absurd HZ.out e⟩
        · have hq : (chgC 0 ms id != 0) = true := by simp [h0]
          have HZ : Hid (¬ chgC 0 ms id = 0) := h0
          clear h0
          go_wp2
          refine bodyPost_ret (v := .tuple #[.agg #[.int .u64 0, .slice none 0 0], .int .i64 (chgC 0 ms id)]) (results_row_tmp Tryz.results39 _ _ _ (w.heap.size + 1) 25 _ (0, 0) _ rfl (HB1.out.set 0 (.slice none 0 0)) Tryz.underlying25 isz25) rfl ?_
          exact ⟨0, none, 0, 0, rfl, gb_trans HG3.out (B2.gset w3 w.heap.size 0 _) (fun k hk => .inl (by cases hk; omega)), fun e => absurd e HZ.out, fun _ => ⟨rfl, rfl, rfl, rfl⟩⟩
set_option maxHeartbeats 2000000 in
theorem f_chg0 (E : Int) (ms : List Mem) (raw : List MRow) (id : Int) (a : Option Addr) (n c : Nat) (w : World) (hr : MsRd w a ms raw) (hn : ms.length = n) (hnil : a = none → c = 0) (hE : 0 ≤ E ∧ E ≤ 18446744073709551615) (hz : n ≤ 3518437208800) (hz2 : ∀ s ∈ ms, s.2.2.length ≤ 35184372088832) :
    Calls Tryz.prog 10 #[.agg #[.int .u64 E, .slice a n c], .int .i64 id] w fun e w' => RgOut 0 E ms id w e w' := by
  have HB0 : Hid (B2 ((w.alloc (.cells #[.int .u64 E, .slice a n c] 25)).alloc (.cells #[.int .u64 0, .slice none 0 0] 25)) w.heap.size E (.slice a n c) 0 (.slice none 0 0)) := B2.made w E _
  have g0 : w.grownBy ((w.alloc (.cells #[.int .u64 E, .slice a n c] 25)).alloc (.cells #[.int .u64 0, .slice none 0 0] 25)) none := (World.grownBy_alloc _ _ none).trans (World.grownBy_alloc _ _ none)
  have HC := g_changed0 E ms raw id a n c _ (hr.grown g0) hn hnil hE hz hz2
  have HG0 : Hid (w.grownBy ((w.alloc (.cells #[.int .u64 E, .slice a n c] 25)).alloc (.cells #[.int .u64 0, .slice none 0 0] 25)) none) := g0
  clear hr hn hz hz2 g0 hE hnil
  unfold RgOut at HC ⊢
  generalize chgE 0 E ms id = q at HC ⊢
  go_enter Tryz.func10, Tryz.ntmps10
  go_wp2_with fail
  generalize ((w.alloc (.cells #[.int .u64 E, .slice a n c] 25)).alloc (.cells #[.int .u64 0, .slice none 0 0] 25)) = W at HB0 HG0 HC ⊢
  refine HC.mono ?_
  rintro e w1 ⟨E', a', n', c', rfl, hg1, h1, h2⟩
  have HB1 : Hid (B2 w1 w.heap.size E (.slice a n c) 0 (.slice none 0 0)) := HB0.out.grown hg1
  have HG1 : Hid (w.grownBy w1 none) := HG0.out.trans hg1
  have HWS : Hid (w.heap.size + 1 < W.heap.size) := HB0.out.lt
  have H1 : Hid (q = 0 → E' = E + 1 ∧ n' = (chgM 0 ms id).length ∧ ∃ raw', MsOwn w1 W.heap.size (.slice a' n' c') (chgM 0 ms id) raw') := h1
  have H2 : Hid (q ≠ 0 → E' = 0 ∧ a' = none ∧ n' = 0 ∧ c' = 0) := h2
  obtain ⟨r0, r1⟩ := cell2 HB1.out.res
  have f0 := free_row HB1.out.res 0
  have f1 := free_row HB1.out.res 1
  clear hg1 h1 h2
  go_wp2
  refine bodyPost_ret (v := .tuple #[.agg #[.int .u64 E', .slice a' n' c'], .int .i64 q]) (results_row_tmp Tryz.results10 _ _ _ (w.heap.size + 1) 25 _ (0, 0) _ rfl (HB1.out.set E' (.slice a' n' c')) Tryz.underlying25 isz25) rfl ?_
  have gs := B2.gset w1 w.heap.size E' (.slice a' n' c')
  refine ⟨E', a', n', c', rfl, gb_trans HG1.out gs (fun k hk => .inl (by cases hk; omega)), fun e => ?_, H2.out⟩
  obtain ⟨e1, e2, raw', e3⟩ := H1.out e
  exact ⟨e1, e2, raw', (e3.kept gs (fun k hk => by cases hk; exact .inl HWS.out)).base (by have := HWS.out; omega)⟩
end Go.Proofs.YtboamjhlaehoaaaGreat

/- Rings: the changes. -/
namespace Go.Proofs.YtboamjhlaehoaaaGreat
open Go.RowKit
set_option linter.unusedVariables false
set_option maxRecDepth 20000
set_option maxHeartbeats 4000000 in
theorem g_changed1 (E : Int) (ms : List Mem) (raw : List MRow) (id : Int) (a : Option Addr) (n c : Nat) (w : World) (hr : MsRd w a ms raw) (hn : ms.length = n) (hnil : a = none → c = 0) (hE : 0 ≤ E ∧ E ≤ 18446744073709551615) (hz : n ≤ 3518437208800) (hz2 : ∀ s ∈ ms, s.2.2.length ≤ 35184372088832) :
    Calls Tryz.prog 39 #[.agg #[.int .u64 E, .slice a n c], .int .i64 id, .func (.func 41) #[] #[]] w fun e w' => RgOut 1 E ms id w e w' := by
  have HN : Hid (ms.length = n) := hn
  have HB0 : Hid (B2 ((w.alloc (.cells #[.int .u64 E, .slice a n c] 25)).alloc (.cells #[.int .u64 0, .slice none 0 0] 25)) w.heap.size E (.slice a n c) 0 (.slice none 0 0)) := B2.made w E _
  have HG0 : Hid (w.grownBy ((w.alloc (.cells #[.int .u64 E, .slice a n c] 25)).alloc (.cells #[.int .u64 0, .slice none 0 0] 25)) none) := (World.grownBy_alloc _ _ none).trans (World.grownBy_alloc _ _ none)
  have HM : Hid (∀ w1, w.grownBy w1 none → Calls Tryz.prog 44 #[.agg #[.int .u64 E, .slice a n c]] w1 fun e w' => e = .returned (.bool (ringOk ms)) ∧ w1.grownBy w' none) := fun w1 hg => g_mayBe E a raw ms n c w1 (hr.grown hg) hn (by omega) hz2
  have HI : Hid (∀ w1, Calls Tryz.prog 62 #[.int .i64 id] w1 fun e w' => e = .returned (.bool (idOk id)) ∧ w' = w1) := fun w1 => g_isID id w1
  unfold RgOut
  cases ho : ringOk ms with
  | false =>
    have HE : Hid (chgE 1 E ms id = 130) := by show _ = _; simp [chgE, ho]
    rw [ho] at HM
    clear hr hn hz2 hz ho hnil
    go_enter Tryz.func39, Tryz.ntmps39
    go_wp2_with fail
    generalize ((w.alloc (.cells #[.int .u64 E, .slice a n c] 25)).alloc (.cells #[.int .u64 0, .slice none 0 0] 25)) = W at HB0 HG0 ⊢
    refine (HM.out W HG0.out).mono ?_
    rintro e w1 ⟨rfl, hg1⟩
    have HB1 : Hid (B2 w1 w.heap.size E (.slice a n c) 0 (.slice none 0 0)) := HB0.out.grown hg1
    have HG1 : Hid (w.grownBy w1 none) := HG0.out.trans hg1
    obtain ⟨p0, p1⟩ := cell2 HB1.out.arg
    obtain ⟨r0, r1⟩ := cell2 HB1.out.res
    have f0 := free_row HB1.out.res 0
    have f1 := free_row HB1.out.res 1
    clear hg1
    go_wp2
    refine bodyPost_ret (v := .tuple #[.agg #[.int .u64 0, .slice none 0 0], .int .i64 (130)]) (results_row_tmp Tryz.results39 _ _ _ (w.heap.size + 1) 25 _ (0, 0) _ rfl (HB1.out.set 0 (.slice none 0 0)) Tryz.underlying25 isz25) rfl ?_
    exact ⟨0, none, 0, 0, by rw [HE.out], gb_trans HG1.out (B2.gset w1 w.heap.size 0 _) (fun k hk => .inl (by cases hk; omega)), fun e => absurd e (by rw [HE.out]; decide), fun _ => ⟨rfl, rfl, rfl, rfl⟩⟩
  | true =>
    by_cases h1 : E = 18446744073709551615
    · have HE : Hid (chgE 1 E ms id = 130) := by show _ = _; simp [chgE, h1]
      have hb : (E == 18446744073709551615) = true := by simp [h1]
      rw [ho] at HM
      clear hr hn hz2 hz ho hnil h1 hE
      go_enter Tryz.func39, Tryz.ntmps39
      go_wp2_with fail
      generalize ((w.alloc (.cells #[.int .u64 E, .slice a n c] 25)).alloc (.cells #[.int .u64 0, .slice none 0 0] 25)) = W at HB0 HG0 ⊢
      refine (HM.out W HG0.out).mono ?_
      rintro e w1 ⟨rfl, hg1⟩
      have HB1 : Hid (B2 w1 w.heap.size E (.slice a n c) 0 (.slice none 0 0)) := HB0.out.grown hg1
      have HG1 : Hid (w.grownBy w1 none) := HG0.out.trans hg1
      obtain ⟨p0, p1⟩ := cell2 HB1.out.arg
      obtain ⟨r0, r1⟩ := cell2 HB1.out.res
      have f0 := free_row HB1.out.res 0
      have f1 := free_row HB1.out.res 1
      clear hg1
      go_wp2
      refine bodyPost_ret (v := .tuple #[.agg #[.int .u64 0, .slice none 0 0], .int .i64 (130)]) (results_row_tmp Tryz.results39 _ _ _ (w.heap.size + 1) 25 _ (0, 0) _ rfl (HB1.out.set 0 (.slice none 0 0)) Tryz.underlying25 isz25) rfl ?_
      exact ⟨0, none, 0, 0, by rw [HE.out], gb_trans HG1.out (B2.gset w1 w.heap.size 0 _) (fun k hk => .inl (by cases hk; omega)), fun e => absurd e (by rw [HE.out]; decide), fun _ => ⟨rfl, rfl, rfl, rfl⟩⟩
    · have hb : (E == 18446744073709551615) = false := by simp [h1]
      cases hi : idOk id with
      | false =>
        have HE : Hid (chgE 1 E ms id = 130) := by show _ = _; simp [chgE, hi]
        rw [ho] at HM
        rw [hi] at HI
        clear hr hn hz2 hz ho hnil h1 hi hE
        go_enter Tryz.func39, Tryz.ntmps39
        go_wp2_with fail
        generalize ((w.alloc (.cells #[.int .u64 E, .slice a n c] 25)).alloc (.cells #[.int .u64 0, .slice none 0 0] 25)) = W at HB0 HG0 ⊢
        refine (HM.out W HG0.out).mono ?_
        rintro e w1 ⟨rfl, hg1⟩
        have HB1 : Hid (B2 w1 w.heap.size E (.slice a n c) 0 (.slice none 0 0)) := HB0.out.grown hg1
        have HG1 : Hid (w.grownBy w1 none) := HG0.out.trans hg1
        obtain ⟨p0, p1⟩ := cell2 HB1.out.arg
        obtain ⟨r0, r1⟩ := cell2 HB1.out.res
        have f0 := free_row HB1.out.res 0
        have f1 := free_row HB1.out.res 1
        clear hg1
        go_wp2_with (go_at_call 62; refine (HI.out _).mono ?_; rintro e w9 ⟨rfl, e9⟩; rw [e9]; clear e9)
        refine bodyPost_ret (v := .tuple #[.agg #[.int .u64 0, .slice none 0 0], .int .i64 (130)]) (results_row_tmp Tryz.results39 _ _ _ (w.heap.size + 1) 25 _ (0, 0) _ rfl (HB1.out.set 0 (.slice none 0 0)) Tryz.underlying25 isz25) rfl ?_
        exact ⟨0, none, 0, 0, by rw [HE.out], gb_trans HG1.out (B2.gset w1 w.heap.size 0 _) (fun k hk => .inl (by cases hk; omega)), fun e => absurd e (by rw [HE.out]; decide), fun _ => ⟨rfl, rfl, rfl, rfl⟩⟩
      | true =>
        have HE : Hid (chgE 1 E ms id = chgC 1 ms id) := by show _ = _; simp [chgE, ho, h1, hi]
        have hlen := ringOk_len ho
        have HCP : Hid (∀ w1, w.grownBy w1 none → Calls Tryz.prog 63 #[.slice a n c] w1 fun e w' => ∃ a' c' raw', e = .returned (.slice a' n c') ∧ MsOwn w' w1.heap.size (.slice a' n c') ms raw' ∧ w1.grownBy w' none) := fun w1 hg => g_copied a raw ms n c w1 (hr.grown hg) hn hnil (by omega) hz2
        have HCH : Hid (∀ w1 a1 c1 raw1 base, MsOwn w1 base (.slice a1 n c1) ms raw1 → base ≤ w1.heap.size → Calls Tryz.prog 41 #[.slice a1 n c1, .int .i64 id] w1 fun e w' => ChgOut 1 ms id base w1 e w') := fun w1 a1 c1 raw1 base h1 h2 => g_chg1 ms raw1 id a1 n c1 base w1 h1 hn (by omega) (ringOk_rise ho) h2
        rw [ho] at HM
        rw [hi] at HI
        have HE1 : Hid (0 ≤ E ∧ E < 18446744073709551615) := by show _ ∧ _; omega
        have hwE : IntKind.u64.wrap (E + 1) = E + 1 := by
          have : IntKind.u64.wrap (E + 1) = (E + 1) % 18446744073709551616 := by simp [IntKind.wrap, IntKind.bits, IntKind.signed]
          omega
        clear hr hn hz2 hz ho hnil h1 hi hlen hE
        rw [HE.out]
        go_enter Tryz.func39, Tryz.ntmps39
        go_wp2_with fail
        generalize ((w.alloc (.cells #[.int .u64 E, .slice a n c] 25)).alloc (.cells #[.int .u64 0, .slice none 0 0] 25)) = W at HB0 HG0 ⊢
        refine (HM.out W HG0.out).mono ?_
        rintro e w1 ⟨rfl, hg1⟩
        have HB1 : Hid (B2 w1 w.heap.size E (.slice a n c) 0 (.slice none 0 0)) := HB0.out.grown hg1
        have HG1 : Hid (w.grownBy w1 none) := HG0.out.trans hg1
        obtain ⟨p0, p1⟩ := cell2 HB1.out.arg
        obtain ⟨r0, r1⟩ := cell2 HB1.out.res
        have f0 := free_row HB1.out.res 0
        have f1 := free_row HB1.out.res 1
        clear hg1
        go_wp2_with (first | (go_at_call 62; refine (HI.out _).mono ?_; rintro e w9 ⟨rfl, e9⟩; rw [e9]; clear e9) | fail)
        refine (HCP.out w1 HG1.out).mono ?_
        rintro e w2 ⟨a2, c2, raw2, rfl, ho2, hg2⟩
        have HG2 : Hid (w.grownBy w2 none) := HG1.out.trans hg2
        have HB2 : Hid (B2 w2 w.heap.size E (.slice a n c) 0 (.slice none 0 0)) := HB1.out.grown hg2
        have HW1 : Hid (w.heap.size + 1 < w1.heap.size) := HB1.out.lt
        have HC2 := HCH.out w2 a2 c2 raw2 w1.heap.size ho2 hg2.size
        clear ho2 hg2 p0 p1 r0 r1 f0 f1
        go_wp2_with fail
        refine HC2.mono ?_
        rintro e w3 ⟨a3, n3, c3, raw3, rfl, h3, hab⟩
        have HB1 : Hid (B2 w3 w.heap.size E (.slice a n c) 0 (.slice none 0 0)) := HB2.out.ab hab HW1.out
        have HG3 : Hid (w.grownBy w3 none) := hab.gb HG2.out (by have := HW1.out; omega)
        have H3 : Hid (chgC 1 ms id = 0 → n3 = (chgM 1 ms id).length ∧ MsOwn w3 w1.heap.size (.slice a3 n3 c3) (chgM 1 ms id) raw3) := h3
        obtain ⟨p0, p1⟩ := cell2 HB1.out.arg
        obtain ⟨r0, r1⟩ := cell2 HB1.out.res
        have f0 := free_row HB1.out.res 0
        have f1 := free_row HB1.out.res 1
        clear h3 hab
        by_cases h0 : chgC 1 ms id = 0
        · have hq : (chgC 1 ms id != 0) = false := by simp [h0]
          have HZ : Hid (chgC 1 ms id = 0) := h0
          clear h0
          go_wp2
          refine bodyPost_ret (v := .tuple #[.agg #[.int .u64 (E + 1), .slice a3 n3 c3], .int .i64 0]) (results_row_tmp Tryz.results39 _ _ _ (w.heap.size + 1) 25 _ (0, 0) _ rfl (HB1.out.set (E + 1) (.slice a3 n3 c3)) Tryz.underlying25 isz25) rfl ?_
          have gs := B2.gset w3 w.heap.size (E + 1) (.slice a3 n3 c3)
          obtain ⟨e1, e2⟩ := H3.out HZ.out
          refine ⟨E + 1, a3, n3, c3, by rw [HZ.out], gb_trans HG3.out gs (fun k hk => .inl (by cases hk; omega)), fun _ => ⟨rfl, e1, raw3, (e2.kept gs (fun k hk => by cases hk; exact .inl HW1.out)).base (by have := HW1.out; omega)⟩, fun e => absurd HZ.out e⟩
        · have hq : (chgC 1 ms id != 0) = true := by simp [h0]
          have HZ : Hid (¬ chgC 1 ms id = 0) := h0
          clear h0
          go_wp2
          refine bodyPost_ret (v := .tuple #[.agg #[.int .u64 0, .slice none 0 0], .int .i64 (chgC 1 ms id)]) (results_row_tmp Tryz.results39 _ _ _ (w.heap.size + 1) 25 _ (0, 0) _ rfl (HB1.out.set 0 (.slice none 0 0)) Tryz.underlying25 isz25) rfl ?_
          exact ⟨0, none, 0, 0, rfl, gb_trans HG3.out (B2.gset w3 w.heap.size 0 _) (fun k hk => .inl (by cases hk; omega)), fun e => absurd e HZ.out, fun _ => ⟨rfl, rfl, rfl, rfl⟩⟩
set_option maxHeartbeats 2000000 in
theorem f_chg1 (E : Int) (ms : List Mem) (raw : List MRow) (id : Int) (a : Option Addr) (n c : Nat) (w : World) (hr : MsRd w a ms raw) (hn : ms.length = n) (hnil : a = none → c = 0) (hE : 0 ≤ E ∧ E ≤ 18446744073709551615) (hz : n ≤ 3518437208800) (hz2 : ∀ s ∈ ms, s.2.2.length ≤ 35184372088832) :
    Calls Tryz.prog 11 #[.agg #[.int .u64 E, .slice a n c], .int .i64 id] w fun e w' => RgOut 1 E ms id w e w' := by
  have HB0 : Hid (B2 ((w.alloc (.cells #[.int .u64 E, .slice a n c] 25)).alloc (.cells #[.int .u64 0, .slice none 0 0] 25)) w.heap.size E (.slice a n c) 0 (.slice none 0 0)) := B2.made w E _
  have g0 : w.grownBy ((w.alloc (.cells #[.int .u64 E, .slice a n c] 25)).alloc (.cells #[.int .u64 0, .slice none 0 0] 25)) none := (World.grownBy_alloc _ _ none).trans (World.grownBy_alloc _ _ none)
  have HC := g_changed1 E ms raw id a n c _ (hr.grown g0) hn hnil hE hz hz2
  have HG0 : Hid (w.grownBy ((w.alloc (.cells #[.int .u64 E, .slice a n c] 25)).alloc (.cells #[.int .u64 0, .slice none 0 0] 25)) none) := g0
  clear hr hn hz hz2 g0 hE hnil
  unfold RgOut at HC ⊢
  generalize chgE 1 E ms id = q at HC ⊢
  go_enter Tryz.func11, Tryz.ntmps11
  go_wp2_with fail
  generalize ((w.alloc (.cells #[.int .u64 E, .slice a n c] 25)).alloc (.cells #[.int .u64 0, .slice none 0 0] 25)) = W at HB0 HG0 HC ⊢
  refine HC.mono ?_
  rintro e w1 ⟨E', a', n', c', rfl, hg1, h1, h2⟩
  have HB1 : Hid (B2 w1 w.heap.size E (.slice a n c) 0 (.slice none 0 0)) := HB0.out.grown hg1
  have HG1 : Hid (w.grownBy w1 none) := HG0.out.trans hg1
  have HWS : Hid (w.heap.size + 1 < W.heap.size) := HB0.out.lt
  have H1 : Hid (q = 0 → E' = E + 1 ∧ n' = (chgM 1 ms id).length ∧ ∃ raw', MsOwn w1 W.heap.size (.slice a' n' c') (chgM 1 ms id) raw') := h1
  have H2 : Hid (q ≠ 0 → E' = 0 ∧ a' = none ∧ n' = 0 ∧ c' = 0) := h2
  obtain ⟨r0, r1⟩ := cell2 HB1.out.res
  have f0 := free_row HB1.out.res 0
  have f1 := free_row HB1.out.res 1
  clear hg1 h1 h2
  go_wp2
  refine bodyPost_ret (v := .tuple #[.agg #[.int .u64 E', .slice a' n' c'], .int .i64 q]) (results_row_tmp Tryz.results11 _ _ _ (w.heap.size + 1) 25 _ (0, 0) _ rfl (HB1.out.set E' (.slice a' n' c')) Tryz.underlying25 isz25) rfl ?_
  have gs := B2.gset w1 w.heap.size E' (.slice a' n' c')
  refine ⟨E', a', n', c', rfl, gb_trans HG1.out gs (fun k hk => .inl (by cases hk; omega)), fun e => ?_, H2.out⟩
  obtain ⟨e1, e2, raw', e3⟩ := H1.out e
  exact ⟨e1, e2, raw', (e3.kept gs (fun k hk => by cases hk; exact .inl HWS.out)).base (by have := HWS.out; omega)⟩
end Go.Proofs.YtboamjhlaehoaaaGreat

/- Rings: the changes. -/
namespace Go.Proofs.YtboamjhlaehoaaaGreat
open Go.RowKit
set_option linter.unusedVariables false
set_option maxRecDepth 20000
set_option maxHeartbeats 4000000 in
theorem g_changed2 (E : Int) (ms : List Mem) (raw : List MRow) (id : Int) (a : Option Addr) (n c : Nat) (w : World) (hr : MsRd w a ms raw) (hn : ms.length = n) (hnil : a = none → c = 0) (hE : 0 ≤ E ∧ E ≤ 18446744073709551615) (hz : n ≤ 3518437208800) (hz2 : ∀ s ∈ ms, s.2.2.length ≤ 35184372088832) :
    Calls Tryz.prog 39 #[.agg #[.int .u64 E, .slice a n c], .int .i64 id, .func (.func 42) #[] #[]] w fun e w' => RgOut 2 E ms id w e w' := by
  have HN : Hid (ms.length = n) := hn
  have HB0 : Hid (B2 ((w.alloc (.cells #[.int .u64 E, .slice a n c] 25)).alloc (.cells #[.int .u64 0, .slice none 0 0] 25)) w.heap.size E (.slice a n c) 0 (.slice none 0 0)) := B2.made w E _
  have HG0 : Hid (w.grownBy ((w.alloc (.cells #[.int .u64 E, .slice a n c] 25)).alloc (.cells #[.int .u64 0, .slice none 0 0] 25)) none) := (World.grownBy_alloc _ _ none).trans (World.grownBy_alloc _ _ none)
  have HM : Hid (∀ w1, w.grownBy w1 none → Calls Tryz.prog 44 #[.agg #[.int .u64 E, .slice a n c]] w1 fun e w' => e = .returned (.bool (ringOk ms)) ∧ w1.grownBy w' none) := fun w1 hg => g_mayBe E a raw ms n c w1 (hr.grown hg) hn (by omega) hz2
  have HI : Hid (∀ w1, Calls Tryz.prog 62 #[.int .i64 id] w1 fun e w' => e = .returned (.bool (idOk id)) ∧ w' = w1) := fun w1 => g_isID id w1
  unfold RgOut
  cases ho : ringOk ms with
  | false =>
    have HE : Hid (chgE 2 E ms id = 130) := by show _ = _; simp [chgE, ho]
    rw [ho] at HM
    clear hr hn hz2 hz ho hnil
    go_enter Tryz.func39, Tryz.ntmps39
    go_wp2_with fail
    generalize ((w.alloc (.cells #[.int .u64 E, .slice a n c] 25)).alloc (.cells #[.int .u64 0, .slice none 0 0] 25)) = W at HB0 HG0 ⊢
    refine (HM.out W HG0.out).mono ?_
    rintro e w1 ⟨rfl, hg1⟩
    have HB1 : Hid (B2 w1 w.heap.size E (.slice a n c) 0 (.slice none 0 0)) := HB0.out.grown hg1
    have HG1 : Hid (w.grownBy w1 none) := HG0.out.trans hg1
    obtain ⟨p0, p1⟩ := cell2 HB1.out.arg
    obtain ⟨r0, r1⟩ := cell2 HB1.out.res
    have f0 := free_row HB1.out.res 0
    have f1 := free_row HB1.out.res 1
    clear hg1
    go_wp2
    refine bodyPost_ret (v := .tuple #[.agg #[.int .u64 0, .slice none 0 0], .int .i64 (130)]) (results_row_tmp Tryz.results39 _ _ _ (w.heap.size + 1) 25 _ (0, 0) _ rfl (HB1.out.set 0 (.slice none 0 0)) Tryz.underlying25 isz25) rfl ?_
    exact ⟨0, none, 0, 0, by rw [HE.out], gb_trans HG1.out (B2.gset w1 w.heap.size 0 _) (fun k hk => .inl (by cases hk; omega)), fun e => absurd e (by rw [HE.out]; decide), fun _ => ⟨rfl, rfl, rfl, rfl⟩⟩
  | true =>
    by_cases h1 : E = 18446744073709551615
    · have HE : Hid (chgE 2 E ms id = 130) := by show _ = _; simp [chgE, h1]
      have hb : (E == 18446744073709551615) = true := by simp [h1]
      rw [ho] at HM
      clear hr hn hz2 hz ho hnil h1 hE
      go_enter Tryz.func39, Tryz.ntmps39
      go_wp2_with fail
      generalize ((w.alloc (.cells #[.int .u64 E, .slice a n c] 25)).alloc (.cells #[.int .u64 0, .slice none 0 0] 25)) = W at HB0 HG0 ⊢
      refine (HM.out W HG0.out).mono ?_
      rintro e w1 ⟨rfl, hg1⟩
      have HB1 : Hid (B2 w1 w.heap.size E (.slice a n c) 0 (.slice none 0 0)) := HB0.out.grown hg1
      have HG1 : Hid (w.grownBy w1 none) := HG0.out.trans hg1
      obtain ⟨p0, p1⟩ := cell2 HB1.out.arg
      obtain ⟨r0, r1⟩ := cell2 HB1.out.res
      have f0 := free_row HB1.out.res 0
      have f1 := free_row HB1.out.res 1
      clear hg1
      go_wp2
      refine bodyPost_ret (v := .tuple #[.agg #[.int .u64 0, .slice none 0 0], .int .i64 (130)]) (results_row_tmp Tryz.results39 _ _ _ (w.heap.size + 1) 25 _ (0, 0) _ rfl (HB1.out.set 0 (.slice none 0 0)) Tryz.underlying25 isz25) rfl ?_
      exact ⟨0, none, 0, 0, by rw [HE.out], gb_trans HG1.out (B2.gset w1 w.heap.size 0 _) (fun k hk => .inl (by cases hk; omega)), fun e => absurd e (by rw [HE.out]; decide), fun _ => ⟨rfl, rfl, rfl, rfl⟩⟩
    · have hb : (E == 18446744073709551615) = false := by simp [h1]
      cases hi : idOk id with
      | false =>
        have HE : Hid (chgE 2 E ms id = 130) := by show _ = _; simp [chgE, hi]
        rw [ho] at HM
        rw [hi] at HI
        clear hr hn hz2 hz ho hnil h1 hi hE
        go_enter Tryz.func39, Tryz.ntmps39
        go_wp2_with fail
        generalize ((w.alloc (.cells #[.int .u64 E, .slice a n c] 25)).alloc (.cells #[.int .u64 0, .slice none 0 0] 25)) = W at HB0 HG0 ⊢
        refine (HM.out W HG0.out).mono ?_
        rintro e w1 ⟨rfl, hg1⟩
        have HB1 : Hid (B2 w1 w.heap.size E (.slice a n c) 0 (.slice none 0 0)) := HB0.out.grown hg1
        have HG1 : Hid (w.grownBy w1 none) := HG0.out.trans hg1
        obtain ⟨p0, p1⟩ := cell2 HB1.out.arg
        obtain ⟨r0, r1⟩ := cell2 HB1.out.res
        have f0 := free_row HB1.out.res 0
        have f1 := free_row HB1.out.res 1
        clear hg1
        go_wp2_with (go_at_call 62; refine (HI.out _).mono ?_; rintro e w9 ⟨rfl, e9⟩; rw [e9]; clear e9)
        refine bodyPost_ret (v := .tuple #[.agg #[.int .u64 0, .slice none 0 0], .int .i64 (130)]) (results_row_tmp Tryz.results39 _ _ _ (w.heap.size + 1) 25 _ (0, 0) _ rfl (HB1.out.set 0 (.slice none 0 0)) Tryz.underlying25 isz25) rfl ?_
        exact ⟨0, none, 0, 0, by rw [HE.out], gb_trans HG1.out (B2.gset w1 w.heap.size 0 _) (fun k hk => .inl (by cases hk; omega)), fun e => absurd e (by rw [HE.out]; decide), fun _ => ⟨rfl, rfl, rfl, rfl⟩⟩
      | true =>
        have HE : Hid (chgE 2 E ms id = chgC 2 ms id) := by show _ = _; simp [chgE, ho, h1, hi]
        have hlen := ringOk_len ho
        have HCP : Hid (∀ w1, w.grownBy w1 none → Calls Tryz.prog 63 #[.slice a n c] w1 fun e w' => ∃ a' c' raw', e = .returned (.slice a' n c') ∧ MsOwn w' w1.heap.size (.slice a' n c') ms raw' ∧ w1.grownBy w' none) := fun w1 hg => g_copied a raw ms n c w1 (hr.grown hg) hn hnil (by omega) hz2
        have HCH : Hid (∀ w1 a1 c1 raw1 base, MsOwn w1 base (.slice a1 n c1) ms raw1 → base ≤ w1.heap.size → Calls Tryz.prog 42 #[.slice a1 n c1, .int .i64 id] w1 fun e w' => ChgOut 2 ms id base w1 e w') := fun w1 a1 c1 raw1 base h1 h2 => g_chg2 ms raw1 id a1 n c1 base w1 h1 hn (by omega) (ringOk_rise ho) h2
        rw [ho] at HM
        rw [hi] at HI
        have HE1 : Hid (0 ≤ E ∧ E < 18446744073709551615) := by show _ ∧ _; omega
        have hwE : IntKind.u64.wrap (E + 1) = E + 1 := by
          have : IntKind.u64.wrap (E + 1) = (E + 1) % 18446744073709551616 := by simp [IntKind.wrap, IntKind.bits, IntKind.signed]
          omega
        clear hr hn hz2 hz ho hnil h1 hi hlen hE
        rw [HE.out]
        go_enter Tryz.func39, Tryz.ntmps39
        go_wp2_with fail
        generalize ((w.alloc (.cells #[.int .u64 E, .slice a n c] 25)).alloc (.cells #[.int .u64 0, .slice none 0 0] 25)) = W at HB0 HG0 ⊢
        refine (HM.out W HG0.out).mono ?_
        rintro e w1 ⟨rfl, hg1⟩
        have HB1 : Hid (B2 w1 w.heap.size E (.slice a n c) 0 (.slice none 0 0)) := HB0.out.grown hg1
        have HG1 : Hid (w.grownBy w1 none) := HG0.out.trans hg1
        obtain ⟨p0, p1⟩ := cell2 HB1.out.arg
        obtain ⟨r0, r1⟩ := cell2 HB1.out.res
        have f0 := free_row HB1.out.res 0
        have f1 := free_row HB1.out.res 1
        clear hg1
        go_wp2_with (first | (go_at_call 62; refine (HI.out _).mono ?_; rintro e w9 ⟨rfl, e9⟩; rw [e9]; clear e9) | fail)
        refine (HCP.out w1 HG1.out).mono ?_
        rintro e w2 ⟨a2, c2, raw2, rfl, ho2, hg2⟩
        have HG2 : Hid (w.grownBy w2 none) := HG1.out.trans hg2
        have HB2 : Hid (B2 w2 w.heap.size E (.slice a n c) 0 (.slice none 0 0)) := HB1.out.grown hg2
        have HW1 : Hid (w.heap.size + 1 < w1.heap.size) := HB1.out.lt
        have HC2 := HCH.out w2 a2 c2 raw2 w1.heap.size ho2 hg2.size
        clear ho2 hg2 p0 p1 r0 r1 f0 f1
        go_wp2_with fail
        refine HC2.mono ?_
        rintro e w3 ⟨a3, n3, c3, raw3, rfl, h3, hab⟩
        have HB1 : Hid (B2 w3 w.heap.size E (.slice a n c) 0 (.slice none 0 0)) := HB2.out.ab hab HW1.out
        have HG3 : Hid (w.grownBy w3 none) := hab.gb HG2.out (by have := HW1.out; omega)
        have H3 : Hid (chgC 2 ms id = 0 → n3 = (chgM 2 ms id).length ∧ MsOwn w3 w1.heap.size (.slice a3 n3 c3) (chgM 2 ms id) raw3) := h3
        obtain ⟨p0, p1⟩ := cell2 HB1.out.arg
        obtain ⟨r0, r1⟩ := cell2 HB1.out.res
        have f0 := free_row HB1.out.res 0
        have f1 := free_row HB1.out.res 1
        clear h3 hab
        by_cases h0 : chgC 2 ms id = 0
        · have hq : (chgC 2 ms id != 0) = false := by simp [h0]
          have HZ : Hid (chgC 2 ms id = 0) := h0
          clear h0
          go_wp2
          refine bodyPost_ret (v := .tuple #[.agg #[.int .u64 (E + 1), .slice a3 n3 c3], .int .i64 0]) (results_row_tmp Tryz.results39 _ _ _ (w.heap.size + 1) 25 _ (0, 0) _ rfl (HB1.out.set (E + 1) (.slice a3 n3 c3)) Tryz.underlying25 isz25) rfl ?_
          have gs := B2.gset w3 w.heap.size (E + 1) (.slice a3 n3 c3)
          obtain ⟨e1, e2⟩ := H3.out HZ.out
          refine ⟨E + 1, a3, n3, c3, by rw [HZ.out], gb_trans HG3.out gs (fun k hk => .inl (by cases hk; omega)), fun _ => ⟨rfl, e1, raw3, (e2.kept gs (fun k hk => by cases hk; exact .inl HW1.out)).base (by have := HW1.out; omega)⟩, fun e => absurd HZ.out e⟩
        · have hq : (chgC 2 ms id != 0) = true := by simp [h0]
          have HZ : Hid (¬ chgC 2 ms id = 0) := h0
          clear h0
          go_wp2
          refine bodyPost_ret (v := .tuple #[.agg #[.int .u64 0, .slice none 0 0], .int .i64 (chgC 2 ms id)]) (results_row_tmp Tryz.results39 _ _ _ (w.heap.size + 1) 25 _ (0, 0) _ rfl (HB1.out.set 0 (.slice none 0 0)) Tryz.underlying25 isz25) rfl ?_
          exact ⟨0, none, 0, 0, rfl, gb_trans HG3.out (B2.gset w3 w.heap.size 0 _) (fun k hk => .inl (by cases hk; omega)), fun e => absurd e HZ.out, fun _ => ⟨rfl, rfl, rfl, rfl⟩⟩
set_option maxHeartbeats 2000000 in
theorem f_chg2 (E : Int) (ms : List Mem) (raw : List MRow) (id : Int) (a : Option Addr) (n c : Nat) (w : World) (hr : MsRd w a ms raw) (hn : ms.length = n) (hnil : a = none → c = 0) (hE : 0 ≤ E ∧ E ≤ 18446744073709551615) (hz : n ≤ 3518437208800) (hz2 : ∀ s ∈ ms, s.2.2.length ≤ 35184372088832) :
    Calls Tryz.prog 12 #[.agg #[.int .u64 E, .slice a n c], .int .i64 id] w fun e w' => RgOut 2 E ms id w e w' := by
  have HB0 : Hid (B2 ((w.alloc (.cells #[.int .u64 E, .slice a n c] 25)).alloc (.cells #[.int .u64 0, .slice none 0 0] 25)) w.heap.size E (.slice a n c) 0 (.slice none 0 0)) := B2.made w E _
  have g0 : w.grownBy ((w.alloc (.cells #[.int .u64 E, .slice a n c] 25)).alloc (.cells #[.int .u64 0, .slice none 0 0] 25)) none := (World.grownBy_alloc _ _ none).trans (World.grownBy_alloc _ _ none)
  have HC := g_changed2 E ms raw id a n c _ (hr.grown g0) hn hnil hE hz hz2
  have HG0 : Hid (w.grownBy ((w.alloc (.cells #[.int .u64 E, .slice a n c] 25)).alloc (.cells #[.int .u64 0, .slice none 0 0] 25)) none) := g0
  clear hr hn hz hz2 g0 hE hnil
  unfold RgOut at HC ⊢
  generalize chgE 2 E ms id = q at HC ⊢
  go_enter Tryz.func12, Tryz.ntmps12
  go_wp2_with fail
  generalize ((w.alloc (.cells #[.int .u64 E, .slice a n c] 25)).alloc (.cells #[.int .u64 0, .slice none 0 0] 25)) = W at HB0 HG0 HC ⊢
  refine HC.mono ?_
  rintro e w1 ⟨E', a', n', c', rfl, hg1, h1, h2⟩
  have HB1 : Hid (B2 w1 w.heap.size E (.slice a n c) 0 (.slice none 0 0)) := HB0.out.grown hg1
  have HG1 : Hid (w.grownBy w1 none) := HG0.out.trans hg1
  have HWS : Hid (w.heap.size + 1 < W.heap.size) := HB0.out.lt
  have H1 : Hid (q = 0 → E' = E + 1 ∧ n' = (chgM 2 ms id).length ∧ ∃ raw', MsOwn w1 W.heap.size (.slice a' n' c') (chgM 2 ms id) raw') := h1
  have H2 : Hid (q ≠ 0 → E' = 0 ∧ a' = none ∧ n' = 0 ∧ c' = 0) := h2
  obtain ⟨r0, r1⟩ := cell2 HB1.out.res
  have f0 := free_row HB1.out.res 0
  have f1 := free_row HB1.out.res 1
  clear hg1 h1 h2
  go_wp2
  refine bodyPost_ret (v := .tuple #[.agg #[.int .u64 E', .slice a' n' c'], .int .i64 q]) (results_row_tmp Tryz.results12 _ _ _ (w.heap.size + 1) 25 _ (0, 0) _ rfl (HB1.out.set E' (.slice a' n' c')) Tryz.underlying25 isz25) rfl ?_
  have gs := B2.gset w1 w.heap.size E' (.slice a' n' c')
  refine ⟨E', a', n', c', rfl, gb_trans HG1.out gs (fun k hk => .inl (by cases hk; omega)), fun e => ?_, H2.out⟩
  obtain ⟨e1, e2, raw', e3⟩ := H1.out e
  exact ⟨e1, e2, raw', (e3.kept gs (fun k hk => by cases hk; exact .inl HWS.out)).base (by have := HWS.out; omega)⟩
end Go.Proofs.YtboamjhlaehoaaaGreat

/- Rings: the changes. -/
namespace Go.Proofs.YtboamjhlaehoaaaGreat
open Go.RowKit
set_option linter.unusedVariables false
set_option maxRecDepth 20000
set_option maxHeartbeats 4000000 in
theorem g_changed3 (E : Int) (ms : List Mem) (raw : List MRow) (id : Int) (a : Option Addr) (n c : Nat) (w : World) (hr : MsRd w a ms raw) (hn : ms.length = n) (hnil : a = none → c = 0) (hE : 0 ≤ E ∧ E ≤ 18446744073709551615) (hz : n ≤ 3518437208800) (hz2 : ∀ s ∈ ms, s.2.2.length ≤ 35184372088832) :
    Calls Tryz.prog 39 #[.agg #[.int .u64 E, .slice a n c], .int .i64 id, .func (.func 43) #[] #[]] w fun e w' => RgOut 3 E ms id w e w' := by
  have HN : Hid (ms.length = n) := hn
  have HB0 : Hid (B2 ((w.alloc (.cells #[.int .u64 E, .slice a n c] 25)).alloc (.cells #[.int .u64 0, .slice none 0 0] 25)) w.heap.size E (.slice a n c) 0 (.slice none 0 0)) := B2.made w E _
  have HG0 : Hid (w.grownBy ((w.alloc (.cells #[.int .u64 E, .slice a n c] 25)).alloc (.cells #[.int .u64 0, .slice none 0 0] 25)) none) := (World.grownBy_alloc _ _ none).trans (World.grownBy_alloc _ _ none)
  have HM : Hid (∀ w1, w.grownBy w1 none → Calls Tryz.prog 44 #[.agg #[.int .u64 E, .slice a n c]] w1 fun e w' => e = .returned (.bool (ringOk ms)) ∧ w1.grownBy w' none) := fun w1 hg => g_mayBe E a raw ms n c w1 (hr.grown hg) hn (by omega) hz2
  have HI : Hid (∀ w1, Calls Tryz.prog 62 #[.int .i64 id] w1 fun e w' => e = .returned (.bool (idOk id)) ∧ w' = w1) := fun w1 => g_isID id w1
  unfold RgOut
  cases ho : ringOk ms with
  | false =>
    have HE : Hid (chgE 3 E ms id = 130) := by show _ = _; simp [chgE, ho]
    rw [ho] at HM
    clear hr hn hz2 hz ho hnil
    go_enter Tryz.func39, Tryz.ntmps39
    go_wp2_with fail
    generalize ((w.alloc (.cells #[.int .u64 E, .slice a n c] 25)).alloc (.cells #[.int .u64 0, .slice none 0 0] 25)) = W at HB0 HG0 ⊢
    refine (HM.out W HG0.out).mono ?_
    rintro e w1 ⟨rfl, hg1⟩
    have HB1 : Hid (B2 w1 w.heap.size E (.slice a n c) 0 (.slice none 0 0)) := HB0.out.grown hg1
    have HG1 : Hid (w.grownBy w1 none) := HG0.out.trans hg1
    obtain ⟨p0, p1⟩ := cell2 HB1.out.arg
    obtain ⟨r0, r1⟩ := cell2 HB1.out.res
    have f0 := free_row HB1.out.res 0
    have f1 := free_row HB1.out.res 1
    clear hg1
    go_wp2
    refine bodyPost_ret (v := .tuple #[.agg #[.int .u64 0, .slice none 0 0], .int .i64 (130)]) (results_row_tmp Tryz.results39 _ _ _ (w.heap.size + 1) 25 _ (0, 0) _ rfl (HB1.out.set 0 (.slice none 0 0)) Tryz.underlying25 isz25) rfl ?_
    exact ⟨0, none, 0, 0, by rw [HE.out], gb_trans HG1.out (B2.gset w1 w.heap.size 0 _) (fun k hk => .inl (by cases hk; omega)), fun e => absurd e (by rw [HE.out]; decide), fun _ => ⟨rfl, rfl, rfl, rfl⟩⟩
  | true =>
    by_cases h1 : E = 18446744073709551615
    · have HE : Hid (chgE 3 E ms id = 130) := by show _ = _; simp [chgE, h1]
      have hb : (E == 18446744073709551615) = true := by simp [h1]
      rw [ho] at HM
      clear hr hn hz2 hz ho hnil h1 hE
      go_enter Tryz.func39, Tryz.ntmps39
      go_wp2_with fail
      generalize ((w.alloc (.cells #[.int .u64 E, .slice a n c] 25)).alloc (.cells #[.int .u64 0, .slice none 0 0] 25)) = W at HB0 HG0 ⊢
      refine (HM.out W HG0.out).mono ?_
      rintro e w1 ⟨rfl, hg1⟩
      have HB1 : Hid (B2 w1 w.heap.size E (.slice a n c) 0 (.slice none 0 0)) := HB0.out.grown hg1
      have HG1 : Hid (w.grownBy w1 none) := HG0.out.trans hg1
      obtain ⟨p0, p1⟩ := cell2 HB1.out.arg
      obtain ⟨r0, r1⟩ := cell2 HB1.out.res
      have f0 := free_row HB1.out.res 0
      have f1 := free_row HB1.out.res 1
      clear hg1
      go_wp2
      refine bodyPost_ret (v := .tuple #[.agg #[.int .u64 0, .slice none 0 0], .int .i64 (130)]) (results_row_tmp Tryz.results39 _ _ _ (w.heap.size + 1) 25 _ (0, 0) _ rfl (HB1.out.set 0 (.slice none 0 0)) Tryz.underlying25 isz25) rfl ?_
      exact ⟨0, none, 0, 0, by rw [HE.out], gb_trans HG1.out (B2.gset w1 w.heap.size 0 _) (fun k hk => .inl (by cases hk; omega)), fun e => absurd e (by rw [HE.out]; decide), fun _ => ⟨rfl, rfl, rfl, rfl⟩⟩
    · have hb : (E == 18446744073709551615) = false := by simp [h1]
      cases hi : idOk id with
      | false =>
        have HE : Hid (chgE 3 E ms id = 130) := by show _ = _; simp [chgE, hi]
        rw [ho] at HM
        rw [hi] at HI
        clear hr hn hz2 hz ho hnil h1 hi hE
        go_enter Tryz.func39, Tryz.ntmps39
        go_wp2_with fail
        generalize ((w.alloc (.cells #[.int .u64 E, .slice a n c] 25)).alloc (.cells #[.int .u64 0, .slice none 0 0] 25)) = W at HB0 HG0 ⊢
        refine (HM.out W HG0.out).mono ?_
        rintro e w1 ⟨rfl, hg1⟩
        have HB1 : Hid (B2 w1 w.heap.size E (.slice a n c) 0 (.slice none 0 0)) := HB0.out.grown hg1
        have HG1 : Hid (w.grownBy w1 none) := HG0.out.trans hg1
        obtain ⟨p0, p1⟩ := cell2 HB1.out.arg
        obtain ⟨r0, r1⟩ := cell2 HB1.out.res
        have f0 := free_row HB1.out.res 0
        have f1 := free_row HB1.out.res 1
        clear hg1
        go_wp2_with (go_at_call 62; refine (HI.out _).mono ?_; rintro e w9 ⟨rfl, e9⟩; rw [e9]; clear e9)
        refine bodyPost_ret (v := .tuple #[.agg #[.int .u64 0, .slice none 0 0], .int .i64 (130)]) (results_row_tmp Tryz.results39 _ _ _ (w.heap.size + 1) 25 _ (0, 0) _ rfl (HB1.out.set 0 (.slice none 0 0)) Tryz.underlying25 isz25) rfl ?_
        exact ⟨0, none, 0, 0, by rw [HE.out], gb_trans HG1.out (B2.gset w1 w.heap.size 0 _) (fun k hk => .inl (by cases hk; omega)), fun e => absurd e (by rw [HE.out]; decide), fun _ => ⟨rfl, rfl, rfl, rfl⟩⟩
      | true =>
        have HE : Hid (chgE 3 E ms id = chgC 3 ms id) := by show _ = _; simp [chgE, ho, h1, hi]
        have hlen := ringOk_len ho
        have HCP : Hid (∀ w1, w.grownBy w1 none → Calls Tryz.prog 63 #[.slice a n c] w1 fun e w' => ∃ a' c' raw', e = .returned (.slice a' n c') ∧ MsOwn w' w1.heap.size (.slice a' n c') ms raw' ∧ w1.grownBy w' none) := fun w1 hg => g_copied a raw ms n c w1 (hr.grown hg) hn hnil (by omega) hz2
        have HCH : Hid (∀ w1 a1 c1 raw1 base, MsOwn w1 base (.slice a1 n c1) ms raw1 → base ≤ w1.heap.size → Calls Tryz.prog 43 #[.slice a1 n c1, .int .i64 id] w1 fun e w' => ChgOut 3 ms id base w1 e w') := fun w1 a1 c1 raw1 base h1 h2 => g_chg3 ms raw1 id a1 n c1 base w1 h1 hn (by omega) (ringOk_rise ho) h2
        rw [ho] at HM
        rw [hi] at HI
        have HE1 : Hid (0 ≤ E ∧ E < 18446744073709551615) := by show _ ∧ _; omega
        have hwE : IntKind.u64.wrap (E + 1) = E + 1 := by
          have : IntKind.u64.wrap (E + 1) = (E + 1) % 18446744073709551616 := by simp [IntKind.wrap, IntKind.bits, IntKind.signed]
          omega
        clear hr hn hz2 hz ho hnil h1 hi hlen hE
        rw [HE.out]
        go_enter Tryz.func39, Tryz.ntmps39
        go_wp2_with fail
        generalize ((w.alloc (.cells #[.int .u64 E, .slice a n c] 25)).alloc (.cells #[.int .u64 0, .slice none 0 0] 25)) = W at HB0 HG0 ⊢
        refine (HM.out W HG0.out).mono ?_
        rintro e w1 ⟨rfl, hg1⟩
        have HB1 : Hid (B2 w1 w.heap.size E (.slice a n c) 0 (.slice none 0 0)) := HB0.out.grown hg1
        have HG1 : Hid (w.grownBy w1 none) := HG0.out.trans hg1
        obtain ⟨p0, p1⟩ := cell2 HB1.out.arg
        obtain ⟨r0, r1⟩ := cell2 HB1.out.res
        have f0 := free_row HB1.out.res 0
        have f1 := free_row HB1.out.res 1
        clear hg1
        go_wp2_with (first | (go_at_call 62; refine (HI.out _).mono ?_; rintro e w9 ⟨rfl, e9⟩; rw [e9]; clear e9) | fail)
        refine (HCP.out w1 HG1.out).mono ?_
        rintro e w2 ⟨a2, c2, raw2, rfl, ho2, hg2⟩
        have HG2 : Hid (w.grownBy w2 none) := HG1.out.trans hg2
        have HB2 : Hid (B2 w2 w.heap.size E (.slice a n c) 0 (.slice none 0 0)) := HB1.out.grown hg2
        have HW1 : Hid (w.heap.size + 1 < w1.heap.size) := HB1.out.lt
        have HC2 := HCH.out w2 a2 c2 raw2 w1.heap.size ho2 hg2.size
        clear ho2 hg2 p0 p1 r0 r1 f0 f1
        go_wp2_with fail
        refine HC2.mono ?_
        rintro e w3 ⟨a3, n3, c3, raw3, rfl, h3, hab⟩
        have HB1 : Hid (B2 w3 w.heap.size E (.slice a n c) 0 (.slice none 0 0)) := HB2.out.ab hab HW1.out
        have HG3 : Hid (w.grownBy w3 none) := hab.gb HG2.out (by have := HW1.out; omega)
        have H3 : Hid (chgC 3 ms id = 0 → n3 = (chgM 3 ms id).length ∧ MsOwn w3 w1.heap.size (.slice a3 n3 c3) (chgM 3 ms id) raw3) := h3
        obtain ⟨p0, p1⟩ := cell2 HB1.out.arg
        obtain ⟨r0, r1⟩ := cell2 HB1.out.res
        have f0 := free_row HB1.out.res 0
        have f1 := free_row HB1.out.res 1
        clear h3 hab
        by_cases h0 : chgC 3 ms id = 0
        · have hq : (chgC 3 ms id != 0) = false := by simp [h0]
          have HZ : Hid (chgC 3 ms id = 0) := h0
          clear h0
          go_wp2
          refine bodyPost_ret (v := .tuple #[.agg #[.int .u64 (E + 1), .slice a3 n3 c3], .int .i64 0]) (results_row_tmp Tryz.results39 _ _ _ (w.heap.size + 1) 25 _ (0, 0) _ rfl (HB1.out.set (E + 1) (.slice a3 n3 c3)) Tryz.underlying25 isz25) rfl ?_
          have gs := B2.gset w3 w.heap.size (E + 1) (.slice a3 n3 c3)
          obtain ⟨e1, e2⟩ := H3.out HZ.out
          refine ⟨E + 1, a3, n3, c3, by rw [HZ.out], gb_trans HG3.out gs (fun k hk => .inl (by cases hk; omega)), fun _ => ⟨rfl, e1, raw3, (e2.kept gs (fun k hk => by cases hk; exact .inl HW1.out)).base (by have := HW1.out; omega)⟩, fun e => absurd HZ.out e⟩
        · have hq : (chgC 3 ms id != 0) = true := by simp [h0]
          have HZ : Hid (¬ chgC 3 ms id = 0) := h0
          clear h0
          go_wp2
          refine bodyPost_ret (v := .tuple #[.agg #[.int .u64 0, .slice none 0 0], .int .i64 (chgC 3 ms id)]) (results_row_tmp Tryz.results39 _ _ _ (w.heap.size + 1) 25 _ (0, 0) _ rfl (HB1.out.set 0 (.slice none 0 0)) Tryz.underlying25 isz25) rfl ?_
          exact ⟨0, none, 0, 0, rfl, gb_trans HG3.out (B2.gset w3 w.heap.size 0 _) (fun k hk => .inl (by cases hk; omega)), fun e => absurd e HZ.out, fun _ => ⟨rfl, rfl, rfl, rfl⟩⟩
set_option maxHeartbeats 2000000 in
theorem f_chg3 (E : Int) (ms : List Mem) (raw : List MRow) (id : Int) (a : Option Addr) (n c : Nat) (w : World) (hr : MsRd w a ms raw) (hn : ms.length = n) (hnil : a = none → c = 0) (hE : 0 ≤ E ∧ E ≤ 18446744073709551615) (hz : n ≤ 3518437208800) (hz2 : ∀ s ∈ ms, s.2.2.length ≤ 35184372088832) :
    Calls Tryz.prog 13 #[.agg #[.int .u64 E, .slice a n c], .int .i64 id] w fun e w' => RgOut 3 E ms id w e w' := by
  have HB0 : Hid (B2 ((w.alloc (.cells #[.int .u64 E, .slice a n c] 25)).alloc (.cells #[.int .u64 0, .slice none 0 0] 25)) w.heap.size E (.slice a n c) 0 (.slice none 0 0)) := B2.made w E _
  have g0 : w.grownBy ((w.alloc (.cells #[.int .u64 E, .slice a n c] 25)).alloc (.cells #[.int .u64 0, .slice none 0 0] 25)) none := (World.grownBy_alloc _ _ none).trans (World.grownBy_alloc _ _ none)
  have HC := g_changed3 E ms raw id a n c _ (hr.grown g0) hn hnil hE hz hz2
  have HG0 : Hid (w.grownBy ((w.alloc (.cells #[.int .u64 E, .slice a n c] 25)).alloc (.cells #[.int .u64 0, .slice none 0 0] 25)) none) := g0
  clear hr hn hz hz2 g0 hE hnil
  unfold RgOut at HC ⊢
  generalize chgE 3 E ms id = q at HC ⊢
  go_enter Tryz.func13, Tryz.ntmps13
  go_wp2_with fail
  generalize ((w.alloc (.cells #[.int .u64 E, .slice a n c] 25)).alloc (.cells #[.int .u64 0, .slice none 0 0] 25)) = W at HB0 HG0 HC ⊢
  refine HC.mono ?_
  rintro e w1 ⟨E', a', n', c', rfl, hg1, h1, h2⟩
  have HB1 : Hid (B2 w1 w.heap.size E (.slice a n c) 0 (.slice none 0 0)) := HB0.out.grown hg1
  have HG1 : Hid (w.grownBy w1 none) := HG0.out.trans hg1
  have HWS : Hid (w.heap.size + 1 < W.heap.size) := HB0.out.lt
  have H1 : Hid (q = 0 → E' = E + 1 ∧ n' = (chgM 3 ms id).length ∧ ∃ raw', MsOwn w1 W.heap.size (.slice a' n' c') (chgM 3 ms id) raw') := h1
  have H2 : Hid (q ≠ 0 → E' = 0 ∧ a' = none ∧ n' = 0 ∧ c' = 0) := h2
  obtain ⟨r0, r1⟩ := cell2 HB1.out.res
  have f0 := free_row HB1.out.res 0
  have f1 := free_row HB1.out.res 1
  clear hg1 h1 h2
  go_wp2
  refine bodyPost_ret (v := .tuple #[.agg #[.int .u64 E', .slice a' n' c'], .int .i64 q]) (results_row_tmp Tryz.results13 _ _ _ (w.heap.size + 1) 25 _ (0, 0) _ rfl (HB1.out.set E' (.slice a' n' c')) Tryz.underlying25 isz25) rfl ?_
  have gs := B2.gset w1 w.heap.size E' (.slice a' n' c')
  refine ⟨E', a', n', c', rfl, gb_trans HG1.out gs (fun k hk => .inl (by cases hk; omega)), fun e => ?_, H2.out⟩
  obtain ⟨e1, e2, raw', e3⟩ := H1.out e
  exact ⟨e1, e2, raw', (e3.kept gs (fun k hk => by cases hk; exact .inl HWS.out)).base (by have := HWS.out; omega)⟩
end Go.Proofs.YtboamjhlaehoaaaGreat

