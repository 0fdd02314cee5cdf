/- Several texts in one: Rn. -/
import Derived.Test.YtboamjhlaehoaaaGreatMd
import Derived.Test.YtboamjhlaehoaaaGreatMi
import Derived.Laws.ResultCell
/- Rings: the four changes, as methods of members. -/
namespace Go.Proofs.YtboamjhlaehoaaaGreat
open Go.RowKit
set_option linter.unusedVariables false
set_option maxRecDepth 20000

/-- All that is below base has stayed. -/
structure Ab (base : Nat) (w w' : World) : Prop where
  os : w'.os = w.os
  tape : w'.tape = w.tape
  output : w'.output = w.output
  size : w.heap.size ≤ w'.heap.size
  block : ∀ k, k < base → k < w.heap.size → w'.heap[k]? = w.heap[k]?
theorem Ab.of {base : Nat} {w w' : World} {row : Option Nat} (h : w.grownBy w' row) (hr : ∀ k, row = some k → base ≤ k) : Ab base w w' :=
  ⟨h.os, h.tape, h.output, h.size, fun k hk hl => h.block k hl (fun e => by have := hr k e.symm; omega)⟩
theorem Ab.trans {base : Nat} {w w1 w2 : World} (h : Ab base w w1) (h' : Ab base w1 w2) : Ab base w w2 :=
  ⟨h'.os.trans h.os, h'.tape.trans h.tape, h'.output.trans h.output, Nat.le_trans h.size h'.size, fun k hk hl => (h'.block k hk (Nat.lt_of_lt_of_le hl h.size)).trans (h.block k hk hl)⟩
theorem Ab.gb {w0 w w' : World} {base : Nat} (h : Ab base w w') (h0 : w0.grownBy w none) (hb : w0.heap.size ≤ base) : w0.grownBy w' none :=
  ⟨h.os.trans h0.os, h.tape.trans h0.tape, h.output.trans h0.output, Nat.le_trans h0.size h.size, fun k hk _ => (h.block k (by omega) (Nat.lt_of_lt_of_le hk h0.size)).trans (h0.block k hk (by simp))⟩
/-- The maths of the changes. -/
def stAt (ms : List Mem) (id : Int) : Int := ((ms[posI ms id]?).map (·.2.1)).getD 0
def inCode (ms : List Mem) (id st : Int) : Int := if hasI ms id then (if stAt ms id = st then 0 else 132) else 131
def setSt (ms : List Mem) (p : Nat) (to : Int) : List Mem := ms.modify p (fun m => (m.1, to, m.2.2))
def chgM : Nat → List Mem → Int → List Mem
  | 0, ms, id => ms.take (posI ms id) ++ [(id, 1, tokL id)] ++ ms.drop (posI ms id)
  | 1, ms, id => setSt ms (posI ms id) 2
  | 2, ms, id => setSt ms (posI ms id) 3
  | _, ms, id => ms.take (posI ms id) ++ ms.drop (posI ms id + 1)
def chgC : Nat → List Mem → Int → Int
  | 0, ms, id => if hasI ms id then 131 else 0
  | 1, ms, id => inCode ms id 1
  | 2, ms, id => inCode ms id 2
  | _, ms, id => inCode ms id 3
theorem hasI_get {ms : List Mem} {id : Int} (h : hasI ms id = true) : ∃ m, ms[posI ms id]? = some m ∧ m.1 = id := by
  unfold hasI at h
  simp only [decide_eq_true_eq] at h
  cases e : ms[posI ms id]? with
  | none => rw [e] at h; simp at h
  | some m => rw [e] at h; simp at h; exact ⟨m, rfl, h⟩
theorem zip_ins {α β : Type} (raw : List α) (ms : List β) (r : α) (m : β) (p : Nat) (hl : raw.length = ms.length) (hp : p ≤ ms.length) : ∀ (i : Nat) (r' : α) (m' : β), (raw.take p ++ [r] ++ raw.drop p)[i]? = some r' → (ms.take p ++ [m] ++ ms.drop p)[i]? = some m' → (r' = r ∧ m' = m) ∨ ∃ j : Nat, raw[j]? = some r' ∧ ms[j]? = some m' := by
  intro i r' m' hr hm
  have t1 : (raw.take p).length = p := by rw [List.length_take]; omega
  have t2 : (ms.take p).length = p := by rw [List.length_take]; omega
  rcases Nat.lt_trichotomy i p with h | h | h
  · rw [List.append_assoc, List.getElem?_append_left (by omega), List.getElem?_take, if_pos h] at hr hm
    exact .inr ⟨i, hr, hm⟩
  · subst h
    rw [List.append_assoc, List.getElem?_append_right (by omega)] at hr hm
    rw [t1, Nat.sub_self] at hr
    rw [t2, Nat.sub_self] at hm
    simp at hr hm
    exact .inl ⟨hr.symm, hm.symm⟩
  · rw [List.getElem?_append_right (by rw [List.length_append]; simp; omega), List.length_append, List.getElem?_drop] at hr hm
    rw [t1] at hr
    rw [t2] at hm
    refine .inr ⟨i - 1, ?_, ?_⟩
    · rw [← hr]; congr 1; simp; omega
    · rw [← hm]; congr 1; simp; omega
theorem zip_del {α β : Type} (raw : List α) (ms : List β) (p : Nat) (hl : raw.length = ms.length) (hp : p < ms.length) : ∀ (i : Nat) (r' : α) (m' : β), (raw.take p ++ raw.drop (p + 1))[i]? = some r' → (ms.take p ++ ms.drop (p + 1))[i]? = some m' → ∃ j : Nat, raw[j]? = some r' ∧ ms[j]? = some m' := by
  intro i r' m' hr hm
  have t1 : (raw.take p).length = p := by rw [List.length_take]; omega
  have t2 : (ms.take p).length = p := by rw [List.length_take]; omega
  by_cases h : i < p
  · rw [List.getElem?_append_left (by omega), List.getElem?_take, if_pos h] at hr hm
    exact ⟨i, hr, hm⟩
  · rw [List.getElem?_append_right (by omega), List.getElem?_drop] at hr hm
    rw [t1] at hr
    rw [t2] at hm
    exact ⟨_, hr, hm⟩
theorem g_in (ms : List Mem) (raw : List MRow) (id st : Int) (a : Option Addr) (n c : Nat) (w : World) (hr : MsRd w a ms raw) (hn : ms.length = n) (hz : n ≤ 4194304) (hs : RiseM ms) :
    Calls Tryz.prog 66 #[.slice a n c, .int .i64 id, .int .i64 st] w fun e w' => e = .returned (.tuple #[.int .i64 (if inCode ms id st = 0 then posI ms id else 0 : Nat), .int .i64 (inCode ms id st)]) ∧ w.grownBy w' none := by
  have HC := g_find ms raw id a n c w hr hn hz hs
  cases hh : hasI ms id with
  | false =>
    have e1 : inCode ms id st = 131 := by simp [inCode, hh]
    rw [e1]
    rw [hh] at HC
    generalize posI ms id = I at HC ⊢
    clear hr hn hs e1 hh
    go_enter Tryz.func66, Tryz.ntmps66
    go_wp2_with fail
    refine HC.mono ?_
    rintro r w1 ⟨rfl, hg1⟩
    go_wp2
    go_ret2
    exact ⟨rfl, hg1⟩
  | true =>
    obtain ⟨m, hm, _⟩ := hasI_get hh
    have hI := (List.getElem?_eq_some_iff.1 hm).1
    rw [hh] at HC
    have HX : Hid (MsRd w a ms raw) := hr
    have HM : Hid (ms[posI ms id]? = some m) := hm
    have hst : stAt ms id = m.2.1 := by simp [stAt, hm]
    by_cases hs2 : m.2.1 = st
    · have e1 : inCode ms id st = 0 := by simp [inCode, hh, hst, hs2]
      rw [e1, if_pos rfl]
      generalize posI ms id = I at HC HM hI ⊢
      have hb : (m.2.1 != st) = false := by simp [hs2]
      obtain ⟨b, off, ta, tc, rfl, c0, c1, c2, _⟩ := HX.out.cells HM.out
      have hIn : (I : Int) < (n : Int) := by omega
      have HCC : Hid (∀ w1, w.grownBy w1 none → w1.cell? ⟨b, off + I * 3 + 1, none⟩ = some (.int .i64 m.2.1)) := fun w1 hg => hg.cell c1 (by simp)
      generalize m.2.1 = q at hb HCC
      clear hr hn hs e1 hh hm hst hs2 c0 c1 c2 hI
      go_enter Tryz.func66, Tryz.ntmps66
      go_wp2_with fail
      refine HC.mono ?_
      rintro r w1 ⟨rfl, hg1⟩
      have cc := HCC.out w1 hg1
      go_wp2
      go_ret2
      exact ⟨rfl, hg1⟩
    · have e1 : inCode ms id st = 132 := by simp [inCode, hh, hst, hs2]
      rw [e1, if_neg (by decide)]
      generalize posI ms id = I at HC HM hI ⊢
      have hb : (m.2.1 != st) = true := by simp [hs2]
      obtain ⟨b, off, ta, tc, rfl, c0, c1, c2, _⟩ := HX.out.cells HM.out
      have hIn : (I : Int) < (n : Int) := by omega
      have HCC : Hid (∀ w1, w.grownBy w1 none → w1.cell? ⟨b, off + I * 3 + 1, none⟩ = some (.int .i64 m.2.1)) := fun w1 hg => hg.cell c1 (by simp)
      generalize m.2.1 = q at hb HCC
      clear hr hn hs e1 hh hm hst hs2 c0 c1 c2 hI
      go_enter Tryz.func66, Tryz.ntmps66
      go_wp2_with fail
      refine HC.mono ?_
      rintro r w1 ⟨rfl, hg1⟩
      have cc := HCC.out w1 hg1
      go_wp2
      go_ret2
      exact ⟨rfl, hg1⟩
/-- What a change answers. -/
def ChgOut (k : Nat) (ms : List Mem) (id : Int) (base : Nat) (w : World) (e : Ending) (w' : World) : Prop :=
  ∃ a' n' c' raw', e = .returned (.tuple #[.slice a' n' c', .int .i64 (chgC k ms id)]) ∧ (chgC k ms id = 0 → n' = (chgM k ms id).length ∧ MsOwn w' base (.slice a' n' c') (chgM k ms id) raw') ∧ Ab base w w'
theorem inCode_has {ms : List Mem} {id st : Int} (h : inCode ms id st = 0) : hasI ms id = true := by
  cases e : hasI ms id with
  | true => rfl
  | false => simp [inCode, e] at h
theorem own_set {w : World} {base g n c p : Nat} {ms : List Mem} {raw : List MRow} (h : MsOwn w base (.slice (some ⟨g, 0, none⟩) n c) ms raw) (hn : ms.length = n) (hp : p < n) (to : Int) : ∃ raw', MsOwn (w.setCell ⟨g, p * 3 + 1, none⟩ (.int .i64 to)) base (.slice (some ⟨g, 0, none⟩) n c) (setSt ms p to) raw' := by
  have hl : raw.length = ms.length := SOwn.len h.row
  have hrow := h.row
  rw [hn] at hrow
  obtain ⟨⟨i0, s0, t0⟩, er⟩ : ∃ r, raw[p]? = some r := ⟨_, List.getElem?_eq_getElem (by omega)⟩
  obtain ⟨m0, em⟩ : ∃ r, ms[p]? = some r := ⟨_, List.getElem?_eq_getElem (by omega)⟩
  refine ⟨raw.set p (i0, to, t0), ?_, fun i r m hr hm => ?_⟩
  · rw [show (setSt ms p to).length = n by simp [setSt, hn]]
    exact sown_set hrow (flat_set memE raw p _ (i0, to, t0) 1 _ er (by decide) rfl)
  · have hty : Typed w g 61 := sown_typed hrow
    have hoth : ∀ k, Typed w k 43 → base ≤ k → (w.setCell ⟨g, p * 3 + 1, none⟩ (.int .i64 to)).heap[k]? = w.heap[k]? := fun k hk _ => set_other _ (Typed.ne hk hty (by decide))
    by_cases e : i = p
    · subst e
      rw [List.getElem?_set_self (by omega)] at hr
      cases hr
      have hm' : m = (m0.1, to, m0.2.2) := by
        unfold setSt at hm
        rw [List.getElem?_modify_eq, em] at hm
        simpa using hm.symm
      subst hm'
      have k := (h.mem i _ _ er em).stay hoth
      exact ⟨k.id, rfl, k.tn, k.own⟩
    · rw [List.getElem?_set_ne (by omega)] at hr
      unfold setSt at hm
      rw [List.getElem?_modify_ne _ _ (by omega)] at hm
      exact (h.mem i r m hr hm).stay hoth
set_option maxHeartbeats 1000000 in
theorem g_turn (ms : List Mem) (raw : List MRow) (id st to : Int) (a : Option Addr) (n c base : Nat) (w : World) (hr : MsOwn w base (.slice a n c) ms raw) (hn : ms.length = n) (hz : n ≤ 4194304) (hs : RiseM ms) :
    Calls Tryz.prog 65 #[.slice a n c, .int .i64 id, .int .i64 st, .int .i64 to] w fun e w' => ∃ a' n' c' raw', e = .returned (.tuple #[.slice a' n' c', .int .i64 (inCode ms id st)]) ∧ (inCode ms id st = 0 → n' = n ∧ MsOwn w' base (.slice a' n' c') (setSt ms (posI ms id) to) raw') ∧ Ab base w w' := by
  have HC := g_in ms raw id st a n c w hr.rd.1 hn hz hs
  by_cases h0 : inCode ms id st = 0
  · have hh := inCode_has h0
    obtain ⟨m, hm, _⟩ := hasI_get hh
    have hI := (List.getElem?_eq_some_iff.1 hm).1
    rw [h0, if_pos rfl] at HC
    have hrow := hr.row
    rw [hn] at hrow
    obtain ⟨g, c9, e9, hbg, hgl, _⟩ := SOwn.some hrow (fun e => by simp only [Value.slice.injEq] at e; omega)
    simp only [Value.slice.injEq] at e9
    obtain ⟨rfl, _, rfl⟩ := e9
    have HNX : Hid (∀ w1, w.grownBy w1 none → (∃ u, w1.cell? ⟨g, posI ms id * 3 + 1, none⟩ = some u) ∧ w1.frozen? ⟨g, posI ms id * 3 + 1, none⟩ = false ∧ Hid (∃ raw', MsOwn (w1.setCell ⟨g, posI ms id * 3 + 1, none⟩ (.int .i64 to)) base (.slice (some ⟨g, 0, none⟩) n c) (setSt ms (posI ms id) to) raw')) := fun w1 hg => by
      have h1 := hr.kept hg (by simp)
      obtain ⟨b, off, ta, tc, e, c0, c1, c2, _⟩ := h1.rd.1.cells hm
      cases e
      refine ⟨⟨_, by have := c1; rw [Nat.zero_add] at this; exact this⟩, ?_, own_set h1 hn (by omega) to⟩
      have := h1.row
      rw [hn] at this
      exact sown_free this _
    have hIn : ((posI ms id : Nat) : Int) < (n : Int) := by omega
    rw [h0]
    generalize posI ms id = I at HC HNX hIn ⊢
    have HBG : Hid (base ≤ g) := hbg
    clear hr hn hs h0 hh hm hI hrow hbg hgl
    go_enter Tryz.func65, Tryz.ntmps65
    go_wp2_with fail
    refine HC.mono ?_
    rintro r w1 ⟨rfl, hg1⟩
    obtain ⟨⟨u, k1⟩, f1, HR1⟩ := HNX.out w1 hg1
    have HG1 : Hid (w.grownBy w1 none) := hg1
    clear hg1
    go_wp2
    go_ret2
    obtain ⟨raw', h7⟩ := HR1.out
    exact ⟨_, n, c, raw', rfl, fun _ => ⟨rfl, h7⟩, (Ab.of HG1.out (by simp)).trans (Ab.of (gb_set (g := g) rfl) (fun k hk => by cases hk; exact HBG.out))⟩
  · rw [if_neg h0] at HC
    have hb : (inCode ms id st != 0) = true := by simpa using h0
    have H0 : Hid (¬ inCode ms id st = 0) := h0
    generalize inCode ms id st = q at HC hb H0 ⊢
    clear hr hn hs h0
    go_enter Tryz.func65, Tryz.ntmps65
    go_wp2_with fail
    refine HC.mono ?_
    rintro r w1 ⟨rfl, hg1⟩
    go_wp2
    go_ret2
    exact ⟨none, 0, 0, [], rfl, fun e => absurd e H0.out, Ab.of hg1 (by simp)⟩
theorem g_chg1 (ms : List Mem) (raw : List MRow) (id : Int) (a : Option Addr) (n c base : Nat) (w : World) (hr : MsOwn w base (.slice a n c) ms raw) (hn : ms.length = n) (hz : n ≤ 4194304) (hs : RiseM ms) (hb : base ≤ w.heap.size) :
    Calls Tryz.prog 41 #[.slice a n c, .int .i64 id] w fun e w' => ChgOut 1 ms id base w e w' := by
  have HC := g_turn ms raw id 1 2 a n c base w hr hn hz hs
  have HL : Hid (n = (chgM 1 ms id).length) := by show _ = _; simp [chgM, setSt, hn]
  have HE : Hid (chgC 1 ms id = inCode ms id 1 ∧ chgM 1 ms id = setSt ms (posI ms id) 2) := ⟨rfl, rfl⟩
  clear hr hs
  go_enter Tryz.func41, Tryz.ntmps41
  go_wp2_with fail
  refine HC.mono ?_
  rintro r w1 ⟨a', n', c', raw', rfl, h1, hg1⟩
  have H1 : Hid (inCode ms id 1 = 0 → n' = n ∧ MsOwn w1 base (.slice a' n' c') (setSt ms (posI ms id) 2) raw') := h1
  clear h1
  go_wp2
  go_ret2
  refine ⟨a', n', c', raw', rfl, fun e => ?_, hg1⟩
  obtain ⟨h2, h3⟩ := H1.out e
  exact ⟨by rw [h2]; exact HL.out, h3⟩
theorem g_chg2 (ms : List Mem) (raw : List MRow) (id : Int) (a : Option Addr) (n c base : Nat) (w : World) (hr : MsOwn w base (.slice a n c) ms raw) (hn : ms.length = n) (hz : n ≤ 4194304) (hs : RiseM ms) (hb : base ≤ w.heap.size) :
    Calls Tryz.prog 42 #[.slice a n c, .int .i64 id] w fun e w' => ChgOut 2 ms id base w e w' := by
  have HC := g_turn ms raw id 2 3 a n c base w hr hn hz hs
  have HL : Hid (n = (chgM 2 ms id).length) := by show _ = _; simp [chgM, setSt, hn]
  have HE : Hid (chgC 2 ms id = inCode ms id 2 ∧ chgM 2 ms id = setSt ms (posI ms id) 3) := ⟨rfl, rfl⟩
  clear hr hs
  go_enter Tryz.func42, Tryz.ntmps42
  go_wp2_with fail
  refine HC.mono ?_
  rintro r w1 ⟨a', n', c', raw', rfl, h1, hg1⟩
  have H1 : Hid (inCode ms id 2 = 0 → n' = n ∧ MsOwn w1 base (.slice a' n' c') (setSt ms (posI ms id) 3) raw') := h1
  clear h1
  go_wp2
  go_ret2
  refine ⟨a', n', c', raw', rfl, fun e => ?_, hg1⟩
  obtain ⟨h2, h3⟩ := H1.out e
  exact ⟨by rw [h2]; exact HL.out, h3⟩
set_option maxHeartbeats 1000000 in
theorem g_chg3 (ms : List Mem) (raw : List MRow) (id : Int) (a : Option Addr) (n c base : Nat) (w : World) (hr : MsOwn w base (.slice a n c) ms raw) (hn : ms.length = n) (hz : n ≤ 4194304) (hs : RiseM ms) (hb : base ≤ w.heap.size) :
    Calls Tryz.prog 43 #[.slice a n c, .int .i64 id] w fun e w' => ChgOut 3 ms id base w e w' := by
  have HC := g_in ms raw id 3 a n c w hr.rd.1 hn hz hs
  by_cases h0 : inCode ms id 3 = 0
  · have hh := inCode_has h0
    obtain ⟨m, hm, _⟩ := hasI_get hh
    have hI := (List.getElem?_eq_some_iff.1 hm).1
    rw [h0, if_pos rfl] at HC
    have hrow := hr.row
    rw [hn] at hrow
    obtain ⟨g, c9, e9, hbg, hgl, _⟩ := SOwn.some hrow (fun e => by simp only [Value.slice.injEq] at e; omega)
    simp only [Value.slice.injEq] at e9
    obtain ⟨rfl, _, rfl⟩ := e9
    have HNX : Hid (∀ w1, w.grownBy w1 none → Calls Tryz.prog 67 #[.slice (some ⟨g, 0, none⟩) n c, .int .i64 (posI ms id : Nat), .int .i64 (((posI ms id : Nat) : Int) + 1)] w1 fun e w' => ∃ raw', e = .returned (.slice (some ⟨g, 0, none⟩) (n - 1) c) ∧ n - 1 = (chgM 3 ms id).length ∧ MsOwn w' base (.slice (some ⟨g, 0, none⟩) (n - 1) c) (chgM 3 ms id) raw' ∧ Ab base w w') := fun w1 hg => by
      have h1 := hr.kept hg (by simp)
      have hrow1 := h1.row
      rw [hn] at hrow1
      have hlen : (chgM 3 ms id).length = n - 1 := by
        simp only [chgM, List.length_append, List.length_take, List.length_drop]
        omega
      refine (g_delete g n c base (posI ms id) raw w1 hrow1 (by omega) (by omega)).mono ?_
      rintro e w2 ⟨rfl, ho2, hg2⟩
      refine ⟨_, rfl, hlen.symm, ⟨by rw [hlen]; exact ho2, fun i r m' hr' hm' => ?_⟩, (Ab.of hg (by simp)).trans (Ab.of hg2 (fun k hk => by cases hk; exact hbg))⟩
      obtain ⟨j, hj1, hj2⟩ := zip_del raw ms (posI ms id) (SOwn.len h1.row) (by omega) i r m' hr' hm'
      exact (h1.mem j r m' hj1 hj2).stay (fun k hk _ => hg2.block k (typed_lt hk) (fun e => Typed.ne hk (sown_typed hrow1) (by decide) (by cases e; rfl)))
    have HE : Hid (chgC 3 ms id = 0) := h0
    unfold ChgOut
    generalize chgM 3 ms id = MS at HNX ⊢
    have hI2 : posI ms id < 4194304 := by omega
    generalize posI ms id = I at HC HNX hI2
    clear hr hn hs h0 hh hm hI hrow hbg hgl
    have hw1 : IntKind.i64.wrap ((I : Int) + 1) = (I : Int) + 1 := by rw [IntKind.wrap_i64]; omega
    rw [HE.out]
    go_enter Tryz.func43, Tryz.ntmps43
    go_wp2_with fail
    refine HC.mono ?_
    rintro r w1 ⟨rfl, hg1⟩
    have HC2 := HNX.out w1 hg1
    clear hg1
    go_wp2_with fail
    refine HC2.mono ?_
    rintro r w2 ⟨raw', rfl, hn2, ho2, hab⟩
    have H2 : Hid (n - 1 = MS.length ∧ MsOwn w2 base (.slice (some ⟨g, 0, none⟩) (n - 1) c) MS raw' ∧ Ab base w w2) := ⟨hn2, ho2, hab⟩
    clear hn2 ho2 hab
    go_wp2
    go_ret2
    exact ⟨_, n - 1, c, raw', rfl, fun _ => ⟨H2.out.1, H2.out.2.1⟩, H2.out.2.2⟩
  · rw [if_neg h0] at HC
    have hb : (inCode ms id 3 != 0) = true := by simpa using h0
    have H0 : Hid (¬ chgC 3 ms id = 0) := h0
    have HE : Hid (chgC 3 ms id = inCode ms id 3) := rfl
    generalize inCode ms id 3 = q at HC hb HE
    clear hr hn hs h0
    go_enter Tryz.func43, Tryz.ntmps43
    go_wp2_with fail
    refine HC.mono ?_
    rintro r w1 ⟨rfl, hg1⟩
    go_wp2
    go_ret2
    exact ⟨none, 0, 0, [], by rw [HE.out]; rfl, fun e => absurd e H0.out, Ab.of hg1 (by simp)⟩
set_option maxHeartbeats 1000000 in
theorem g_chg0 (ms : List Mem) (raw : List MRow) (id : Int) (a : Option Addr) (n c base : Nat) (w : World) (hr : MsOwn w base (.slice a n c) ms raw) (hn : ms.length = n) (hz : n ≤ 4194304) (hs : RiseM ms) (hb : base ≤ w.heap.size) :
    Calls Tryz.prog 40 #[.slice a n c, .int .i64 id] w fun e w' => ChgOut 0 ms id base w e w' := by
  have HC := g_find ms raw id a n c w hr.rd.1 hn hz hs
  cases hh : hasI ms id with
  | true =>
    have HE : Hid (chgC 0 ms id = 131) := by show _ = _; simp [chgC, hh]
    unfold ChgOut
    rw [HE.out]
    rw [hh] at HC
    generalize posI ms id = I at HC
    clear hr hn hs hh
    go_enter Tryz.func40, Tryz.ntmps40
    go_wp2_with fail
    refine HC.mono ?_
    rintro r w1 ⟨rfl, hg1⟩
    go_wp2
    go_ret2
    exact ⟨none, 0, 0, [], rfl, fun e => by simp at e, Ab.of hg1 (by simp)⟩
  | false =>
    have HE : Hid (chgC 0 ms id = 0) := by show _ = _; simp [chgC, hh]
    have hI := posI_le ms id
    rw [hh] at HC
    have HT : Hid (∀ w1, Calls Tryz.prog 20 #[.int .i64 id] w1 fun e w' => ∃ a c, e = .returned (.slice a (tokL id).length c) ∧ SOwn wordE 43 w' w1.heap.size (.slice a (tokL id).length c) (tokL id).length (tokL id) ∧ w1.grownBy w' none) := fun w1 => g_tokens id w1
    have HNX : Hid (∀ w1 a2 c2, w.grownBy w1 none → SOwn wordE 43 w1 w.heap.size (.slice a2 (tokL id).length c2) (tokL id).length (tokL id) → Calls Tryz.prog 64 #[.slice a n c, .int .i64 (posI ms id : Nat), .slice (some ⟨w1.heap.size, 0, none⟩) 1 1] (w1.alloc (.cells #[.int .i64 id, .int .i64 1, .slice a2 (tokL id).length c2] 61)) fun e w' => ∃ a' n' c' raw', e = .returned (.slice a' n' c') ∧ n' = (chgM 0 ms id).length ∧ MsOwn w' base (.slice a' n' c') (chgM 0 ms id) raw' ∧ Ab base w w') := by
      intro w1 a2 c2 hg ht
      have ga := World.grownBy_alloc w1 (.cells #[.int .i64 id, .int .i64 1, .slice a2 (tokL id).length c2] 61) none
      have h1 := (hr.kept hg (by simp)).kept ga (by simp)
      have hrow1 := h1.row
      rw [hn] at hrow1
      have htr : Trip (w1.alloc (.cells #[.int .i64 id, .int .i64 1, .slice a2 (tokL id).length c2] 61)) w1.heap.size (id, 1, a2, (tokL id).length, c2) := heap_alloc_new w1 _
      have hlen : (chgM 0 ms id).length = n + 1 := by
        simp only [chgM, List.length_append, List.length_take, List.length_drop, List.length_cons, List.length_nil]
        omega
      have hvb : (Value.slice a n c).ownBlock ≠ some w1.heap.size := fun e => by
        have := (SOwn.block hr.row _ e).2
        have := hg.size
        omega
      have hvbase : ∀ k, (Value.slice a n c).ownBlock = some k → base ≤ k := fun k hk => (SOwn.block hr.row k hk).1
      refine (g_insert (.slice a n c) n base w1.heap.size (posI ms id) raw _ _ hrow1 htr hvb (by omega) (by omega) (by rw [size_alloc]; have := hg.size; omega)).mono ?_
      rintro e w2 ⟨v', rfl, ho2, hg2⟩
      obtain ⟨a', c', rfl⟩ := sown_slice ho2
      refine ⟨a', n + 1, c', _, rfl, hlen.symm, ⟨by rw [hlen]; exact ho2, fun i r m' hr' hm' => ?_⟩, (Ab.of (hg.trans ga) (by simp)).trans (Ab.of hg2 hvbase)⟩
      have hst : ∀ k, Typed (w1.alloc (.cells #[.int .i64 id, .int .i64 1, .slice a2 (tokL id).length c2] 61)) k 43 → base ≤ k → w2.heap[k]? = (w1.alloc (.cells #[.int .i64 id, .int .i64 1, .slice a2 (tokL id).length c2] 61)).heap[k]? := fun k hk _ => hg2.block k (typed_lt hk) (fun e => by
        cases a with
        | none => simp [Value.ownBlock] at e
        | some x =>
          have e2 : x.block = k := by simpa [Value.ownBlock] using e.symm
          exact Typed.ne hk (sown_typed hrow1) (by decide) e2.symm)
      rcases zip_ins raw ms (id, 1, a2, (tokL id).length, c2) (id, 1, tokL id) (posI ms id) (SOwn.len h1.row) (by omega) i r m' hr' hm' with ⟨rfl, rfl⟩ | ⟨j, hj1, hj2⟩
      · refine MOwn.stay ⟨rfl, rfl, rfl, ?_⟩ hst
        exact SOwn.base (SOwn.kept ht ga (Classical.em _)) hb
      · exact (h1.mem j r m' hj1 hj2).stay hst
    unfold ChgOut
    rw [HE.out]
    generalize chgM 0 ms id = MS at HNX ⊢
    have HSZ : Hid (∀ w1 : World, w.grownBy w1 none → ∀ a2 c2 w2, SOwn wordE 43 w2 w1.heap.size (.slice a2 (tokL id).length c2) (tokL id).length (tokL id) → SOwn wordE 43 w2 w.heap.size (.slice a2 (tokL id).length c2) (tokL id).length (tokL id)) := fun w1 hg a2 c2 w2 h => SOwn.base h hg.size
    generalize posI ms id = I at HC HNX
    generalize (tokL id).length = TL at HT HNX HSZ
    generalize tokL id = TK at HT HNX HSZ
    clear hr hn hs hh hI hb hz
    go_enter Tryz.func40, Tryz.ntmps40
    go_wp2_with fail
    refine HC.mono ?_
    rintro r w1 ⟨rfl, hg1⟩
    have HG1 : Hid (w.grownBy w1 none) := hg1
    clear hg1
    go_wp2_with fail
    refine (HT.out w1).mono ?_
    rintro r w2 ⟨a2, c2, rfl, ho2, hg2⟩
    have HC2 := HNX.out w2 a2 c2 (HG1.out.trans hg2) (HSZ.out w1 HG1.out a2 c2 w2 ho2)
    clear ho2 hg2
    go_wp2_with fail
    refine HC2.mono ?_
    rintro r w3 ⟨a', n', c', raw', rfl, hn2, ho3, hab⟩
    have H2 : Hid (n' = MS.length ∧ MsOwn w3 base (.slice a' n' c') MS raw' ∧ Ab base w w3) := ⟨hn2, ho3, hab⟩
    clear hn2 ho3 hab
    go_wp2
    go_ret2
    exact ⟨a', n', c', raw', rfl, fun _ => ⟨H2.out.1, H2.out.2.1⟩, H2.out.2.2⟩
end Go.Proofs.YtboamjhlaehoaaaGreat

