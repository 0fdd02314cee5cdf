/- Several texts in one: Jg, Jh, Ji. -/
import Derived.Test.YtpabbmiibehfjaaGreatDoorKc
import Derived.BigQuiet
import Derived.Test.YtpabbmiibehfjaaGreatDoorGn
/- The document's head: Fate. -/
namespace Go.Proofs.YtpabbmiibehfjaaGreatDoor
open Go.RowKit Go.Maps
set_option linter.unusedVariables false
set_option maxRecDepth 20000

theorem wrap_nat (m : Nat) (h : m ≤ 8796093022206) : IntKind.i64.wrap (m : Int) = (m : Int) := by
  simp [IntKind.wrap, IntKind.bits, IntKind.signed]
  split <;> omega
theorem fate_out {lim : Nat} {S : List Ser} {ls : List Lab} {T V : Int} (h : ¬ (checkR ls = 0 ∧ -1099511627776 ≤ T ∧ T ≤ 1099511627776)) : fateR lim S ls T V = 3 := by
  unfold fateR
  rw [if_neg h]
theorem fate_none {lim : Nat} {S : List Ser} {ls : List Lab} {T V : Int} (h : checkR ls = 0 ∧ -1099511627776 ≤ T ∧ T ≤ 1099511627776) (hn : findR S ls = none) : fateR lim S ls T V = if S.length = lim then 5 else 1 := by
  unfold fateR
  rw [if_pos h, hn]
theorem fate_there {lim : Nat} {S : List Ser} {ls : List Lab} {T V : Int} {ps : List Pt} (h : checkR ls = 0 ∧ -1099511627776 ≤ T ∧ T ≤ 1099511627776) (hn : findR S ls = some ps) : fateR lim S ls T V = if (ps.getLastD (0, 0)).1 < T then 1 else if T < (ps.getLastD (0, 0)).1 then 3 else if V = (ps.getLastD (0, 0)).2 then 2 else 4 := by
  unfold fateR
  rw [if_pos h, hn]
/-- The series of a set that is there: where it stands. -/
theorem there_at {S : List Ser} (hg : Good S) {ls : List Lab} {ps : List Pt} (h : findR S ls = some ps) : S[insAt (S.map (·.1)) ls]? = some (ls, ps) := by
  obtain ⟨⟨l2, p2⟩, h1, h2⟩ := (at_ins hg.sets ls).1 (List.mem_map.2 ⟨_, find_some h, rfl⟩)
  simp only at h2
  subst h2
  rw [h1, good_one hg (List.mem_of_getElem? h1) (find_some h)]
theorem last_at {ps : List Pt} (hne : ps ≠ []) {m : Nat} (hm : ps.length = m + 1) : ps[m]? = some (ps.getLastD (0, 0)) := by
  have h1 : ps.getLast? = ps[ps.length - 1]? := List.getLast?_eq_getElem? ..
  rw [hm, Nat.add_sub_cancel] at h1
  rw [← h1, List.getLastD_eq_getLast?]
  cases hq : ps.getLast? with
  | none => rw [List.getLast?_eq_none_iff] at hq; exact absurd hq hne
  | some x => rfl
set_option maxHeartbeats 8000000 in
theorem r_fate (base rb lim : Nat) (S : List Ser) (R : Nat → Prop) (la : Option Addr) (ls : List Lab) (L lc : Nat) (T V : Int) (w : World) (h : RefAt w base rb lim S R) (hf : Fits S) (hl : S.length ≤ lim) (hr : SRd labE w la ls) (hL : ls.length = L) (hLz : L ≤ 4398046511104) :
    Calls Tryz.prog 26 #[.pointer (some ⟨rb, 0, none⟩), .agg #[.slice la L lc, .int .i64 T, .int .u64 V]] w fun e w' => e = .returned (.int .i64 (fateR lim S ls T V)) ∧ w.grownBy w' none := by
  have HH : Hid (RefAt w base rb lim S R) := h
  have HF : Hid (Fits S) := hf
  have HLM : Hid (S.length ≤ lim) := hl
  have HGA : Hid (w.grownBy (w.alloc (.cells #[.slice la L lc, .int .i64 T, .int .u64 V] 31)) none) := World.grownBy_alloc w _ none
  obtain ⟨r0, r1, r2⟩ := row3 (w := w) (x := .slice la L lc) (y := .int .i64 T) (z := .int .u64 V) (t := 31)
  have HC : Hid (∀ w1, w.grownBy w1 none → Calls Tryz.prog 52 #[.slice la L lc] w1 fun e w' => e = .returned (.int .i64 (checkR ls)) ∧ w1.grownBy w' none) := fun w1 hg => r_check la ls L lc _ w1 (hr.grown hg (by simp)) hL hLz rfl
  have HD : Hid (∀ w1, w.grownBy w1 none → Calls Tryz.prog 51 #[.pointer (some ⟨rb, 0, none⟩), .slice la L lc] w1 fun e w' => e = .returned (.tuple #[.int .i64 (insAt (S.map (·.1)) ls), .bool (findR S ls).isSome]) ∧ w1.grownBy w' none) := fun w1 hg => r_find base rb lim S R la ls L lc w1 (h.grown hg) hf.1.sets hf.2.1 (fun s hs => by have := hf.lab s hs; omega) (hr.grown hg (by simp)) hL hLz
  obtain ⟨FT, eFT⟩ : ∃ FT, FT = fateR lim S ls T V := ⟨_, rfl⟩
  have EFT : Hid (FT = fateR lim S ls T V) := eFT
  rw [← eFT]
  clear h hf hl hr hL eFT
  go_enter Tryz.func26, Tryz.ntmps26
  go_wp2_with fail
  generalize w.alloc (.cells #[.slice la L lc, .int .i64 T, .int .u64 V] 31) = W at HGA r0 r1 r2 ⊢
  generalize w.heap.size = sb at r0 r1 r2 ⊢
  refine (HC.out W HGA.out).mono ?_
  rintro e w1 ⟨rfl, hg1⟩
  have HG1 : Hid (w.grownBy w1 none) := HGA.out.trans hg1
  have d0 := hg1.cell r0 (by simp)
  have d1 := hg1.cell r1 (by simp)
  have d2 := hg1.cell r2 (by simp)
  clear hg1 HC r0 r1 r2 HGA
  by_cases hok : checkR ls = 0 ∧ -1099511627776 ≤ T ∧ T ≤ 1099511627776
  · have HOK : Hid (checkR ls = 0 ∧ -1099511627776 ≤ T ∧ T ≤ 1099511627776) := hok
    obtain ⟨h1, h2, h3⟩ := hok
    rw [h1]
    have h2' : ¬ T < -1099511627776 := by omega
    have h3' : ¬ 1099511627776 < T := by omega
    clear h1 h2 h3
    go_wp2_with fail
    refine (HD.out w1 HG1.out).mono ?_
    rintro e w2 ⟨rfl, hg2⟩
    have HG2 : Hid (w.grownBy w2 none) := HG1.out.trans hg2
    have f1 := hg2.cell d1 (by simp)
    have f2 := hg2.cell d2 (by simp)
    obtain ⟨a, c, raw, hI⟩ := HH.out.grown HG2.out
    obtain ⟨e0, e1⟩ := hI.cells
    have HI : Hid (RefIs w2 base rb lim S R a c raw) := hI
    clear hg2 HD d0 d1 d2 h2' h3' hI
    cases hfd : findR S ls with
    | none =>
      have HFT : Hid (FT = if S.length = lim then 5 else 1) := EFT.out.trans (fate_none HOK.out hfd)
      have hlm := HLM.out
      have hsz := HF.out.2.1
      generalize insAt (S.map (·.1)) ls = I
      generalize S.length = M at e1 HFT hlm hsz
      clear hfd f1 f2
      simp only [Option.isSome_none]
      by_cases hM : M = lim
      · subst hM
        have q1 : decide ((M : Int) ≤ (M : Int)) = true := by simp
        have HV : Hid (FT = 5) := by show _ = _; rw [HFT.out, if_pos rfl]
        go_wp2_with fail
        go_quiet (fail)
        go_wp2
        go_ret
        exact ⟨by rw [HV.out]; rfl, HG2.out.trans (gb_drewN w2 _)⟩
      · have q1 : decide ((lim : Int) ≤ (M : Int)) = false := by simp; omega
        have HV : Hid (FT = 1) := by show _ = _; rw [HFT.out, if_neg hM]
        go_wp2_with fail
        go_quiet (fail)
        go_wp2
        go_ret
        exact ⟨by rw [HV.out]; rfl, HG2.out.trans (gb_drewN w2 _)⟩
    | some ps =>
      have hat := there_at HF.out.1 hfd
      have HFT : Hid (FT = if (ps.getLastD (0, 0)).1 < T then 1 else if T < (ps.getLastD (0, 0)).1 then 3 else if V = (ps.getLastD (0, 0)).2 then 2 else 4) := EFT.out.trans (fate_there HOK.out hfd)
      obtain ⟨b, off, la2, lc2, pa, pc, rfl, c0, c1, _, rp⟩ := ser_cells HI.out.ser.rd hat
      have hne := HF.out.1.some _ (List.mem_of_getElem? hat)
      have hle := HF.out.2.2 _ (List.mem_of_getElem? hat)
      have hlt := (List.getElem?_eq_some_iff.1 hat).1
      have hsz := HF.out.2.1
      simp only at c0 c1 rp hne hle
      obtain ⟨m, hm⟩ : ∃ m, ps.length = m + 1 := ⟨ps.length - 1, by have := List.length_pos_iff.2 hne; omega⟩
      obtain ⟨b2, off2, rfl, k0, k1⟩ := pnt_cells (k := m) (t := (ps.getLastD (0, 0)).1) (v := (ps.getLastD (0, 0)).2) rp (last_at hne hm)
      rw [hm] at c1 hle
      generalize (ps.getLastD (0, 0)).1 = t1 at k0 HFT
      generalize (ps.getLastD (0, 0)).2 = v1 at k1 HFT
      generalize insAt (S.map (·.1)) ls = I at hat c0 c1 hlt ⊢
      generalize S.length = M at e1 hlt hsz
      clear hfd hat rp hne hm c0
      simp only [Option.isSome_some]
      have hIM : (I : Int) < (M : Int) := by omega
      have hwm : IntKind.i64.wrap (m : Int) = (m : Int) := wrap_nat m (by omega)
      have hmm : (m : Int) < (m : Int) + 1 := by omega
      go_wp2_with fail
      go_region_held3 (fun W => W.cell? ⟨rb, 1, none⟩ = some (.slice (some ⟨b, off, none⟩) M c) ∧ W.cell? ⟨b, off + I * 2 + 1, none⟩ = some (.slice (some ⟨b2, off2, none⟩) (m + 1) pc) ∧ W.cell? ⟨b2, off2 + m * 2, none⟩ = some (.int .i64 t1) ∧ W.cell? ⟨b2, off2 + m * 2 + 1, none⟩ = some (.int .u64 v1)) (go_keep) (fail)
      have HG3 : Hid (w2.grownBy (w2.alloc (.cells #[.int .i64 t1, .int .u64 v1] 51)).drew none) := gb_drew (World.grownBy_alloc w2 _ none)
      have n0 : (w2.alloc (.cells #[.int .i64 t1, .int .u64 v1] 51)).drew.cell? ⟨w2.heap.size, 0, none⟩ = some (.int .i64 t1) := row2.1
      have n1 : (w2.alloc (.cells #[.int .i64 t1, .int .u64 v1] 51)).drew.cell? ⟨w2.heap.size, 1, none⟩ = some (.int .u64 v1) := row2.2
      have g1 := HG3.out.cell f1 (by simp)
      have g2 := HG3.out.cell f2 (by simp)
      have HGE : Hid (w.grownBy (w2.alloc (.cells #[.int .i64 t1, .int .u64 v1] 51)).drew none) := HG2.out.trans HG3.out
      generalize (w2.alloc (.cells #[.int .i64 t1, .int .u64 v1] 51)).drew = w3 at n0 n1 g1 g2 HGE ⊢
      generalize w2.heap.size = nb at n0 n1 ⊢
      clear HG3 f1 f2 e0 e1 c1 k0 k1 HI hIM hwm hmm hle
      by_cases c1 : t1 < T
      · have HV : Hid (FT = 1) := by show _ = _; rw [HFT.out, if_pos c1]
        go_wp2
        go_ret
        exact ⟨by rw [HV.out]; rfl, HGE.out⟩
      · by_cases c2 : T < t1
        · have HV : Hid (FT = 3) := by show _ = _; rw [HFT.out, if_neg c1, if_pos c2]
          have q1 : (T == t1) = false := by simp; omega
          go_wp2
          go_ret
          exact ⟨by rw [HV.out]; rfl, HGE.out⟩
        · obtain rfl : T = t1 := by omega
          by_cases c3 : V = v1
          · have HV : Hid (FT = 2) := by show _ = _; rw [HFT.out, if_neg c1, if_neg c2, if_pos c3]
            subst c3
            go_wp2
            go_ret
            exact ⟨by rw [HV.out]; rfl, HGE.out⟩
          · have HV : Hid (FT = 4) := by show _ = _; rw [HFT.out, if_neg c1, if_neg c2, if_neg c3]
            have q2 : (V == v1) = false := by simpa using c3
            go_wp2
            go_ret
            exact ⟨by rw [HV.out]; rfl, HGE.out⟩
  · have HFT : Hid (FT = 3) := EFT.out.trans (fate_out hok)
    by_cases h1 : checkR ls = 0
    · rw [h1]
      by_cases h2 : T < -1099511627776
      · go_wp2
        go_ret
        exact ⟨by rw [HFT.out]; rfl, HG1.out⟩
      · have h3 : 1099511627776 < T := by
          have := fun h => hok ⟨h1, h⟩
          omega
        go_wp2
        go_ret
        exact ⟨by rw [HFT.out]; rfl, HG1.out⟩
    · go_wp2
      go_ret
      exact ⟨by rw [HFT.out]; rfl, HG1.out⟩
end Go.Proofs.YtpabbmiibehfjaaGreatDoor

/- The document's head: what Add does to its memory. -/
namespace Go.Proofs.YtpabbmiibehfjaaGreatDoor
open Go.RowKit Go.Maps
set_option linter.unusedVariables false
set_option maxRecDepth 20000

theorem step_append_s {α : Type} {E : Elem α} {P : Program} {t e : TypeId} {bytes : Nat} (T : ElemOf E P t e bytes) {ops : Array Oper} {o : Oper} {a : Act} {w : World} {K : Act → World → Prop} {Q : Exit → Act → World → Prop} {X : Prop} (hgd : o.guard = none) (s x : Operand)
    (ho : o.op = .call { callee := .builtin .append, args := #[s, x], argTypes := #[t, t] }) (base : Nat) (v : Value) (n : Nat) (xs : List α) (hs : a.eval s = v) (hown : SOwn E e w base v n xs)
    (src : Option Addr) (zs : List α) (m cap : Nat) (hx : a.eval x = .slice src m cap) (hm : zs.length = m) (hr : SRd E w src zs) (hnil : src = none → cap = 0) (hlen : (n + m) * bytes ≤ 140737488355328) (hmax : n + m ≤ maxLen) (hb : base ≤ w.heap.size)
    (h : ∀ v' w', SOwn E e w' base v' (n + m) (xs ++ zs) → w.grownBy w' v.ownBlock → (v'.ownBlock = v.ownBlock ∨ v'.ownBlock = some w.heap.size) → K (a.put o.dst v') w') : if Region.wanted o (yielded ops a.tmps) = true then Oper.wp P o a w K Q else X := by
  cases src with
  | some ad => exact step_append_at T hgd s x ho base v n xs hs hown ad zs m cap hx hm hr hlen hmax hb h
  | none =>
    have hw : Region.wanted o (yielded ops a.tmps) = true := by simp [Region.wanted, hgd]
    rw [if_pos hw]
    obtain ⟨i0, z, hi, hz0, hz1, hz2, hz3⟩ := T.info
    subst hm
    obtain rfl := hnil rfl
    obtain rfl := hr.none
    have hrun := run_append_owned_none (P := P) (w := w) base t o.type e i0 E.size T.under hi v n (E.flat xs) hown
    unfold Oper.wp
    simp [execOp, ho, resolve, invoke, builtin, hs, hx, hrun, Result.andThen]
    exact h v w (by simpa using hown) (World.grownBy.refl _ _) (.inl rfl)
theorem addR_there {lim : Nat} {S : List Ser} (hg : Good S) {ls : List Lab} {T V : Int} {ps : List Pt} (hf : fateR lim S ls T V = 1) (hn : findR S ls = some ps) : addR lim S ls T V = S.set (insAt (S.map (·.1)) ls) (ls, ps ++ [(T, V)]) := by
  have hat := there_at hg hn
  unfold addR
  rw [if_pos hf, hn]
  apply List.ext_getElem?
  intro i
  simp only [List.getElem?_map, List.getElem?_set]
  by_cases hi : insAt (S.map (·.1)) ls = i
  · subst hi
    rw [hat]
    simp [(List.getElem?_eq_some_iff.1 hat).1]
  · rw [if_neg hi]
    cases hs : S[i]? with
    | none => rfl
    | some s =>
      simp only [Option.map_some, Option.some.injEq]
      rw [if_neg]
      intro e
      have hnd := sets_nodup hg.sets
      have h1 : (S.map (·.1))[i]? = some ls := by rw [List.getElem?_map, hs, ← e]; rfl
      have h2 : (S.map (·.1))[insAt (S.map (·.1)) ls]? = some ls := by rw [List.getElem?_map, hat]; rfl
      exact hi ((List.getElem?_inj (List.getElem?_eq_some_iff.1 h2).1 hnd).1 (h2.trans h1.symm))
theorem addR_new {lim : Nat} {S : List Ser} {ls : List Lab} {T V : Int} (hf : fateR lim S ls T V = 1) (hn : findR S ls = none) : addR lim S ls T V = S.take (insAt (S.map (·.1)) ls) ++ (ls, [(T, V)]) :: S.drop (insAt (S.map (·.1)) ls) := by
  unfold addR
  rw [if_pos hf, hn]
/-- One cell of a row of the call's own is written. -/
theorem sown_setP {w : World} {base g n c : Nat} {raw : List (Sv × Sv)} {i : Nat} {r : Sv × Sv} (h : SOwn serE 49 w base (.slice (some ⟨g, 0, none⟩) n c) n raw) (hr : raw[i]? = some r) (q : Sv) : SOwn serE 49 (w.setCell ⟨g, i * 2 + 1, none⟩ (svV q)) base (.slice (some ⟨g, 0, none⟩) n c) n (raw.set i (r.1, q)) := by
  have hlen := SOwn.len h
  rcases h.2 with ⟨h', _⟩ | ⟨g', cap', cur, h', h1, h2, h3, h4, h5, h6⟩
  · simp at h'
  · simp only [Value.slice.injEq, Option.some.injEq, Addr.mk.injEq, and_true, true_and] at h'
    obtain ⟨rfl, rfl⟩ := h'
    have hi := (List.getElem?_eq_some_iff.1 hr).1
    have hfl : serE.flat (raw.set i (r.1, q)) = (serE.flat raw).set (i * 2 + 1) (svV q) := by
      clear h h1 h2 h3 h4 h5 h6 hlen
      induction raw generalizing i with
      | nil => simp at hi
      | cons x l ih =>
        cases i with
        | zero =>
          simp at hr
          subst hr
          rfl
        | succ i =>
          have ih' := ih (i := i) (by simpa using hr) (by simpa using hi)
          show serE.cells x ++ serE.flat (l.set i (r.1, q)) = (serE.cells x ++ serE.flat l).set ((i + 1) * 2 + 1) (svV q)
          rw [ih', List.set_append_right _ _ (by show (2 : Nat) ≤ _; omega)]
          congr 2
          show i * 2 + 1 = (i + 1) * 2 + 1 - 2
          omega
    refine ⟨by rw [serE.flat_len, List.length_set, hlen], .inr ⟨g, c, cur.setIfInBounds (i * 2 + 1) (svV q), rfl, h1, ?_, h3, h4, by simpa using h5, ?_⟩⟩
    · rw [setCell_eq_setRow w g (i * 2 + 1) cur 49 (0, 0) (svV q) h2, setRow_heap w g cur _ 49 _ h2]
    · rw [hfl, ← h6, Array.toList_setIfInBounds, List.take_set]
theorem Apart.set {raw : List (Sv × Sv)} {i : Nat} {q : Sv × Sv} (h : Apart raw) (hq : ∀ (j : Nat) (r : Sv × Sv) (x y : Addr), j ≠ i → raw[j]? = some r → r.2.1 = some x → q.2.1 = some y → x.block ≠ y.block) : Apart (raw.set i q) := by
  have hcase : ∀ (j : Nat) (r : Sv × Sv), (raw.set i q)[j]? = some r → (j ≠ i ∧ raw[j]? = some r) ∨ (j = i ∧ r = q) := by
    intro j r hr
    rw [List.getElem?_set] at hr
    by_cases hi : i = j
    · subst hi
      rw [if_pos rfl] at hr
      split at hr
      · exact .inr ⟨rfl, (Option.some.inj hr).symm⟩
      · cases hr
    · rw [if_neg hi] at hr
      exact .inl ⟨fun e => hi e.symm, hr⟩
  intro j k r s x y hr hs hx hy e
  rcases hcase j r hr with ⟨n1, h1⟩ | ⟨h1, rfl⟩
  · rcases hcase k s hs with ⟨n2, h2⟩ | ⟨h2, rfl⟩
    · exact h j k r s x y h1 h2 hx hy e
    · exact absurd e (hq j r x y n1 h1 hx hy)
  · rcases hcase k s hs with ⟨n2, h2⟩ | ⟨h2, rfl⟩
    · exact absurd e.symm (hq k s y x n2 h2 hy hx)
    · omega
/-- A point is added to one of the series. -/
theorem RefIs.addPt {W w6 : World} {base rb lim : Nat} {S : List Ser} {R : Nat → Prop} {b c : Nat} {raw : List (Sv × Sv)} (h : RefIs W base rb lim S R (some ⟨b, 0, none⟩) c raw) {I : Nat} {ls : List Lab} {ps : List Pt} {p : Pt} {r : Sv × Sv} (hat : S[I]? = some (ls, ps)) (hr : raw[I]? = some r)
    {a6 : Option Addr} {c6 : Nat} (ho : SOwn pntE 51 w6 0 (.slice a6 (ps.length + 1) c6) (ps.length + 1) (ps ++ [p])) (hg : W.grownBy w6 (svV r.2).ownBlock) (hw : Value.ownBlock (.slice a6 (ps.length + 1) c6) = (svV r.2).ownBlock ∨ Value.ownBlock (.slice a6 (ps.length + 1) c6) = some W.heap.size) (hbW : base ≤ W.heap.size) :
    w6.cell? ⟨b, I * 2 + 1, none⟩ = some (svV r.2) ∧ w6.frozen? ⟨b, I * 2 + 1, none⟩ = false ∧ ∃ R', RefAt (w6.setCell ⟨b, I * 2 + 1, none⟩ (.slice a6 (ps.length + 1) c6)) base rb lim (S.set I (ls, ps ++ [p])) R' ∧ Step W (w6.setCell ⟨b, I * 2 + 1, none⟩ (.slice a6 (ps.length + 1) c6)) R R' := by
  have hk := h.ser.ser I r _ hr hat
  have hTb : Typed W b 49 := sown_typed h.ser.own
  have hTp : ∀ k, (svV r.2).ownBlock = some k → Typed W k 51 ∧ R k ∧ ∃ x, r.2.1 = some x ∧ x.block = k := fun k hk' => by
    have h6 := hk.pts
    cases ha : r.2.1 with
    | none => simp [svV, ha, Value.ownBlock] at hk'
    | some x =>
      have e : x.block = k := by simpa [svV, ha, Value.ownBlock] using hk'
      rw [ha] at h6
      rw [← e]
      exact ⟨sown_typed h6, hk.px x ha, x, rfl, rfl⟩
  have hst : ∀ {t : TypeId} {k : Nat}, Typed W k t → t ≠ 51 → w6.heap[k]? = W.heap[k]? := fun hk' ht => hg.block _ (typed_lt hk') (fun e => Typed.ne hk' (hTp _ e.symm).1 ht rfl)
  have hown6 : SOwn serE 49 w6 0 (.slice (some ⟨b, 0, none⟩) S.length c) S.length raw := sown_stay h.ser.own (fun x hx => by cases hx; exact hst hTb (by decide))
  have hcell : w6.cell? ⟨b, I * 2 + 1, none⟩ = some (svV r.2) := by
    obtain ⟨b', off, e, hc⟩ := (SOwn.rd hown6).at (by have := (List.getElem?_eq_some_iff.1 hr).1; omega)
    cases e
    have h1 := hc I r 1 _ hr rfl
    rw [Nat.zero_add] at h1
    exact h1
  have hTb6 : Typed w6 b 49 := sown_typed hown6
  have hfr : w6.frozen? ⟨b, I * 2 + 1, none⟩ = false := by
    obtain ⟨cur, h1⟩ := hTb6
    simp [World.frozen?, h1]
  refine ⟨hcell, hfr, fun k => R k ∨ (W.heap.size ≤ k ∧ k < w6.heap.size), ⟨some ⟨b, 0, none⟩, c, raw.set I (r.1, (a6, ps.length + 1, c6)), ?_, ?_, .inl h.rb, fun k hk' => ?_⟩, ?_, fun k hlt hk' => ?_⟩
  · have hTr := rowIs_typed h.row
    have h1 : w6.rowIs rb 39 2 (SerF (.int .i64 lim) (.slice (some ⟨b, 0, none⟩) S.length c)) := h.row.of_block (hst hTr (by decide))
    have h2 : (w6.setCell ⟨b, I * 2 + 1, none⟩ (.slice a6 (ps.length + 1) c6)).rowIs rb 39 2 (SerF (.int .i64 lim) (.slice (some ⟨b, 0, none⟩) S.length c)) := h1.of_block ((gb_set (w := w6) (p := ⟨b, I * 2 + 1, none⟩) (u := .slice a6 (ps.length + 1) c6) rfl).block _ h1.lt (fun e => Typed.ne (rowIs_typed h1) hTb6 (by decide) (Option.some.inj e)))
    rw [List.length_set]
    exact h2
  · have hgs : w6.grownBy (w6.setCell ⟨b, I * 2 + 1, none⟩ (.slice a6 (ps.length + 1) c6)) (some b) := gb_set rfl
    have hst7 : ∀ {t : TypeId} {k : Nat}, Typed w6 k t → t ≠ 49 → (w6.setCell ⟨b, I * 2 + 1, none⟩ (.slice a6 (ps.length + 1) c6)).heap[k]? = w6.heap[k]? := fun hk' ht => hgs.block _ (typed_lt hk') (fun e => Typed.ne hk' hTb6 ht (Option.some.inj e))
    have stl : ∀ {a : Option Addr} {n c : Nat} {l : List Lab}, SOwn labE 62 W 0 (.slice a n c) n l → SOwn labE 62 (w6.setCell ⟨b, I * 2 + 1, none⟩ (.slice a6 (ps.length + 1) c6)) 0 (.slice a n c) n l := fun {a n c l} h => by
      have h1 : SOwn labE 62 w6 0 (.slice a n c) n l := sown_stay h (fun x hx => by subst hx; exact hst (sown_typed h) (by decide))
      exact sown_stay h1 (fun x hx => by subst hx; exact hst7 (sown_typed h1) (by decide))
    refine ⟨?_, fun k hk' => .inl (h.ser.mem k hk'), fun j q s hq hs => ?_, h.ser.apart.set (fun j q x y hj hq hx hy => ?_)⟩
    · rw [List.length_set]
      exact sown_setP hown6 hr (a6, ps.length + 1, c6)
    · rw [List.getElem?_set] at hq hs
      by_cases hj : I = j
      · subst hj
        have hlt1 : I < raw.length := (List.getElem?_eq_some_iff.1 hr).1
        have hlt2 : I < S.length := (List.getElem?_eq_some_iff.1 hat).1
        rw [if_pos rfl, if_pos hlt1] at hq
        rw [if_pos rfl, if_pos hlt2] at hs
        cases hq
        cases hs
        refine ⟨hk.ln, by simp, stl hk.lab, ?_, fun x hx => .inl (hk.lx x hx), fun x hx => ?_⟩
        · have hl : (ps ++ [p]).length = ps.length + 1 := by simp
          show SOwn pntE 51 _ 0 (.slice a6 (ps ++ [p]).length c6) (ps ++ [p]).length (ps ++ [p])
          rw [hl]
          exact sown_stay ho (fun x hx => by subst hx; exact hst7 (sown_typed ho) (by decide))
        · have hx' : a6 = some x := hx
          subst hx'
          rcases hw with h6 | h6
          · exact .inl (hTp x.block (h6.symm)).2.1
          · have e : x.block = W.heap.size := by simpa [Value.ownBlock] using h6
            exact .inr ⟨by omega, (SOwn.block ho x.block rfl).2⟩
      · rw [if_neg hj] at hq hs
        have k2 := h.ser.ser j q s hq hs
        refine ⟨k2.ln, k2.pn, stl k2.lab, ?_, fun x hx => .inl (k2.lx x hx), fun x hx => .inl (k2.px x hx)⟩
        have h1 : SOwn pntE 51 w6 0 (.slice q.2.1 s.2.length q.2.2.2) s.2.length s.2 := sown_stay k2.pts (fun x hx => hg.block _ (SOwn.block k2.pts x.block (by rw [hx]; rfl)).2 (fun e => by
          obtain ⟨_, _, y, hy, e2⟩ := hTp _ e.symm
          exact hj (h.ser.apart I j r q y x hr hq hy hx e2)))
        refine sown_stay h1 (fun x hx => ?_)
        rw [hx] at h1
        exact hst7 (sown_typed h1) (by decide)
    · have hy' : a6 = some y := hy
      subst hy'
      rcases hw with h6 | h6
      · obtain ⟨_, _, z, hz, e2⟩ := hTp y.block h6.symm
        intro e
        exact hj (h.ser.apart j I q r x z hq hr hx hz (by omega))
      · have e : y.block = W.heap.size := by simpa [Value.ownBlock] using h6
        have := h.ser.plt j q x hq hx
        omega
  · have hsz : (w6.setCell ⟨b, I * 2 + 1, none⟩ (.slice a6 (ps.length + 1) c6)).heap.size = w6.heap.size := by simp [World.setCell]
    rw [hsz]
    have := hg.size
    rcases hk' with hk' | hk'
    · have := h.lt k hk'
      omega
    · omega
  · exact (Kept.of (X := R) hg (fun k hk' => (hTp k hk').2.1)).trans (Kept.of (X := R) (gb_set (w := w6) (p := ⟨b, I * 2 + 1, none⟩) (u := .slice a6 (ps.length + 1) c6) rfl) (fun k hk' => by cases hk'; exact h.ser.mem b rfl)) (fun k _ hk => hk)
  · rcases hk' with hk' | hk'
    · exact hk'
    · omega
end Go.Proofs.YtpabbmiibehfjaaGreatDoor

/- The document's head: a series more; what Add has made so far. -/
namespace Go.Proofs.YtpabbmiibehfjaaGreatDoor
open Go.RowKit Go.Maps
set_option linter.unusedVariables false
set_option maxRecDepth 20000

theorem ins_get {α : Type} {l : List α} {x y : α} {I i : Nat} (hI : I ≤ l.length) (h : (l.take I ++ x :: l.drop I)[i]? = some y) : (i < I ∧ l[i]? = some y) ∨ (i = I ∧ y = x) ∨ (I < i ∧ l[i - 1]? = some y) := by
  have hl : (l.take I).length = I := by rw [List.length_take]; omega
  by_cases h1 : i < I
  · rw [List.getElem?_append_left (by omega), List.getElem?_take, if_pos h1] at h
    exact .inl ⟨h1, h⟩
  · rw [List.getElem?_append_right (by omega), hl] at h
    by_cases h2 : i = I
    · subst h2
      simp at h
      exact .inr (.inl ⟨rfl, h.symm⟩)
    · obtain ⟨j, hj⟩ : ∃ j, i - I = j + 1 := ⟨i - I - 1, by omega⟩
      rw [hj, List.getElem?_cons_succ, List.getElem?_drop] at h
      exact .inr (.inr ⟨by omega, by rw [show i - 1 = I + j by omega]; exact h⟩)
theorem Apart.ins {raw : List (Sv × Sv)} {q : Sv × Sv} {I m : Nat} (hI : I ≤ raw.length) (h : Apart raw) (hl : ∀ (i : Nat) (r : Sv × Sv) (x : Addr), raw[i]? = some r → r.2.1 = some x → x.block < m) (hn : ∀ y, q.2.1 = some y → m ≤ y.block) : Apart (raw.take I ++ q :: raw.drop I) := by
  intro i j r s x y hr hs hx hy e
  rcases ins_get hI hr with ⟨i1, h1⟩ | ⟨i1, rfl⟩ | ⟨i1, h1⟩ <;> rcases ins_get hI hs with ⟨j1, h2⟩ | ⟨j1, rfl⟩ | ⟨j1, h2⟩
  · exact h i j r s x y h1 h2 hx hy e
  · have := hl i r x h1 hx; have := hn y hy; omega
  · have := h i (j - 1) r s x y h1 h2 hx hy e; omega
  · have := hl j s y h2 hy; have := hn x hx; omega
  · omega
  · have := hl (j - 1) s y h2 hy; have := hn x hx; omega
  · have := h (i - 1) j r s x y h1 h2 hx hy e; omega
  · have := hl (i - 1) r x h1 hx; have := hn y hy; omega
  · have := h (i - 1) (j - 1) r s x y h1 h2 hx hy e; omega
/-- A series more. -/
theorem RefIs.addNew {W w9 : World} {base rb lim : Nat} {S : List Ser} {R : Nat → Prop} {a : Option Addr} {c : Nat} {raw : List (Sv × Sv)} (h : RefIs W base rb lim S R a c raw) (hg : W.grownBy w9 none) {I : Nat} (hI : I ≤ S.length) {s : Ser} {a4 a5 a9 : Option Addr} {c4 c5 c9 : Nat}
    (hl : SOwn labE 62 w9 W.heap.size (.slice a4 s.1.length c4) s.1.length s.1) (hp : SOwn pntE 51 w9 W.heap.size (.slice a5 s.2.length c5) s.2.length s.2)
    (ho : SOwn serE 49 w9 W.heap.size (.slice a9 (S.length + 1) c9) (S.length + 1) (raw.take I ++ ((a4, s.1.length, c4), (a5, s.2.length, c5)) :: raw.drop I)) (hbW : base ≤ W.heap.size) :
    w9.cell? ⟨rb, 1, none⟩ = some (.slice a S.length c) ∧ w9.frozen? ⟨rb, 1, none⟩ = false ∧ ∃ R', RefAt (w9.setCell ⟨rb, 1, none⟩ (.slice a9 (S.length + 1) c9)) base rb lim (S.take I ++ s :: S.drop I) R' ∧ Step W (w9.setCell ⟨rb, 1, none⟩ (.slice a9 (S.length + 1) c9)) R R' := by
  have h9 := h.grown hg
  have hgs : w9.grownBy (w9.setCell ⟨rb, 1, none⟩ (.slice a9 (S.length + 1) c9)) (some rb) := gb_set rfl
  have hTr := rowIs_typed h9.row
  have hst : ∀ {t : TypeId} {k : Nat}, Typed w9 k t → t ≠ 39 → (w9.setCell ⟨rb, 1, none⟩ (.slice a9 (S.length + 1) c9)).heap[k]? = w9.heap[k]? := fun hk ht => hgs.block _ (typed_lt hk) (fun e => Typed.ne hk hTr ht (Option.some.inj e))
  have hlS : (S.take I ++ s :: S.drop I).length = S.length + 1 := by simp only [List.length_append, List.length_take, List.length_cons, List.length_drop]; omega
  have hrl : I ≤ raw.length := by rw [h.ser.len]; exact hI
  have stl : ∀ {b : Nat} {a : Option Addr} {n c : Nat} {l : List Lab}, SOwn labE 62 w9 b (.slice a n c) n l → SOwn labE 62 (w9.setCell ⟨rb, 1, none⟩ (.slice a9 (S.length + 1) c9)) 0 (.slice a n c) n l := fun h => SOwn.base (sown_stay h (fun x hx => by subst hx; exact hst (sown_typed h) (by decide))) (Nat.zero_le _)
  have stp : ∀ {b : Nat} {a : Option Addr} {n c : Nat} {l : List Pt}, SOwn pntE 51 w9 b (.slice a n c) n l → SOwn pntE 51 (w9.setCell ⟨rb, 1, none⟩ (.slice a9 (S.length + 1) c9)) 0 (.slice a n c) n l := fun h => SOwn.base (sown_stay h (fun x hx => by subst hx; exact hst (sown_typed h) (by decide))) (Nat.zero_le _)
  refine ⟨h9.cells.2, h9.row.frozen 1, fun k => R k ∨ (W.heap.size ≤ k ∧ k < w9.heap.size), ⟨a9, c9, raw.take I ++ ((a4, s.1.length, c4), (a5, s.2.length, c5)) :: raw.drop I, ?_, ⟨?_, fun k hk => ?_, fun i r t hr ht => ?_, h.ser.apart.ins hrl h.ser.plt (fun y hy => (SOwn.block hp y.block (by rw [show a5 = some y from hy]; rfl)).1)⟩, .inl h.rb, fun k hk => ?_⟩, ?_, fun k hlt hk => ?_⟩
  · rw [hlS]
    refine (h9.row.set 1 (.slice a9 (S.length + 1) c9)).congr (fun i hi => ?_)
    match i, hi with
    | 0, _ => rfl
    | 1, _ => rfl
  · rw [hlS]
    exact SOwn.base (sown_stay ho (fun x hx => by subst hx; exact hst (sown_typed ho) (by decide))) (Nat.zero_le _)
  · rw [hlS] at hk
    exact .inr (SOwn.block ho k hk)
  · have old : ∀ (j : Nat), raw[j]? = some r → S[j]? = some t → SerOk (w9.setCell ⟨rb, 1, none⟩ (.slice a9 (S.length + 1) c9)) (fun k => R k ∨ (W.heap.size ≤ k ∧ k < w9.heap.size)) r t := fun j h1 h2 => by
      have k := h9.ser.ser j r t h1 h2
      exact ⟨k.ln, k.pn, stl k.lab, stp k.pts, fun x hx => .inl (k.lx x hx), fun x hx => .inl (k.px x hx)⟩
    rcases ins_get hrl hr with ⟨i1, h1⟩ | ⟨i1, rfl⟩ | ⟨i1, h1⟩ <;> rcases ins_get hI ht with ⟨j1, h2⟩ | ⟨j1, rfl⟩ | ⟨j1, h2⟩
    · exact old _ h1 h2
    · omega
    · omega
    · omega
    · exact ⟨rfl, rfl, stl hl, stp hp, fun x hx => .inr (SOwn.block hl x.block (by rw [show a4 = some x from hx]; rfl)), fun x hx => .inr (SOwn.block hp x.block (by rw [show a5 = some x from hx]; rfl))⟩
    · omega
    · omega
    · omega
    · exact old _ h1 h2
  · have hsz : (w9.setCell ⟨rb, 1, none⟩ (.slice a9 (S.length + 1) c9)).heap.size = w9.heap.size := by simp [World.setCell]
    rw [hsz]
    have := hg.size
    rcases hk with hk | hk
    · have := h.lt k hk
      omega
    · omega
  · exact (Kept.of (X := R) hg (by simp)).trans (Kept.of (X := R) hgs (fun k hk => by cases hk; exact h.rb)) (fun k _ hk => hk)
  · rcases hk with hk | hk
    · exact hk
    · omega
/-- What has been made so far for a new series: the labels' empty row e, the labels l, the points' row p, the struct x. -/
structure St9 (W w : World) (L : Nat) (ls : List Lab) (q : Pt) (e : Option Nat) (l : Option (Option Addr × Nat)) (p x : Option Nat) : Prop where
  gr : W.grownBy w none
  em : ∀ g, e = some g → w.heap[g]? = some (.cells #[] 62 (0, 0)) ∧ W.heap.size ≤ g
  lab : ∀ v, l = some v → SOwn labE 62 w W.heap.size (.slice v.1 L v.2) L ls
  pts : ∀ g, p = some g → SOwn pntE 51 w W.heap.size (.slice (some ⟨g, 0, none⟩) 1 1) 1 [q]
  row : ∀ b, x = some b → w.rowIs b 49 2 (SerF (.slice none 0 0) (.slice none 0 0)) ∧ W.heap.size ≤ b
section
variable {W w w' : World} {L : Nat} {ls : List Lab} {q : Pt} {e : Option Nat} {l : Option (Option Addr × Nat)} {p x : Option Nat}
theorem St9.grew (h : St9 W w L ls q e l p x) (hg : w.grownBy w' none) : St9 W w' L ls q e l p x :=
  ⟨h.gr.trans hg, fun g hg1 => ⟨(hg.block g (Array.getElem?_eq_some_iff.1 (h.em g hg1).1).1 (by simp)).trans (h.em g hg1).1, (h.em g hg1).2⟩, fun v hv => SOwn.kept (h.lab v hv) hg (by cases v.1 <;> simp [Value.ownBlock]), fun g hg1 => SOwn.kept (h.pts g hg1) hg (by simp [Value.ownBlock]), fun b hb => ⟨(h.row b hb).1.of_block (hg.block _ (h.row b hb).1.lt (by simp)), (h.row b hb).2⟩⟩
theorem St9.lit (h : St9 W w L ls q none l p x) : St9 W (w.alloc (.cells #[] 62)) L ls q (some w.heap.size) l p x := by
  have h1 := h.grew (World.grownBy_alloc w (.cells #[] 62) none)
  exact ⟨h1.gr, fun g hg => by cases hg; exact ⟨heap_alloc_new w _, h.gr.size⟩, h1.lab, h1.pts, h1.row⟩
theorem St9.point {T V : Int} (h : St9 W w L ls (T, V) e l none x) : St9 W (w.alloc (.cells #[.int .i64 T, .int .u64 V] 51)) L ls (T, V) e l (some w.heap.size) x := by
  have h1 := h.grew (World.grownBy_alloc w (.cells #[.int .i64 T, .int .u64 V] 51) none)
  exact ⟨h1.gr, h1.em, h1.lab, fun g hg => by cases hg; exact SOwn.base (sown_lit pntE 51 w [(T, V)] (by unfold maxLen; simp)) h.gr.size, h1.row⟩
theorem St9.struct (h : St9 W w L ls q e l p none) : St9 W (w.alloc (.cells #[.slice none 0 0, .slice none 0 0] 49)) L ls q e l p (some w.heap.size) := by
  have h1 := h.grew (World.grownBy_alloc w (.cells #[.slice none 0 0, .slice none 0 0] 49) none)
  refine ⟨h1.gr, h1.em, h1.lab, h1.pts, fun b hb => ?_⟩
  cases hb
  refine ⟨⟨_, heap_alloc_new w _, rfl, fun i hi => ?_⟩, h.gr.size⟩
  match i, hi with
  | 0, _ => rfl
  | 1, _ => rfl
theorem St9.own {g : Nat} (h : St9 W w L ls q (some g) l p x) : SOwn labE 62 w W.heap.size (.slice (some ⟨g, 0, none⟩) 0 0) 0 ([] : List Lab) :=
  ⟨rfl, .inr ⟨g, 0, #[], rfl, (h.em g rfl).2, (h.em g rfl).1, Nat.le_refl _, Nat.zero_le _, rfl, rfl⟩⟩
theorem St9.app {g : Nat} {a : Option Addr} {c : Nat} (h : St9 W w L ls q (some g) none p x) (ho : SOwn labE 62 w' W.heap.size (.slice a L c) L ls) (hg : w.grownBy w' (some g)) : St9 W w' L ls q none (some (a, c)) p x := by
  have hT : Typed w g 62 := ⟨#[], (h.em g rfl).1⟩
  have hst : ∀ {t : TypeId} {k : Nat}, Typed w k t → t ≠ 62 → w'.heap[k]? = w.heap[k]? := fun hk ht => hg.block _ (typed_lt hk) (fun e1 => Typed.ne hk hT ht (Option.some.inj e1))
  refine ⟨gb_trans h.gr hg (fun k hk => .inl (by cases hk; exact (h.em g rfl).2)), (by simp), fun v hv => by cases hv; exact ho, fun g1 hg1 => ?_, fun b hb => ⟨(h.row b hb).1.of_block (hst (rowIs_typed (h.row b hb).1) (by decide)), (h.row b hb).2⟩⟩
  have h1 := h.pts g1 hg1
  exact sown_stay h1 (fun y hy => by cases hy; exact hst (sown_typed h1) (by decide))
end
/-- The new series, made. -/
structure New9 (W w : World) (L : Nat) (ls : List Lab) (q : Pt) (b : Nat) (a : Option Addr) (c g : Nat) : Prop where
  gr : W.grownBy w none
  lab : SOwn labE 62 w W.heap.size (.slice a L c) L ls
  pts : SOwn pntE 51 w W.heap.size (.slice (some ⟨g, 0, none⟩) 1 1) 1 [q]
  c0 : w.cell? ⟨b, 0, none⟩ = some (.slice a L c)
  c1 : w.cell? ⟨b, 1, none⟩ = some (.slice (some ⟨g, 0, none⟩) 1 1)
theorem St9.done {W w : World} {L : Nat} {ls : List Lab} {q : Pt} {b g : Nat} {a : Option Addr} {c : Nat} (h : St9 W w L ls q none (some (a, c)) (some g) (some b)) :
    w.cell? ⟨b, 0, none⟩ = some (.slice none 0 0) ∧ w.cell? ⟨b, 1, none⟩ = some (.slice none 0 0) ∧ w.frozen? ⟨b, 0, none⟩ = false ∧ w.frozen? ⟨b, 1, none⟩ = false ∧ New9 W ((w.setCell ⟨b, 0, none⟩ (.slice a L c)).setCell ⟨b, 1, none⟩ (.slice (some ⟨g, 0, none⟩) 1 1)) L ls q b a c g := by
  obtain ⟨hr, hb⟩ := h.row b rfl
  have hgs : w.grownBy ((w.setCell ⟨b, 0, none⟩ (.slice a L c)).setCell ⟨b, 1, none⟩ (.slice (some ⟨g, 0, none⟩) 1 1)) (some b) := gb_trans (gb_set rfl) (gb_set rfl) (fun j hj => .inr hj)
  have hT := rowIs_typed hr
  have hst : ∀ {t : TypeId} {k : Nat}, Typed w k t → t ≠ 49 → ((w.setCell ⟨b, 0, none⟩ (.slice a L c)).setCell ⟨b, 1, none⟩ (.slice (some ⟨g, 0, none⟩) 1 1)).heap[k]? = w.heap[k]? := fun hk ht => hgs.block _ (typed_lt hk) (fun e1 => Typed.ne hk hT ht (Option.some.inj e1))
  have h0 : w.cell? ⟨b, 0, none⟩ = some (.slice none 0 0) := hr.cell (i := 0) (by omega)
  have h1 : w.cell? ⟨b, 1, none⟩ = some (.slice none 0 0) := hr.cell (i := 1) (by omega)
  have hl : SOwn labE 62 w W.heap.size (.slice a L c) L ls := h.lab _ rfl
  have hp := h.pts _ rfl
  refine ⟨h0, h1, hr.frozen 0, hr.frozen 1, gb_trans h.gr hgs (fun k hk => .inl (by cases hk; exact hb)), sown_stay hl (fun y hy => ?_), sown_stay hp (fun y hy => by cases hy; exact hst (sown_typed hp) (by decide)), ?_, ?_⟩
  · have hl' := hl
    rw [show a = some y from hy] at hl'
    exact hst (sown_typed hl') (by decide)
  · rw [World.cell?_setCell_other]
    · exact World.cell?_setCell_same _ _ _ h0
    · simp
  · refine World.cell?_setCell_same _ _ _ (u := .slice none 0 0) ?_
    rw [World.cell?_setCell_other]
    · exact h1
    · simp
theorem St9.start {W : World} {L : Nat} {ls : List Lab} {q : Pt} : St9 W W.drew L ls q none none none none := ⟨gb_drew (World.grownBy.refl _ _), by simp, by simp, by simp, by simp⟩
theorem New9.grew {W w w' : World} {L : Nat} {ls : List Lab} {q : Pt} {b : Nat} {a : Option Addr} {c g : Nat} (h : New9 W w L ls q b a c g) (hg : w.grownBy w' none) : New9 W w' L ls q b a c g :=
  ⟨h.gr.trans hg, SOwn.kept h.lab hg (by cases a <;> simp [Value.ownBlock]), SOwn.kept h.pts hg (by simp [Value.ownBlock]), hg.cell h.c0 (by simp), hg.cell h.c1 (by simp)⟩
/-- The new list, so far: its empty row e, its beginning l, the row x of the new series. -/
structure St11 (W w : World) (I : Nat) (A : List (Sv × Sv)) (nw : Sv × Sv) (e : Option Nat) (l : Option (Option Addr × Nat)) (x : Option Nat) : Prop where
  gr : W.grownBy w none
  em : ∀ g, e = some g → w.heap[g]? = some (.cells #[] 49 (0, 0)) ∧ W.heap.size ≤ g
  own : ∀ v, l = some v → SOwn serE 49 w W.heap.size (.slice v.1 I v.2) I A
  lit : ∀ g, x = some g → SRd serE w (some ⟨g, 0, none⟩) [nw] ∧ g < w.heap.size
  ne1 : ∀ g h, e = some g → x = some h → g ≠ h
  ne2 : ∀ v h y, l = some v → x = some h → v.1 = some y → y.block ≠ h
section
variable {W w w' : World} {I : Nat} {A : List (Sv × Sv)} {nw : Sv × Sv} {e : Option Nat} {l : Option (Option Addr × Nat)} {x : Option Nat}
theorem St11.start : St11 W W.drew I A nw none none none := ⟨gb_drew (World.grownBy.refl _ _), by simp, by simp, by simp, by simp, by simp⟩
theorem St11.grew (h : St11 W w I A nw e l x) (hg : w.grownBy w' none) : St11 W w' I A nw e l x :=
  ⟨h.gr.trans hg, fun g hg1 => ⟨(hg.block g (Array.getElem?_eq_some_iff.1 (h.em g hg1).1).1 (by simp)).trans (h.em g hg1).1, (h.em g hg1).2⟩, fun v hv => SOwn.kept (h.own v hv) hg (by cases v.1 <;> simp [Value.ownBlock]), fun g hg1 => ⟨(h.lit g hg1).1.grown hg (by simp), Nat.lt_of_lt_of_le (h.lit g hg1).2 hg.size⟩, h.ne1, h.ne2⟩
theorem St11.empty (h : St11 W w I A nw none l x) (hl : l = none) : St11 W (w.alloc (.cells #[] 49)) I A nw (some w.heap.size) l x := by
  have h1 := h.grew (World.grownBy_alloc w (.cells #[] 49) none)
  exact ⟨h1.gr, fun g hg => by cases hg; exact ⟨heap_alloc_new w _, h.gr.size⟩, h1.own, h1.lit, fun g k hg hk => by cases hg; have := (h.lit k hk).2; omega, h1.ne2⟩
theorem St11.one {u v : Sv} (h : St11 W w I A (u, v) e l none) : St11 W (w.alloc (.cells #[svV u, svV v] 49)) I A (u, v) e l (some w.heap.size) := by
  have h1 := h.grew (World.grownBy_alloc w (.cells #[svV u, svV v] 49) none)
  refine ⟨h1.gr, h1.em, h1.own, fun g hg => ?_, fun g k hg hk => ?_, fun y k z hy hk hz => ?_⟩
  · cases hg
    exact ⟨srd_lit2 serE 49 w [(u, v)], by rw [show (w.alloc (.cells #[svV u, svV v] 49)).heap.size = w.heap.size + 1 from Array.size_push _]; omega⟩
  · cases hk
    have := (Array.getElem?_eq_some_iff.1 (h.em g hg).1).1
    omega
  · cases hk
    have := (SOwn.block (h.own y hy) z.block (by rw [hz]; rfl)).2
    omega
theorem St11.own0 {g : Nat} (h : St11 W w I A nw (some g) l x) : SOwn serE 49 w W.heap.size (.slice (some ⟨g, 0, none⟩) 0 0) 0 ([] : List (Sv × Sv)) :=
  ⟨rfl, .inr ⟨g, 0, #[], rfl, (h.em g rfl).2, (h.em g rfl).1, Nat.le_refl _, Nat.zero_le _, rfl, rfl⟩⟩
theorem St11.app {g : Nat} {a : Option Addr} {c : Nat} (h : St11 W w I A nw (some g) none x) (ho : SOwn serE 49 w' W.heap.size (.slice a I c) I A) (hg : w.grownBy w' (some g)) (hw : Value.ownBlock (.slice a I c) = some g ∨ Value.ownBlock (.slice a I c) = some w.heap.size) : St11 W w' I A nw none (some (a, c)) x := by
  refine ⟨gb_trans h.gr hg (fun k hk => .inl (by cases hk; exact (h.em g rfl).2)), by simp, fun v hv => by cases hv; exact ho, fun k hk => ⟨(h.lit k hk).1.grown hg (fun y hy e1 => ?_), Nat.lt_of_lt_of_le (h.lit k hk).2 hg.size⟩, by simp, fun v k y hv hk hy => ?_⟩
  · cases hy
    exact h.ne1 g k rfl hk (Option.some.inj e1).symm
  · cases hv
    simp only at hy
    subst hy
    have e2 : Value.ownBlock (.slice (some y) I c) = some y.block := rfl
    rw [e2] at hw
    rcases hw with h6 | h6
    · have := h.ne1 g k rfl hk
      have := Option.some.inj h6
      omega
    · have := (h.lit k hk).2
      have := Option.some.inj h6
      omega
end
end Go.Proofs.YtpabbmiibehfjaaGreatDoor

