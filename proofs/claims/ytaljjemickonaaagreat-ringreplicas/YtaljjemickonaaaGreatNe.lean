/- Several texts in one: Ub, Uc. -/
import Derived.Test.YtaljjemickonaaaGreatNc
import Derived.Test.YtaljjemickonaaaGreatMn
import Derived.Test.YtaljjemickonaaaGreatNd
/- Rings: the document's way to the replicas, as maths. -/
namespace Go.Proofs.YtaljjemickonaaaGreat
open Go.RowKit Go.Sort
set_option linter.unusedVariables false
set_option maxRecDepth 20000

/-- How far a token is from a hash on. -/
def distW (h t : Int) : Int := IntKind.u32.wrap (t - h)
theorem distW_eq (h t : Int) : distW h t = (t - h) % 4294967296 := by unfold distW; simp [IntKind.wrap, IntKind.bits, IntKind.signed]
def stepN (h : Int) (acc : Int × Int) (p : Pl) : Int × Int := if acc.1 < 0 ∨ distW h p.1 < acc.2 then (p.2, distW h p.1) else acc
def notIn (met : List Int) (p : Pl) : Bool := !met.contains p.2
/-- The next one: of the places not met the one that comes first. -/
def nextR (ms : List Mem) (h : Int) (met : List Int) : Int := (((plc ms).filter (notIn met)).foldl (stepN h) (-1, 0)).1
def keyLe (h : Int) (p q : Pl) : Prop := distW h p.1 < distW h q.1 ∨ distW h p.1 = distW h q.1 ∧ p.2 ≤ q.2
theorem fold_min (h : Int) : ∀ (X : List Pl) (a : Pl), 0 ≤ a.2 → (∀ q ∈ X, a.2 ≤ q.2) → X.Pairwise (fun p q => p.2 ≤ q.2) → ∃ p, (p = a ∨ p ∈ X) ∧ X.foldl (stepN h) (a.2, distW h a.1) = (p.2, distW h p.1) ∧ keyLe h p a ∧ ∀ q ∈ X, keyLe h p q
  | [], a, _, _, _ => ⟨a, .inl rfl, rfl, .inr ⟨rfl, by omega⟩, by simp⟩
  | q :: X, a, h0, ha, hp => by
    rw [List.pairwise_cons] at hp
    rw [List.foldl_cons]
    unfold stepN
    have hq := ha q (List.mem_cons_self ..)
    by_cases hd : distW h q.1 < distW h a.1
    · rw [if_pos (.inr hd)]
      obtain ⟨p, h1, h2, h3, h4⟩ := fold_min h X q (by omega) hp.1 hp.2
      refine ⟨p, ?_, h2, ?_, ?_⟩
      · rcases h1 with rfl | h1
        · exact .inr (List.mem_cons_self ..)
        · exact .inr (List.mem_cons_of_mem _ h1)
      · unfold keyLe at *; omega
      · intro y hy
        rcases List.mem_cons.1 hy with rfl | hy
        · exact h3
        · exact h4 y hy
    · rw [if_neg (by simp only; omega)]
      obtain ⟨p, h1, h2, h3, h4⟩ := fold_min h X a h0 (fun y hy => ha y (List.mem_cons_of_mem _ hy)) hp.2
      refine ⟨p, ?_, h2, h3, ?_⟩
      · rcases h1 with rfl | h1
        · exact .inl rfl
        · exact .inr (List.mem_cons_of_mem _ h1)
      · intro y hy
        rcases List.mem_cons.1 hy with rfl | hy
        · unfold keyLe at *; omega
        · exact h4 y hy
theorem plc_rise {ms : List Mem} (ho : ringOk ms = true) : (plc ms).Pairwise (fun p q => p.2 ≤ q.2) := by
  unfold plc
  rw [List.pairwise_flatMap]
  constructor
  · intro m hm
    unfold plcM
    split
    · rw [List.pairwise_map]; exact List.pairwise_of_forall (fun _ _ => Int.le_refl _)
    · exact List.Pairwise.nil
  · have hr : (ms.map (·.1)).Pairwise (· < ·) := ringOk_rise ho
    rw [List.pairwise_map] at hr
    refine hr.imp (fun {a b} h x hx y hy => ?_)
    unfold plcM at hx hy
    split at hx
    · split at hy
      · obtain ⟨t, _, rfl⟩ := List.mem_map.1 hx
        obtain ⟨t', _, rfl⟩ := List.mem_map.1 hy
        simp only; omega
      · simp at hy
    · simp at hx
theorem plc_facts {ms : List Mem} (ho : ringOk ms = true) (ht : wfT ms) {p : Pl} (hp : p ∈ plc ms) : 0 ≤ p.2 ∧ 0 ≤ p.1 ∧ p.1 < 4294967296 := by
  unfold plc at hp
  obtain ⟨m, hm, hp⟩ := List.mem_flatMap.1 hp
  unfold plcM at hp
  split at hp
  · obtain ⟨t, h2, rfl⟩ := List.mem_map.1 hp
    have h3 := memOk_of ho hm
    have h4 := ht m hm t h2
    exact ⟨h3.1.1, h4.1, h4.2⟩
  · simp at hp
/-- Round the circle: nearer ones come first. -/
theorem rot_key {ms : List Mem} (ho : ringOk ms = true) (ht : wfT ms) {h : Int} (hh : 0 ≤ h ∧ h < 4294967296) : (rotP ms h).Pairwise (fun p q => keyLe h p q ∧ p ≠ q) := by
  rw [rot_eq ho, List.pairwise_append]
  have hs := sortP_strict ho
  have hf : ∀ p ∈ sortP (plc ms), 0 ≤ p.2 ∧ 0 ≤ p.1 ∧ p.1 < 4294967296 := fun p hp => plc_facts ho ht ((sortP_perm _).mem_iff.1 hp)
  have hb : ∀ p : Pl, 0 ≤ p.2 → (bel h p = true ↔ p.1 < h) := fun p hp => by
    unfold bel
    simp only [decide_eq_true_eq, cmpP_neg]
    omega
  refine ⟨?_, ?_, ?_⟩
  · refine List.Pairwise.imp_of_mem ?_ (hs.filter _)
    intro p q hp hq hl
    obtain ⟨h1, h2⟩ := List.mem_filter.1 hp
    obtain ⟨h3, h4⟩ := List.mem_filter.1 hq
    have f1 := hf p h1
    have f2 := hf q h3
    have g1 : ¬ p.1 < h := fun e => by rw [(hb p f1.1).2 e] at h2; cases h2
    have g2 : ¬ q.1 < h := fun e => by rw [(hb q f2.1).2 e] at h4; cases h4
    unfold lexP at hl
    refine ⟨?_, fun e => by subst e; omega⟩
    unfold keyLe
    rw [distW_eq, distW_eq]
    omega
  · refine List.Pairwise.imp_of_mem ?_ (hs.filter _)
    intro p q hp hq hl
    obtain ⟨h1, h2⟩ := List.mem_filter.1 hp
    obtain ⟨h3, h4⟩ := List.mem_filter.1 hq
    have f1 := hf p h1
    have f2 := hf q h3
    have g1 := (hb p f1.1).1 h2
    have g2 := (hb q f2.1).1 h4
    unfold lexP at hl
    refine ⟨?_, fun e => by subst e; omega⟩
    unfold keyLe
    rw [distW_eq, distW_eq]
    omega
  · intro p hp q hq
    obtain ⟨h1, h2⟩ := List.mem_filter.1 hp
    obtain ⟨h3, h4⟩ := List.mem_filter.1 hq
    have f1 := hf p h1
    have f2 := hf q h3
    have g1 : ¬ p.1 < h := fun e => by rw [(hb p f1.1).2 e] at h2; cases h2
    have g2 := (hb q f2.1).1 h4
    refine ⟨?_, fun e => by subst e; omega⟩
    unfold keyLe
    rw [distW_eq, distW_eq]
    omega
theorem next_head {ms : List Mem} (ho : ringOk ms = true) (ht : wfT ms) {h : Int} (hh : 0 ≤ h ∧ h < 4294967296) (met : List Int) {x : Pl} {r : List Pl} (hx : (rotP ms h).filter (notIn met) = x :: r) : nextR ms h met = x.2 := by
  have hk := (rot_key ho ht hh).filter (notIn met)
  rw [hx, List.pairwise_cons] at hk
  have hm : ∀ p, p ∈ (plc ms).filter (notIn met) ↔ p ∈ x :: r := fun p => by
    rw [← hx, List.mem_filter, List.mem_filter, (rot_perm ms h).mem_iff]
  have hp := (plc_rise ho).filter (notIn met)
  have hf : ∀ p ∈ (plc ms).filter (notIn met), 0 ≤ p.2 ∧ 0 ≤ p.1 ∧ p.1 < 4294967296 := fun p h1 => plc_facts ho ht (List.mem_filter.1 h1).1
  unfold nextR
  generalize (plc ms).filter (notIn met) = X at *
  cases X with
  | nil => have := (hm x).2 (List.mem_cons_self ..); simp at this
  | cons a X =>
    rw [List.pairwise_cons] at hp
    rw [List.foldl_cons]
    have e1 : stepN h (-1, 0) a = (a.2, distW h a.1) := by unfold stepN; rw [if_pos (.inl (by decide))]
    rw [e1]
    obtain ⟨p, h1, h2, h3, h4⟩ := fold_min h X a (hf a (List.mem_cons_self ..)).1 hp.1 hp.2
    rw [h2]
    have hpm : p ∈ x :: r := (hm p).1 (h1.elim (fun e => e ▸ List.mem_cons_self ..) (fun h1 => List.mem_cons_of_mem _ h1))
    have hxm : keyLe h p x := by
      rcases List.mem_cons.1 ((hm x).2 (List.mem_cons_self ..)) with rfl | hx2
      · exact h3
      · exact h4 x hx2
    rcases List.mem_cons.1 hpm with rfl | hpr
    · rfl
    · obtain ⟨k1, k2⟩ := hk.1 p hpr
      simp only
      unfold keyLe at *
      omega
theorem metF_split : ∀ (n : Nat) (l acc : List Int), l.length ≤ n → l.foldl metS acc = acc ++ metL (l.filter (fun y => !acc.contains y))
  | _, [], acc, _ => by simp [metL]
  | 0, x :: l, acc, hn => by simp at hn
  | n + 1, x :: l, acc, hn => by
    have hn' : l.length ≤ n := by simp only [List.length_cons] at hn; omega
    rw [List.foldl_cons]
    cases hx : acc.contains x with
    | true =>
      have e : metS acc x = acc := by unfold metS; rw [hx]; rfl
      rw [e, metF_split n l acc hn', List.filter_cons_of_neg (by simp only [hx]; decide)]
    | false =>
      have e : metS acc x = acc ++ [x] := by unfold metS; rw [hx]; rfl
      rw [e, metF_split n l (acc ++ [x]) hn', List.filter_cons_of_pos (by simp only [hx]; decide)]
      unfold metL
      rw [List.foldl_cons]
      have e2 : metS [] x = [x] := rfl
      rw [e2, metF_split n (l.filter fun y => !acc.contains y) [x] (Nat.le_trans (List.length_filter_le _ _) hn'), List.append_assoc]
      congr 2
      unfold metL
      rw [List.filter_filter]
      congr 1
      apply List.filter_congr
      intro y _
      simp [List.contains_eq_mem, Bool.and_comm]
theorem metL_step (l : List Int) : ∀ i, i ≤ (metL l).length → metL l = (metL l).take i ++ metL (l.filter (fun y => !((metL l).take i).contains y))
  | 0, _ => by
    have e : l.filter (fun y => !([] : List Int).contains y) = l := by rw [List.filter_eq_self]; intro y _; rfl
    rw [List.take_zero, e]; rfl
  | i + 1, hi => by
    have ih := metL_step l i (by omega)
    generalize hT : (metL l).take i = T at ih
    have hTl : T.length = i := by rw [← hT, List.length_take]; omega
    cases hF : l.filter (fun y => !T.contains y) with
    | nil =>
      rw [hF] at ih
      have := congrArg List.length ih
      rw [List.length_append, hTl] at this
      have e0 : (metL ([] : List Int)).length = 0 := rfl
      omega
    | cons x F =>
      have e1 : metL (x :: F) = x :: metL (F.filter fun y => !([x] : List Int).contains y) := by
        unfold metL
        rw [List.foldl_cons]
        exact metF_split _ F [x] (Nat.le_refl _)
      rw [hF, e1] at ih
      have e2 : (metL l).take (i + 1) = T ++ [x] := by
        conv => lhs; rw [ih]
        rw [List.take_append, hTl]
        simp [List.take_of_length_le (by omega : T.length ≤ i + 1)]
      rw [e2]
      conv => lhs; rw [ih]
      rw [List.append_assoc]
      congr 2
      congr 1
      have e3 : (F.filter fun y => !([x] : List Int).contains y) = (x :: F).filter fun y => !([x] : List Int).contains y := by
        rw [List.filter_cons_of_neg (by simp)]
      rw [e3, ← hF, List.filter_filter]
      apply List.filter_congr
      intro y _
      simp [List.contains_eq_mem, Bool.and_comm]
theorem metL_get (l : List Int) (i : Nat) (hi : i < (metL l).length) : ∃ x r, l.filter (fun y => !((metL l).take i).contains y) = x :: r ∧ (metL l)[i]? = some x := by
  have h := metL_step l i (by omega)
  have hTl : ((metL l).take i).length = i := by rw [List.length_take]; omega
  cases hF : l.filter (fun y => !((metL l).take i).contains y) with
  | nil =>
    rw [hF] at h
    have := congrArg List.length h
    rw [List.length_append, hTl] at this
    have e0 : (metL ([] : List Int)).length = 0 := rfl
    omega
  | cons x F =>
    refine ⟨x, F, rfl, ?_⟩
    rw [hF] at h
    have e1 : metL (x :: F) = x :: metL (F.filter fun y => !([x] : List Int).contains y) := by
      unfold metL
      rw [List.foldl_cons]
      exact metF_split _ F [x] (Nat.le_refl _)
    rw [h, List.getElem?_append_right (by omega), hTl, e1]
    simp
/-- The document's next is the program's. -/
theorem next_rep {ms : List Mem} (ho : ringOk ms = true) (ht : wfT ms) {h : Int} (hh : 0 ≤ h ∧ h < 4294967296) (i : Nat) (hi : i < (repM ms h).length) : (repM ms h).take (i + 1) = (repM ms h).take i ++ [nextR ms h ((repM ms h).take i)] := by
  obtain ⟨x, r, h1, h2⟩ := metL_get (idsP (rotP ms h)) i hi
  have e : idsP ((rotP ms h).filter (notIn ((repM ms h).take i))) = x :: r := by
    rw [← h1]
    unfold idsP
    rw [List.filter_map]
    rfl
  cases hc : (rotP ms h).filter (notIn ((repM ms h).take i)) with
  | nil => rw [hc] at e; simp [idsP] at e
  | cons p q =>
    rw [hc] at e
    simp only [idsP, List.map_cons, List.cons.injEq] at e
    rw [next_head ho ht hh _ hc, List.take_add_one]
    show _ ++ ((metL (idsP (rotP ms h)))[i]?).toList = _
    rw [h2, e.1]
    rfl
theorem len_sub : ∀ (l m : List Int), l.Nodup → (∀ x ∈ l, x ∈ m) → l.length ≤ m.length
  | [], m, _, _ => by simp
  | x :: l, m, hn, h => by
    rw [List.nodup_cons] at hn
    have hx := h x (List.mem_cons_self ..)
    have := len_sub l (m.erase x) hn.2 (fun y hy => (List.mem_erase_of_ne (by intro e; subst e; exact hn.1 hy)).2 (h y (List.mem_cons_of_mem _ hy)))
    rw [List.length_erase_of_mem hx] at this
    have := List.length_pos_of_mem hx
    simp only [List.length_cons]
    omega
def actN (ms : List Mem) : Nat := ms.countP (fun m => decide (m.2.1 = 2))
theorem act_len {ms : List Mem} (ho : ringOk ms = true) (h : Int) : (repM ms h).length = actN ms := by
  have e : actN ms = ((ms.filter (fun m => decide (m.2.1 = 2))).map (·.1)).length := by
    unfold actN; rw [List.length_map, List.countP_eq_length_filter]
  have hn : ((ms.filter (fun m => decide (m.2.1 = 2))).map (·.1)).Nodup := by
    have hr : (ms.map (·.1)).Pairwise (· < ·) := ringOk_rise ho
    rw [List.pairwise_map] at hr
    unfold List.Nodup
    rw [List.pairwise_map]
    exact (hr.filter _).imp (fun {a b} h e => by omega)
  have hm : ∀ x, x ∈ repM ms h ↔ x ∈ (ms.filter (fun m => decide (m.2.1 = 2))).map (·.1) := fun x => by
    rw [repM_mem, List.mem_map]
    constructor
    · rintro ⟨m, h1, h2, h3, _⟩
      exact ⟨m, List.mem_filter.2 ⟨h1, by simpa using h2⟩, h3⟩
    · rintro ⟨m, h1, h3⟩
      obtain ⟨h1, h2⟩ := List.mem_filter.1 h1
      refine ⟨m, h1, by simpa using h2, h3, fun e => ?_⟩
      have := (memOk_of ho h1).2.2.1
      rw [e] at this
      simp at this
  rw [e]
  exact Nat.le_antisymm (len_sub _ _ (repM_nodup ms h) (fun x hx => (hm x).1 hx)) (len_sub _ _ hn (fun x hx => (hm x).2 hx))
end Go.Proofs.YtaljjemickonaaaGreat

/- Rings: the document's has and next. -/
namespace Go.Proofs.YtaljjemickonaaaGreat
open Go.RowKit Go.Shelf
set_option linter.unusedVariables false
set_option maxRecDepth 20000

set_option maxHeartbeats 2000000 in
theorem r_has (a : Option Addr) (xs : List Int) (L c : Nat) (x : Int) (w : World) (hx : SRd intE w a xs) (hL : xs.length = L) (hz : L ≤ 1000) :
    Calls Tryz.prog 75 #[.slice a L c, .int .i64 x] w fun e w' => e = .returned (.bool (xs.contains x)) ∧ w.grownBy w' none := by
  have HX : Hid (SRd intE w a xs) := hx
  have HL : Hid (xs.length = L) := hL
  have HC : Hid (xs.contains x = true ↔ x ∈ xs) := by show _ ↔ _; simp
  generalize xs.contains x = R at HC ⊢
  clear hx hL
  go_enter Tryz.func75, Tryz.ntmps75
  go_wp2
  go_loopw [5] (fun i wr => ∃ k : Nat, k ≤ L ∧ i = .int .i64 k ∧ (∀ j, j < k → xs[j]? ≠ some x) ∧ ∃ n, wr = w.drewN n) (fun i _ => L - (intOf i).toNat)
  case atStart => exact ⟨0, Nat.zero_le _, rfl, fun j h => by omega, 0, rfl⟩
  case round =>
    obtain ⟨k, hk, rfl, hall, m, rfl⟩ := hrel
    have HA : Hid (∀ j, j < k → xs[j]? ≠ some x) := hall
    clear hall
    by_cases hlt : k < L
    · have h5 := HL.out
      obtain ⟨ba, offa, rfl, hca⟩ := HX.out.at (by omega)
      obtain ⟨x0, ex⟩ : ∃ x, xs[k]? = some x := ⟨_, List.getElem?_eq_getElem (by omega)⟩
      have a0 : w.cell? ⟨ba, offa + k, none⟩ = some (.int .i64 x0) := by have := hca k _ 0 _ ex rfl; simpa [intE] using this
      have EX : Hid (xs[k]? = some x0) := ex
      have hi : (k : Int) < (L : Int) := by omega
      clear hca ex h5
      by_cases hxx : x0 = x
      · have hb : (x0 == x) = true := by simp [hxx]
        have HN : Hid (true = R) := (HC.out.2 (by rw [← hxx]; exact List.mem_of_getElem? EX.out)).symm
        clear hxx
        go_wp2_with fail
        try go_quiet (fail)
        go_wp2
        go_ret
        exact ⟨ret_bool HN.out, gb_drewN _ _⟩
      · have hb : (x0 == x) = false := by simp [hxx]
        have HNE : Hid (x0 ≠ x) := hxx
        clear hxx
        go_wp2_with fail
        try go_quiet (fail)
        go_wp2
        go_roundw
        case rel =>
          refine ⟨k + 1, by omega, by go_num, fun j hj => ?_, _, rfl⟩
          by_cases e : j < k
          · exact HA.out j e
          · obtain rfl : j = k := by omega
            rw [EX.out]
            intro e2
            exact HNE.out (Option.some.inj e2)
        case measure => simp [intOf]; omega
    · obtain rfl : k = L := by omega
      have HN : Hid (false = R) := by
        cases hR : R with
        | false => rfl
        | true =>
          obtain ⟨j, hj⟩ := List.getElem?_of_mem (HC.out.1 hR)
          exact absurd hj (HA.out j (by have := (List.getElem?_eq_some_iff.1 hj).1; have := HL.out; omega))
      go_wp2
      go_ret
      exact ⟨ret_bool HN.out, gb_drewN _ _⟩
/-- How far next has come. -/
def accN (ms : List Mem) (h : Int) (met : List Int) (k : Nat) : Int × Int := ((plc (ms.take k)).filter (notIn met)).foldl (stepN h) (-1, 0)
def accT (h id : Int) (acc : Int × Int) (ts : List Int) (j : Nat) : Int × Int := ((ts.take j).map (fun t => (t, id))).foldl (stepN h) acc
theorem accN_skip {ms : List Mem} {h : Int} {met : List Int} {k : Nat} {m : Mem} (hm : ms[k]? = some m) (hs : m.2.1 ≠ 2 ∨ met.contains m.1 = true) : accN ms h met (k + 1) = accN ms h met k := by
  unfold accN
  rw [plc_take hm, List.filter_append, List.foldl_append]
  have e : (plcM m).filter (notIn met) = [] := by
    rw [List.filter_eq_nil_iff]
    intro p hp
    unfold plcM at hp
    split at hp
    · obtain ⟨t, _, rfl⟩ := List.mem_map.1 hp
      rcases hs with hs | hs
      · exact absurd ‹_› hs
      · unfold notIn; simp only [hs]; decide
    · simp at hp
  rw [e]; rfl
theorem accN_take {ms : List Mem} {h : Int} {met : List Int} {k : Nat} {m : Mem} (hm : ms[k]? = some m) (h2 : m.2.1 = 2) (hs : met.contains m.1 = false) : accN ms h met (k + 1) = accT h m.1 (accN ms h met k) m.2.2 m.2.2.length := by
  unfold accN accT
  rw [plc_take hm, List.filter_append, List.foldl_append]
  have e : (plcM m).filter (notIn met) = m.2.2.map (fun t => (t, m.1)) := by
    unfold plcM
    rw [if_pos h2, List.filter_eq_self]
    intro p hp
    obtain ⟨t, _, rfl⟩ := List.mem_map.1 hp
    unfold notIn; simp only [hs]; decide
  rw [e, List.take_length]
theorem accT_step {h id : Int} {acc : Int × Int} {ts : List Int} {j : Nat} {t : Int} (ht : ts[j]? = some t) : accT h id acc ts (j + 1) = stepN h (accT h id acc ts j) (t, id) := by
  unfold accT
  rw [List.take_add_one, ht]
  simp
set_option maxHeartbeats 16000000 in
theorem r_next (E : Int) (ms : List Mem) (raw : List MRow) (a : Option Addr) (L c : Nat) (h : Int) (ma : Option Addr) (met : List Int) (K mc : Nat) (w : World) (hx : MsRd w a ms raw) (hL : ms.length = L) (hz : L ≤ 3518437208800) (hz2 : ∀ s ∈ ms, s.2.2.length ≤ 35184372088832) (hm : SRd intE w ma met) (hK : met.length = K) (hK5 : K ≤ 1000) :
    Calls Tryz.prog 55 #[.agg #[.int .u64 E, .slice a L c], .int .u32 h, .slice ma K mc] w fun e w' => e = .returned (.int .i64 (nextR ms h met)) ∧ w.grownBy w' none := by
  have HX : Hid (MsRd w a ms raw) := hx
  have HL : Hid (ms.length = L) := hL
  have HZ : Hid (∀ s ∈ ms, s.2.2.length ≤ 35184372088832) := hz2
  have HQ : Hid ((accN ms h met L).1 = nextR ms h met) := by show _ = _; unfold accN nextR; rw [← hL, List.take_length]
  have HHAS : Hid (∀ u x, w.grownBy u none → Calls Tryz.prog 75 #[.slice ma K mc, .int .i64 x] u fun e w' => e = .returned (.bool (met.contains x)) ∧ u.grownBy w' none) := fun u x hg => r_has ma met K mc x u (hm.grown hg (by simp)) hK hK5
  generalize nextR ms h met = Q at HQ ⊢
  have HG : Hid (w.grownBy (w.alloc (.cells #[.int .u64 E, .slice a L c] 25)) none) := World.grownBy_alloc w _ none
  have K1 : Hid ((w.alloc (.cells #[.int .u64 E, .slice a L c] 25)).cell? ⟨w.heap.size, 1, none⟩ = some (.slice a L c)) := (boxed_cells w E (.slice a L c)).2
  obtain ⟨B, eB⟩ : ∃ B, w.heap.size = B := ⟨_, rfl⟩
  rw [eB] at K1
  have EB : Hid (w.heap.size = B) := eB
  clear hx hL hz2 eB hm hK hK5
  go_enter Tryz.func55, Tryz.ntmps55
  go_wp2
  try rw [EB.out]
  generalize w.alloc (.cells #[.int .u64 E, .slice a L c] 25) = W at HG K1 ⊢
  go_loopw [7, 8, 9] (fun t7 t8 t9 wr => ∃ (k : Nat), k ≤ L ∧ t9 = .int .i64 k ∧ t7 = .int .i64 (accN ms h met k).1 ∧ t8 = .int .u32 (accN ms h met k).2 ∧ W.grownBy wr none) (fun _ _ t9 _ => L - (intOf t9).toNat)
  case atStart => exact ⟨0, Nat.zero_le _, rfl, rfl, rfl, World.grownBy.refl _ _⟩
  case round =>
    obtain ⟨k, hk, rfl, rfl, rfl, hw⟩ := hrel
    have HW : Hid (W.grownBy wr none) := hw
    clear hw
    have kb := HW.out.cell K1.out (by simp)
    by_cases hlt : k < L
    · have hki : (k : Int) < (L : Int) := by omega
      have hl := HL.out
      have hX := HX.out.grown (HG.out.trans HW.out)
      obtain ⟨⟨i1, s1, t1⟩, ex⟩ : ∃ x, ms[k]? = some x := ⟨_, List.getElem?_eq_getElem (by omega)⟩
      obtain ⟨ba, off, ta, tc, rfl, a0, a1, a2, rt, _⟩ := hX.cells ex
      have z1 := HZ.out _ (List.mem_of_getElem? ex)
      simp only at a0 a1 a2 rt z1
      have EX : Hid (ms[k]? = some (i1, s1, t1)) := ex
      have HRT : Hid (SRd wordE wr ta t1) := rt
      obtain ⟨n1, en1⟩ : ∃ n1, t1.length = n1 := ⟨_, rfl⟩
      have EN : Hid (t1.length = n1) := en1
      rw [en1] at a2 z1
      obtain ⟨Bm, eBm⟩ : ∃ Bm, wr.heap.size = Bm := ⟨_, rfl⟩
      have EBm : Hid (wr.heap.size = Bm) := eBm
      have gU := World.grownBy_alloc wr (.cells #[.int .i64 i1, .int .i64 s1, .slice ta n1 tc] 61) none
      have hU : (wr.alloc (.cells #[.int .i64 i1, .int .i64 s1, .slice ta n1 tc] 61)).heap[Bm]? = some (.cells #[.int .i64 i1, .int .i64 s1, .slice ta n1 tc] 61 (0, 0)) := by rw [← eBm]; exact heap_alloc_new wr _
      obtain ⟨q0, q1, q2⟩ := cell3 hU
      have HGU : Hid (wr.grownBy (wr.alloc (.cells #[.int .i64 i1, .int .i64 s1, .slice ta n1 tc] 61)) none) := gU
      have HS0 : Hid (s1 ≠ 2 ∨ met.contains i1 = true → accN ms h met (k + 1) = accN ms h met k) := fun e => accN_skip EX.out e
      have HS1 : Hid (s1 = 2 → met.contains i1 = false → accN ms h met (k + 1) = accT h i1 (accN ms h met k) t1 n1) := fun e e2 => by
        have := accN_take EX.out e e2 (h := h)
        rw [this]; simp only [en1]
      have C75 := HHAS.out (wr.alloc (.cells #[.int .i64 i1, .int .i64 s1, .slice ta n1 tc] 61)) i1 ((HG.out.trans HW.out).trans gU)
      clear ex hX rt en1 eBm gU hU hl
      by_cases hs2 : s1 = 2
      · have hb2 : (s1 != 2) = false := by simp [hs2]
        have HSE : Hid (s1 = 2) := hs2
        clear hs2
        go_wp2_with fail
        rw [EBm.out]
        generalize wr.alloc (.cells #[.int .i64 i1, .int .i64 s1, .slice ta n1 tc] 61) = U at *
        clear a0 a1 a2 kb
        refine C75.mono ?_
        clear C75
        rintro e u1 ⟨rfl, g9⟩
        have HG1 : Hid (U.grownBy u1 none) := g9
        have p0 := g9.cell q0 (by simp)
        have p2 := g9.cell q2 (by simp)
        clear g9 q0 q1 q2
        cases hct : met.contains i1 with
        | true =>
          have HAC : Hid (accN ms h met (k + 1) = accN ms h met k) := HS0.out (.inr hct)
          clear hct
          go_wp2
          go_roundw
          case rel => exact ⟨k + 1, by omega, by go_num, by rw [HAC.out], by rw [HAC.out], (HW.out.trans HGU.out).trans HG1.out⟩
          case measure => simp [intOf]; omega
        | false =>
          have HAC : Hid (accN ms h met (k + 1) = accT h i1 (accN ms h met k) t1 n1) := HS1.out HSE.out hct
          clear hct
          have HA0 : Hid (accT h i1 (accN ms h met k) t1 0 = accN ms h met k) := rfl
          generalize accN ms h met k = A0 at *
          go_wp2
          go_loopw [7, 8, 11] (fun t7 t8 t11 wx => ∃ (j : Nat), j ≤ n1 ∧ t11 = .int .i64 (j : Int) ∧ t7 = .int .i64 (accT h i1 A0 t1 j).1 ∧ t8 = .int .u32 (accT h i1 A0 t1 j).2 ∧ u1.grownBy wx none) (fun _ _ t11 _ => n1 - (intOf t11).toNat)
          case atStart => exact ⟨0, by omega, rfl, by rw [HA0.out], by rw [HA0.out], World.grownBy.refl _ _⟩
          case round =>
            obtain ⟨j, hj, rfl, rfl, rfl, hgx⟩ := hrel
            have HGX : Hid (u1.grownBy wr none) := hgx
            have y0 := hgx.cell p0 (by simp)
            have y2 := hgx.cell p2 (by simp)
            clear hgx
            by_cases hjl : j < n1
            · have hji : (j : Int) < (n1 : Int) := by omega
              have hen := EN.out
              obtain ⟨tb, tof, e2, hca⟩ := (HRT.out.grown ((HGU.out.trans HG1.out).trans HGX.out) (by simp)).at (by omega)
              subst e2
              obtain ⟨x0, e0⟩ : ∃ x, t1[j]? = some x := ⟨_, List.getElem?_eq_getElem (by omega)⟩
              have b0 : wr.cell? ⟨tb, tof + j, none⟩ = some (.int .u32 x0) := by have := hca j _ 0 _ e0 rfl; simpa [wordE] using this
              have HST : Hid (accT h i1 A0 t1 (j + 1) = stepN h (accT h i1 A0 t1 j) (x0, i1)) := accT_step e0
              generalize accT h i1 A0 t1 j = F0 at *
              obtain ⟨best, far⟩ := F0
              obtain ⟨dd, edd⟩ : ∃ dd, IntKind.u32.wrap (x0 - h) = dd := ⟨_, rfl⟩
              have HST2 : Hid (accT h i1 A0 t1 (j + 1) = if best < 0 ∨ dd < far then (i1, dd) else (best, far)) := by
                show _ = _
                rw [HST.out]; unfold stepN distW; rw [edd]
              clear hca e0 hen HST
              by_cases hb0 : best < 0
              · have hd0 : decide (best < 0) = true := by simp [hb0]
                have HF : Hid (accT h i1 A0 t1 (j + 1) = (i1, dd)) := by show _ = _; rw [HST2.out, if_pos (.inl hb0)]
                clear hb0
                go_wp2
                go_roundw
                case rel => exact ⟨j + 1, by omega, by go_num, by rw [HF.out], by rw [HF.out], HGX.out⟩
                case measure => simp [intOf]; omega
              · have hd0 : decide (best < 0) = false := by simp; omega
                by_cases hb1 : dd < far
                · have hd1 : decide (dd < far) = true := by simp [hb1]
                  have HF : Hid (accT h i1 A0 t1 (j + 1) = (i1, dd)) := by show _ = _; rw [HST2.out, if_pos (.inr hb1)]
                  clear hb0 hb1
                  go_wp2
                  go_roundw
                  case rel => exact ⟨j + 1, by omega, by go_num, by rw [HF.out], by rw [HF.out], HGX.out⟩
                  case measure => simp [intOf]; omega
                · have hd1 : decide (dd < far) = false := by simp; omega
                  have HF : Hid (accT h i1 A0 t1 (j + 1) = (best, far)) := by show _ = _; rw [HST2.out, if_neg (by omega)]
                  clear hb0 hb1
                  go_wp2
                  go_roundw
                  case rel => exact ⟨j + 1, by omega, by go_num, by rw [HF.out], by rw [HF.out], HGX.out⟩
                  case measure => simp [intOf]; omega
            · obtain rfl : j = n1 := by omega
              go_wp2
              go_roundw
              case rel => exact ⟨k + 1, by omega, by go_num, by rw [HAC.out], by rw [HAC.out], ((HW.out.trans HGU.out).trans HG1.out).trans HGX.out⟩
              case measure => simp [intOf]; omega
      · have hb2 : (s1 != 2) = true := by simp [hs2]
        have HAC : Hid (accN ms h met (k + 1) = accN ms h met k) := HS0.out (.inl hs2)
        clear hs2 C75
        go_wp2
        go_roundw
        case rel => exact ⟨k + 1, by omega, by go_num, by rw [HAC.out], by rw [HAC.out], HW.out.trans HGU.out⟩
        case measure => simp [intOf]; omega
    · obtain rfl : k = L := by omega
      go_wp2
      go_ret
      exact ⟨by rw [← HQ.out]; rfl, HG.out.trans HW.out⟩
end Go.Proofs.YtaljjemickonaaaGreat

