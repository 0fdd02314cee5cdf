/- ParseBins: its maths. -/
import Derived.Test.YtnimdngiejcljaaVe
namespace Go.Proofs.Ytnimdngiejcljaa
open Go.RowKit
set_option linter.unusedVariables false
set_option linter.unusedSimpArgs false
set_option maxRecDepth 20000

def rowL (k : Nat) : Nat := if k = 11 then 0 else if k = 10 ∨ k = 12 then 1 else if 4 ≤ k ∧ k < 10 then 2 else if k < 2 then 3 else 4
theorem rowL_lt (k : Nat) : rowL k < 5 := by unfold rowL; split <;> (try split) <;> (try split) <;> (try split) <;> omega
theorem find_all : ((List.range 13).all fun k => decide (findB (opI k) opsR = (k : Int) + 1)) = true := by kernel_rfl
theorem rows_have : ((List.range 13).all fun k => (List.range 5).all fun i => decide ((rowOps i).contains ((k : Int) + 1) = decide (i = rowL k))) = true := by kernel_rfl
theorem row_has {k i : Nat} (hk : k < 13) (hi : i < 5) : (rowOps i).contains ((k : Int) + 1) = decide (i = rowL k) := by
  have h := rows_have
  rw [List.all_eq_true] at h
  have h1 := h k (List.mem_range.2 hk)
  rw [List.all_eq_true] at h1
  simpa using h1 i (List.mem_range.2 hi)
theorem num_op {k : Nat} {t : Tok} (hk : k < 13) (h : strip t = (if 10 ≤ k then 3 else 5, opI k, 0)) : numIn opsR t = (k : Int) + 1 := by
  have h1 : t.1 = if 10 ≤ k then 3 else 5 := congrArg (fun x => x.1) h
  have h2 : t.2.2.1 = opI k := congrArg (fun x => x.2.1) h
  have hm : meanB t = true := by unfold meanB; rw [h1]; split <;> rfl
  have hf := find_all
  rw [List.all_eq_true] at hf
  have hf1 : findB (opI k) opsR = (k : Int) + 1 := by simpa using hf k (List.mem_range.2 hk)
  unfold numIn
  rw [if_pos hm, h2, hf1]
  omega
theorem take_op {k i : Nat} {t : Tok} {ts : List Tok} (hk : k < 13) (hi : i < 5) (h : strip t = (if 10 ≤ k then 3 else 5, opI k, 0)) : takeN opsR (rowOps i) (t :: ts) = if i = rowL k then (k : Int) + 1 else 0 := by
  unfold takeN
  show (if (rowOps i).contains (numIn opsR t) = true then numIn opsR t else 0) = _
  rw [num_op hk h, row_has hk hi]
  simp
theorem rest_op {k : Nat} {t : Tok} {ts : List Tok} (hk : k < 13) (h : strip t = (if 10 ≤ k then 3 else 5, opI k, 0)) : takeR opsR (rowOps (rowL k)) (t :: ts) = ts := by
  unfold takeR
  show (if (rowOps (rowL k)).contains (numIn opsR t) = true then ts else t :: ts) = _
  rw [num_op hk h, row_has hk (rowL_lt k)]
  simp
theorem grp_open {R r : List Tok} {o : Tok} (hR : R = o :: r) (ho : OpT o) : groupR 5000 [3, 4] R = .ok (0, []) R := by
  subst hR
  have h : numIn grpsR o = 0 := by
    unfold numIn
    rw [ho.2]
    split <;> rfl
  have e1 : takeN grpsR [3, 4] (o :: r) = 0 := by
    unfold takeN
    show (if ([3, 4] : List Int).contains (numIn grpsR o) = true then numIn grpsR o else 0) = _
    rw [h]; rfl
  have e2 : takeR grpsR [3, 4] (o :: r) = o :: r := by
    unfold takeR
    show (if ([3, 4] : List Int).contains (numIn grpsR o) = true then r else o :: r) = _
    rw [h]; rfl
  unfold groupR
  rw [if_pos e1, e2]
def onN : List ByteArray := [⟨#[97]⟩, ⟨#[111, 114]⟩]
theorem grp_onF : (fun (p1 p2 p3 p4 p5 p6 : Int) (R : List Tok) => groupR 5000 [3, 4] ((3, p1, ⟨#[111, 110]⟩, 0) :: (5, p2, ⟨#[40]⟩, 0) :: (3, p3, ⟨#[97]⟩, 0) :: (5, p4, ⟨#[44]⟩, 0) :: (3, p5, ⟨#[111, 114]⟩, 0) :: (5, p6, ⟨#[41]⟩, 0) :: R)) = (fun (p1 p2 p3 p4 p5 p6 : Int) (R : List Tok) => Rs.ok (3, onN) R) := by kernel_rfl
theorem grp_on {R vo : List Tok} (h : vo.map strip = onT) : groupR 5000 [3, 4] (vo ++ R) = .ok (3, onN) R := by
  match vo with
  | [] => exact absurd (congrArg List.length h) (by simp [onT])
  | [_] => exact absurd (congrArg List.length h) (by simp [onT])
  | [_, _] => exact absurd (congrArg List.length h) (by simp [onT])
  | [_, _, _] => exact absurd (congrArg List.length h) (by simp [onT])
  | [_, _, _, _] => exact absurd (congrArg List.length h) (by simp [onT])
  | [_, _, _, _, _] => exact absurd (congrArg List.length h) (by simp [onT])
  | _ :: _ :: _ :: _ :: _ :: _ :: _ :: _ => exact absurd (congrArg List.length h) (by simp [onT])
  | [⟨k1, p1, s1⟩, ⟨k2, p2, s2⟩, ⟨k3, p3, s3⟩, ⟨k4, p4, s4⟩, ⟨k5, p5, s5⟩, ⟨k6, p6, s6⟩] =>
    simp only [List.map_cons, List.map_nil, strip, onT, List.cons.injEq, Prod.mk.injEq, and_true] at h
    obtain ⟨⟨rfl, rfl⟩, ⟨rfl, rfl⟩, ⟨rfl, rfl⟩, ⟨rfl, rfl⟩, ⟨rfl, rfl⟩, ⟨rfl, rfl⟩⟩ := h
    exact congrFun (congrFun (congrFun (congrFun (congrFun (congrFun (congrFun grp_onF p1) p2) p3) p4) p5) p6) R
theorem bool_no {k : Int} {t : Tok} {ts : List Tok} (h : t.2.2.1 ≠ boolS) : boolN k (t :: ts) = false := by
  unfold boolN
  rw [not_tok (x := t.2.2.1) rfl h, Bool.and_false]
theorem mid_facts {k : Nat} {on : Bool} {vm R r : List Tok} {o : Tok} (hk : k < 13) (hm : vm.map strip = midT k on) (hR : R = o :: r) (ho : OpT o) :
    (∀ i, i < 5 → takeN opsR (rowOps i) (vm ++ R) = if i = rowL k then (k : Int) + 1 else 0) ∧ boolN ((k : Int) + 1) (takeR opsR (rowOps (rowL k)) (vm ++ R)) = cmpK k on ∧
      groupR 5000 [3, 4] (boolR ((k : Int) + 1) (takeR opsR (rowOps (rowL k)) (vm ++ R))) = .ok (if on = true then (3, onN) else (0, [])) R := by
  unfold midT at hm
  cases vm with
  | nil => cases hm
  | cons t vr =>
    rw [List.map_cons] at hm
    injection hm with h1 h2
    rw [List.cons_append]
    refine ⟨fun i hi => take_op hk hi h1, ?_⟩
    rw [rest_op hk h1]
    cases on with
    | false =>
      have hv : vr = [] := by
        have hc : cmpK k false = false := rfl
        rw [hc] at h2
        cases vr with
        | nil => rfl
        | cons _ _ => cases h2
      subst hv
      have hb : boolN ((k : Int) + 1) ([] ++ R) = false := by
        rw [List.nil_append, hR]
        exact bool_no (by rw [ho.2]; decide)
      unfold boolR
      rw [hb]
      exact ⟨rfl, grp_open hR ho⟩
    | true =>
      by_cases hc : cmpK k true = true
      · rw [hc] at h2
        cases vr with
        | nil => cases h2
        | cons tb vo =>
          have h2' : strip tb :: vo.map strip = (3, ⟨#[98, 111, 111, 108]⟩, 0) :: onT := h2
          injection h2' with h3 h4
          have hb : boolN ((k : Int) + 1) (tb :: vo ++ R) = true := by
            unfold cmpK at hc
            simp only [Bool.true_and, Bool.and_eq_true, decide_eq_true_eq] at hc
            unfold boolN
            have hm3 : meanB tb = true := by
              have : tb.1 = 3 := congrArg (fun x => x.1) h3
              unfold meanB; rw [this]; rfl
            have ht3 : tb.2.2.1 = boolS := congrArg (fun x => x.2.1) h3
            have hi : isB boolS (tb :: vo ++ R) = true := by
              unfold isB
              show (meanB tb && decide (tb.2.2.1 = boolS)) = true
              rw [hm3, ht3]; simp
            rw [hi, decide_eq_true (by omega), decide_eq_true (by omega)]
            rfl
          unfold boolR
          rw [hb, hc]
          exact ⟨rfl, grp_on h4⟩
      · have hc' : cmpK k true = false := by simpa using hc
        rw [hc'] at h2
        have h4 : vr.map strip = onT := h2
        have hb : boolN ((k : Int) + 1) (vr ++ R) = false := by
          cases vr with
          | nil => cases h4
          | cons t2 v2 =>
            have h5 : strip t2 :: v2.map strip = onT := h4
            unfold onT at h5
            injection h5 with h6 _
            have : t2.2.2.1 = ⟨#[111, 110]⟩ := congrArg (fun x => x.2.1) h6
            exact bool_no (by rw [this]; decide)
        unfold boolR
        rw [hb, hc']
        exact ⟨rfl, grp_on h4⟩
def grpK (on : Bool) : Int × List ByteArray := if on = true then (3, onN) else (0, [])
def binT (k : Nat) (on : Bool) : Nd := binN ((k : Int) + 1) (cmpK k on) (grpK on).1 (grpK on).2
/-- Two queries in brackets, an operation between. -/
theorem parse_bins {a b u : ByteArray} {x y : List Nd} {k : Nat} {on : Bool} (hk : k < 13) (ha : parseR a = .ok x) (hb : parseR b = .ok y)
    (hu : sInts u = 40 :: (sInts a ++ 41 :: (midL k on ++ 32 :: 40 :: (sInts b ++ [41])))) (hl : u.size ≤ 4096) :
    parseR u = .ok (x ++ (y ++ [binT k on])) ∨ ∃ p, parseR u = .bad p 182 := by
  obtain ⟨ta, a1, a2⟩ := parseR_inv ha
  obtain ⟨tb, b1, b2⟩ := parseR_inv hb
  obtain ⟨_, ua, za, rfl, hza, a3⟩ := lexR_split a1
  obtain ⟨_, ub, zb, rfl, hzb, b3⟩ := lexR_split b1
  obtain ⟨ra, a4, ha0⟩ := parseT_inv a2
  obtain ⟨rb, b4, hb0⟩ := parseT_inv b2
  obtain ⟨va, vm, vb, o, c, o2, c2, z, hva, hvb, hvm, ho, hc, ho2, hc2, hz, e⟩ := bins_lex a3 b3 hk on
  generalize hts : o :: (va ++ c :: (vm ++ o2 :: (vb ++ c2 :: [z]))) = ts at e
  have e6 : lexR u = .ok ts := by
    unfold lexR
    rw [if_neg (by omega), hu, e]
  have hvl : ts.length < 5000 := by have := (lexR_end e6).2; omega
  rw [parseR_lex e6]
  have hzs : ∀ i, takeN opsR (rowOps i) [z] = 0 := fun i => ops_stop (.inl hz)
  obtain ⟨f1, f2, f3⟩ := mid_facts (R := o2 :: (vb ++ c2 :: [z])) hk hvm rfl ho2
  have h1 := one_bk (T := vm ++ o2 :: (vb ++ c2 :: [z])) a4 ha0 hza hva ho hc
  have h2 := one_bk (T := [z]) b4 hb0 hzb hvb ho2 hc2
  rw [hts] at h1
  have hL := rowL_lt k
  have hk0 : (k : Int) + 1 ≠ 0 := by omega
  have key : Rdd 0 ts (x ++ (y ++ [binT k on])) [z] ∨ Dpp 0 ts := by
    rcases h1 with h1 | h1
    · have g1 : Rdd (rowL k + 1) ts x (vm ++ o2 :: (vb ++ c2 :: [z])) := rd_down (by omega) (5 - (rowL k + 1)) (rowL k + 1) (by omega) (fun i i1 i2 => by rw [f1 i i2, if_neg (by omega)]) h1
      have fo := f1 (rowL k) hL
      rw [if_pos rfl] at fo
      rcases h2 with h2 | h2
      · have g2 : Rdd (rowL k + 1) (o2 :: (vb ++ c2 :: [z])) y [z] := rd_down (by omega) (5 - (rowL k + 1)) (rowL k + 1) (by omega) (fun i _ _ => hzs i) h2
        exact .inl (rd_down (hi := rowL k) (by omega) (rowL k) 0 (by omega) (fun i _ _ => hzs i) (rd_take hL g1 fo hk0 f2 f3 g2 (hzs _)))
      · have g2 : Dpp (rowL k + 1) (o2 :: (vb ++ c2 :: [z])) := dp_down (by omega) (5 - (rowL k + 1)) (rowL k + 1) (by omega) h2
        exact .inr (dp_down (hi := rowL k) (by omega) (rowL k) 0 (by omega) (dp_take hL g1 fo hk0 f3 g2))
    · exact .inr (dp_down (by omega) 5 0 (by omega) h1)
  rcases key with ⟨f, g⟩ | ⟨f, p, g⟩
  · exact .inl (parseT_ok hvl g hz)
  · exact .inr ⟨p, parseT_bad hvl g⟩
end Go.Proofs.Ytnimdngiejcljaa
