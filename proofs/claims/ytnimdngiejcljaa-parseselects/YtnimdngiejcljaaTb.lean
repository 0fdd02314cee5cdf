/- A select's tokens, read. -/
import Derived.Test.YtnimdngiejcljaaTa
namespace Go.Proofs.Ytnimdngiejcljaa
open Go.RowKit
set_option linter.unusedVariables false
set_option linter.unusedSimpArgs false
set_option maxRecDepth 20000

theorem strip_eq {t : Tok} {k sp : Int} {s : ByteArray} (h : strip t = (k, s, sp)) : t.1 = k ∧ t.2.2.1 = s ∧ t.2.2.2 = sp := by
  obtain ⟨a, b, c, d⟩ := t
  injection h with h1 h2
  injection h2 with h2 h3
  exact ⟨h1, h2, h3⟩
theorem isB_of {s : ByteArray} {t : Tok} {ts : List Tok} (h1 : t.1 = 3 ∨ t.1 = 5) (h2 : t.2.2.1 = s) : isB s (t :: ts) = true := by
  unfold isB meanB
  show ((decide (t.1 = 3) || decide (t.1 = 5)) && decide (t.2.2.1 = s)) = true
  rw [h2, decide_eq_true rfl, Bool.and_true]
  rcases h1 with h | h <;> rw [h] <;> rfl
theorem t_isBkind {s : ByteArray} {t : Tok} {ts : List Tok} (h1 : t.1 ≠ 3) (h2 : t.1 ≠ 5) : isB s (t :: ts) = false := by
  unfold isB meanB
  show ((decide (t.1 = 3) || decide (t.1 = 5)) && decide (t.2.2.1 = s)) = false
  rw [decide_eq_false h1, decide_eq_false h2]
  rfl
theorem need_of {s : ByteArray} {t : Tok} {T : List Tok} (h1 : t.1 = 3 ∨ t.1 = 5) (h2 : t.2.2.1 = s) : need s (t :: T) = .ok () T := by
  unfold need
  rw [if_pos (isB_of h1 h2)]
  rfl
def kindS (k : Int) : ByteArray := kindsR.getD k.toNat ⟨#[]⟩
theorem kind_num {t : Tok} {k sp : Int} (h1 : 1 ≤ k) (h4 : k ≤ 4) (h : strip t = (5, kindS k, sp)) : numIn kindsR t = k := by
  obtain ⟨a, b, c, d⟩ := t
  injection h with h1 h2
  injection h2 with h2 h3
  subst h1 h2
  have : k = 1 ∨ k = 2 ∨ k = 3 ∨ k = 4 := by omega
  rcases this with rfl | rfl | rfl | rfl <;> rfl
theorem kindS_ne {k : Int} (h1 : 1 ≤ k) (h4 : k ≤ 4) : kindS k ≠ ⟨#[125]⟩ ∧ kindS k ≠ ⟨#[44]⟩ := by
  have : k = 1 ∨ k = 2 ∨ k = 3 ∨ k = 4 := by omega
  rcases this with rfl | rfl | rfl | rfl <;> exact ⟨by decide, by decide⟩
/-- A matcher's tokens. -/
def mtT (m : Mt) : List Tk3 := [(3, m.2.1, 0), (5, kindS m.1, 0), (4, m.2.2, 0)]
theorem map3 {us : List Tok} {a b c : Tk3} {r : List Tk3} (h : us.map strip = a :: b :: c :: r) : ∃ x y z vs, us = x :: y :: z :: vs ∧ strip x = a ∧ strip y = b ∧ strip z = c ∧ vs.map strip = r := by
  match us with
  | [] => cases h
  | [_] => cases h
  | [_, _] => cases h
  | x :: y :: z :: vs =>
    injection h with h1 h
    injection h with h2 h
    injection h with h3 h
    exact ⟨x, y, z, vs, rfl, h1, h2, h3, h⟩
theorem map1 {us : List Tok} {a : Tk3} {r : List Tk3} (h : us.map strip = a :: r) : ∃ x vs, us = x :: vs ∧ strip x = a ∧ vs.map strip = r := by
  match us with
  | [] => cases h
  | x :: vs =>
    injection h with h1 h
    exact ⟨x, vs, rfl, h1, h⟩
theorem matB_of {ms : List Mt} (h : matsB ms = true) {m : Mt} (hm : m ∈ ms) : 1 ≤ m.1 ∧ m.1 ≤ 4 ∧ nameB m.2.1 = true ∧ m.2.2.size ≤ 256 := by
  unfold matsB at h
  rw [Bool.and_eq_true] at h
  have := List.all_eq_true.1 h.2 m hm
  unfold matB at this
  simp only [Bool.and_eq_true, decide_eq_true_eq] at this
  exact ⟨this.1.1.1, this.1.1.2, this.1.2, this.2⟩
theorem matsB_left {a b : List Mt} (h : matsB (a ++ b) = true) : matsB a = true := by
  unfold matsB at h ⊢
  simp only [Bool.and_eq_true, decide_eq_true_eq, List.length_append, List.all_append] at h ⊢
  exact ⟨by omega, h.2.1⟩
theorem mt_step {acc : List Mt} {m : Mt} {x y z : Tok} {T : List Tok} (hx : strip x = (3, m.2.1, 0)) (hy : strip y = (5, kindS m.1, 0)) (hz : strip z = (4, m.2.2, 0)) (h : matsB (acc ++ [m]) = true) : mstep acc (x :: y :: z :: T) = .ok (acc ++ [m]) T := by
  obtain ⟨h1, h4, hn, hv⟩ := matB_of h (List.mem_append_right _ (List.mem_singleton.2 rfl))
  obtain ⟨x1, x2, _⟩ := strip_eq hx
  obtain ⟨z1, z2, _⟩ := strip_eq hz
  have hk := kind_num h1 h4 hy
  have hl : lname (x :: y :: z :: T) = .ok m.2.1 (y :: z :: T) := by
    unfold lname
    rw [show hd (x :: y :: z :: T) = x from rfl, x1, x2, hn]
    rfl
  unfold mstep questR
  rw [hl, bind_ok]
  unfold must
  rw [show hd (y :: z :: T) = y from rfl, hk, decide_eq_false (by omega), show (!false) = true from rfl, if_pos rfl, bind_ok]
  rw [show hd ((y :: z :: T).tail) = z from rfl, decide_eq_true z1, if_pos rfl, bind_ok, bind_ok]
  unfold withR
  rw [show hd ((y :: z :: T).tail) = z from rfl, z2, if_pos h]
  rfl
/-- What is behind the first matcher. -/
def tailT (ms : List Mt) : List Tk3 := ms.flatMap fun m => (5, ⟨#[44]⟩, 0) :: mtT m
def listT : List Mt → List Tk3
  | [] => []
  | m :: ms => mtT m ++ tailT ms
theorem more_mats {c : Tok} {T : List Tok} (hc : strip c = (5, ⟨#[125]⟩, 0)) : ∀ (ms : List Mt) (f : Nat) (acc : List Mt) (us : List Tok), ms.length < f → us.map strip = tailT ms → matsB (acc ++ ms) = true → moreR mstep ⟨#[125]⟩ f acc (us ++ c :: T) = .ok (acc ++ ms) T := by
  intro ms
  obtain ⟨c1, c2, _⟩ := strip_eq hc
  induction ms with
  | nil =>
    intro f acc us hf hu hm
    have : us = [] := by
      cases us with
      | nil => rfl
      | cons _ _ => cases hu
    subst this
    match f, hf with
    | f + 1, _ =>
      unfold moreR
      rw [List.nil_append, not_tok c2 (by decide), if_neg (by decide), need_of (.inr c1) c2, bind_ok, List.append_nil]
  | cons m ms ih =>
    intro f acc us hf hu hm
    match f, hf with
    | f + 1, hf =>
      rw [List.length_cons] at hf
      obtain ⟨k, vs, rfl, hk, hv⟩ := map1 (us := us) (a := (5, ⟨#[44]⟩, 0)) (r := mtT m ++ tailT ms) hu
      obtain ⟨x, y, z, ws, rfl, hx, hy, hz, hw⟩ := map3 (us := vs) (a := (3, m.2.1, 0)) (b := (5, kindS m.1, 0)) (c := (4, m.2.2, 0)) (r := tailT ms) hv
      obtain ⟨k1, k2, _⟩ := strip_eq hk
      have hm2 : matsB ((acc ++ [m]) ++ ms) = true := by rw [List.append_assoc]; exact hm
      unfold moreR
      rw [List.cons_append, isB_of (.inr k1) k2, if_pos rfl, List.tail_cons]
      simp only [List.cons_append]
      rw [mt_step hx hy hz (matsB_left hm2), bind_ok, ih f (acc ++ [m]) ws (by omega) hw hm2, List.append_assoc]
      rfl
theorem list_mats {f : Nat} {acc ms : List Mt} {o c : Tok} {us T : List Tok} (ho : strip o = (5, ⟨#[123]⟩, 0)) (hc : strip c = (5, ⟨#[125]⟩, 0)) (hf : ms.length ≤ f) (hu : us.map strip = listT ms) (hm : matsB (acc ++ ms) = true) : listR mstep ⟨#[123]⟩ ⟨#[125]⟩ f acc (o :: (us ++ c :: T)) = .ok (acc ++ ms) T := by
  obtain ⟨o1, o2, _⟩ := strip_eq ho
  obtain ⟨c1, c2, _⟩ := strip_eq hc
  unfold listR
  rw [need_of (.inr o1) o2, bind_ok]
  cases ms with
  | nil =>
    have : us = [] := by
      cases us with
      | nil => rfl
      | cons _ _ => cases hu
    subst this
    rw [List.nil_append, isB_of (.inr c1) c2, if_pos rfl, List.append_nil]
    rfl
  | cons m ms =>
    obtain ⟨x, y, z, ws, rfl, hx, hy, hz, hw⟩ := map3 (us := us) (a := (3, m.2.1, 0)) (b := (5, kindS m.1, 0)) (c := (4, m.2.2, 0)) (r := tailT ms) hu
    obtain ⟨h1, h4, hn, hv⟩ := matB_of hm (List.mem_append_right _ (List.mem_cons_self))
    obtain ⟨x1, x2, _⟩ := strip_eq hx
    have hne : m.2.1 ≠ ⟨#[125]⟩ := fun e => by rw [e] at hn; revert hn; decide
    have hm2 : matsB ((acc ++ [m]) ++ ms) = true := by rw [List.append_assoc]; exact hm
    rw [List.length_cons] at hf
    simp only [List.cons_append]
    rw [not_tok x2 hne, if_neg (by decide), mt_step hx hy hz (matsB_left hm2), bind_ok, more_mats hc ms f (acc ++ [m]) ws (by omega) hw hm2, List.append_assoc]
    rfl
/-- A select's word. -/
theorem match_word {f : Nat} {t : Tok} {W : ByteArray} {T : List Tok} (ht : strip t = (3, W, 0)) (hk : keptB t = false) (hW : W.size ≤ 256) (hT : isB ⟨#[123]⟩ T = false) : matchR f (t :: T) = .ok [(1, nameS, W)] T := by
  obtain ⟨t1, t2, _⟩ := strip_eq ht
  unfold matchR
  rw [show hd (t :: T) = t from rfl, t1, hk, if_pos (by decide)]
  unfold withR
  rw [show hd (t :: T) = t from rfl, t2]
  have hm : matsB ([] ++ [(1, nameS, W)]) = true := by
    unfold matsB matB
    simp only [List.nil_append, List.length_singleton, List.all_cons, List.all_nil, Bool.and_true]
    rw [show nameB nameS = true by kernel_rfl, decide_eq_true hW]
    rfl
  rw [if_pos hm, bind_ok, List.tail_cons, hT, if_neg (by decide)]
  rfl
theorem match_both {f : Nat} {t o c : Tok} {W : ByteArray} {ms : List Mt} {us T : List Tok} (ht : strip t = (3, W, 0)) (hk : keptB t = false) (ho : strip o = (5, ⟨#[123]⟩, 0)) (hc : strip c = (5, ⟨#[125]⟩, 0)) (hf : ms.length ≤ f) (hu : us.map strip = listT ms) (hm : matsB ((1, nameS, W) :: ms) = true) : matchR f (t :: o :: (us ++ c :: T)) = .ok ((1, nameS, W) :: ms) T := by
  obtain ⟨t1, t2, _⟩ := strip_eq ht
  obtain ⟨o1, o2, _⟩ := strip_eq ho
  unfold matchR
  rw [show hd (t :: o :: (us ++ c :: T)) = t from rfl, t1, hk, if_pos (by decide)]
  unfold withR
  rw [show hd (t :: o :: (us ++ c :: T)) = t from rfl, t2]
  have hm1 : matsB ([] ++ [(1, nameS, W)]) = true := matsB_left (b := ms) hm
  rw [if_pos hm1, bind_ok, List.tail_cons, isB_of (.inr o1) o2, if_pos rfl, list_mats ho hc hf hu hm]
  rfl
theorem match_list {f : Nat} {o c : Tok} {ms : List Mt} {us T : List Tok} (ho : strip o = (5, ⟨#[123]⟩, 0)) (hc : strip c = (5, ⟨#[125]⟩, 0)) (hf : ms.length ≤ f) (hu : us.map strip = listT ms) (hm : matsB ms = true) : matchR f (o :: (us ++ c :: T)) = .ok ms T := by
  obtain ⟨o1, o2, _⟩ := strip_eq ho
  unfold matchR
  rw [show hd (o :: (us ++ c :: T)) = o from rfl, o1, if_neg (by rw [show decide ((5 : Int) = 3) = false from rfl, Bool.false_and]; decide), list_mats ho hc hf hu (by exact hm)]
  rfl
theorem width_rd {o t c : Tok} {s : ByteArray} {w : Int} {T : List Tok} (ho : strip o = (5, ⟨#[91]⟩, 0)) (ht : strip t = (2, s, w)) (hc : strip c = (5, ⟨#[93]⟩, 0)) : widthR (o :: t :: c :: T) = .ok (3, w) T := by
  obtain ⟨o1, o2, _⟩ := strip_eq ho
  obtain ⟨t1, t2, t3⟩ := strip_eq ht
  obtain ⟨c1, c2, _⟩ := strip_eq hc
  unfold widthR spanT
  rw [isB_of (.inr o1) o2, if_pos rfl, List.tail_cons, show hd (t :: c :: T) = t from rfl, if_pos t1, bind_ok, List.tail_cons, need_of (.inr c1) c2, bind_ok, t3]
theorem t_width0 {T : List Tok} (h : isB ⟨#[91]⟩ T = false) : widthR T = .ok (2, 0) T := by
  unfold widthR
  rw [h, if_neg (by decide)]
theorem back_rd {o t : Tok} {s : ByteArray} {w : Int} {T : List Tok} (ho : strip o = (3, offS, 0)) (ht : strip t = (2, s, w)) : backR (o :: t :: T) = .ok w T := by
  obtain ⟨o1, o2, _⟩ := strip_eq ho
  obtain ⟨t1, t2, t3⟩ := strip_eq ht
  unfold backR spanT
  rw [isB_of (.inl o1) o2, if_pos rfl, List.tail_cons, show hd (t :: T) = t from rfl, if_pos t1, List.tail_cons, t3]
theorem t_back0 {T : List Tok} (h : isB offS T = false) : backR T = .ok 0 T := by
  unfold backR
  rw [h, if_neg (by decide)]
theorem sel_rd {f : Nat} {ts r r2 T : List Tok} {ms : List Mt} {kw : Int × Int} {b : Int} (h1 : matchR f ts = .ok ms r) (h2 : widthR r = .ok kw r2) (h3 : backR r2 = .ok b T) : selR f ts = .ok [⟨kw.1, 0, ⟨#[]⟩, ms, kw.2, b, 0, [], false, 0⟩] T := by
  unfold selR
  rw [h1, bind_ok, h2, bind_ok, h3, bind_ok]
/-- A word that is not kept is no function and no aggregation. -/
theorem kept_no {t : Tok} (hk : keptB t = false) : numIn funcsR t = 0 ∧ numIn aggsR t = 0 := by
  unfold keptB at hk
  simp only [Bool.or_eq_false_iff, Bool.not_eq_false', decide_eq_true_eq] at hk
  exact ⟨hk.1, hk.2.1⟩
/-- What begins with a word that is not kept, or with a brace, is a select. -/
theorem t_onesel {F nest : Nat} {X : Nat → List Tok → Rs (List Nd)} {t : Tok} {ts : List Tok} (h : t.1 = 3 ∧ keptB t = false ∧ t.2.2.1 ≠ ⟨#[40]⟩ ∨ strip t = (5, ⟨#[123]⟩, 0)) : oneR F nest X (t :: ts) = selR F (t :: ts) := by
  have h0 : t.1 ≠ 1 ∧ isB ⟨#[40]⟩ (t :: ts) = false ∧ numIn funcsR t = 0 ∧ numIn aggsR t = 0 := by
    rcases h with ⟨h1, h2, h3⟩ | h
    · exact ⟨by rw [h1]; decide, not_tok rfl h3, kept_no h2⟩
    · obtain ⟨a, b, c, d⟩ := t
      injection h with h1 h2
      injection h2 with h2 h3
      subst h1 h2 h3
      exact ⟨by show (5 : Int) ≠ 1; decide, not_tok (x := ⟨#[123]⟩) rfl (by decide), rfl, rfl⟩
  unfold oneR
  rw [show hd (t :: ts) = t from rfl, if_neg h0.1, h0.2.1, if_neg (by decide), h0.2.2.1, if_neg (by decide), h0.2.2.2, if_neg (by decide)]
theorem sel_top {t : Tok} {ts T : List Tok} {a : List Nd} (h : t.1 = 3 ∧ keptB t = false ∧ t.2.2.1 ≠ ⟨#[40]⟩ ∧ t.2.2.1 ≠ ⟨#[45]⟩ ∨ strip t = (5, ⟨#[123]⟩, 0)) (hs : selR 5000 (t :: ts) = .ok a T) (nest : Nat) : ∀ f, P (f + 2) 5 nest (t :: ts) = .ok a T := fun f => by
  have hm : isB ⟨#[45]⟩ (t :: ts) = false := by
    rcases h with ⟨_, _, _, h4⟩ | h
    · exact not_tok rfl h4
    · exact not_tok (strip_eq h).2.1 (by decide)
  rw [P_succ, if_neg (by decide), if_pos rfl, hm, if_neg (by decide), P_succ, if_neg (by decide), if_neg (by decide), if_pos rfl, t_onesel (h.imp (fun h => ⟨h.1, h.2.1, h.2.2.1⟩) id), hs]
theorem sel_bad {t : Tok} {ts : List Tok} {p c : Int} (h : t.1 = 3 ∧ keptB t = false ∧ t.2.2.1 ≠ ⟨#[40]⟩ ∧ t.2.2.1 ≠ ⟨#[45]⟩ ∨ strip t = (5, ⟨#[123]⟩, 0)) (hs : selR 5000 (t :: ts) = .bad p c) (nest : Nat) : ∀ f, P (f + 2) 5 nest (t :: ts) = .bad p c := fun f => by
  have hm : isB ⟨#[45]⟩ (t :: ts) = false := by
    rcases h with ⟨_, _, _, h4⟩ | h
    · exact not_tok rfl h4
    · exact not_tok (strip_eq h).2.1 (by decide)
  rw [P_succ, if_neg (by decide), if_pos rfl, hm, if_neg (by decide), P_succ, if_neg (by decide), if_neg (by decide), if_pos rfl, t_onesel (h.imp (fun h => ⟨h.1, h.2.1, h.2.2.1⟩) id), hs]
end Go.Proofs.Ytnimdngiejcljaa
