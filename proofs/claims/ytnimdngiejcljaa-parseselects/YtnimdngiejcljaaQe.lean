/- Package parse: a row. -/
import Derived.Test.YtnimdngiejcljaaQd
namespace Go.Proofs.Ytnimdngiejcljaa
open Go.RowKit
set_option linter.unusedVariables false
set_option linter.unusedSimpArgs false
set_option maxRecDepth 20000

def cmpB (n : Int) : Bool := decide (5 ≤ n) && decide (n ≤ 10)
theorem f_isCmp (n : Int) (w : World) : Calls Try.prog 50 #[.int .i64 n] w fun e w' => e = .returned (.bool (cmpB n)) ∧ w' = w := by
  unfold cmpB
  by_cases h : 5 ≤ n
  · have q0 : decide (5 ≤ n) = true := by simpa using h
    have Q0 := hid q0
    clear h
    go_enter Try.func50, Try.ntmps50
    go_wp2
    go_ret
    exact ⟨ret_bool (by rw [Q0.out, Bool.true_and]), rfl⟩
  · have q0 : decide (5 ≤ n) = false := by simpa using h
    have Q0 := hid q0
    clear h
    go_enter Try.func50, Try.ntmps50
    go_wp2
    go_ret
    exact ⟨ret_bool (by rw [Q0.out, Bool.false_and]), rfl⟩
theorem bind_assoc {α β γ : Type} (x : Rs α) (f : α → List Tok → Rs β) (g : β → List Tok → Rs γ) : (x.bind f).bind g = x.bind fun a r => (f a r).bind g := by cases x <;> rfl
/-- The numbers of the operations that may be. -/
structure OpsAt (p : Nat) (a2 : Option Addr) (may : List Int) (w : World) (v : Value) : Prop where
  ex : ∃ ob, a2 = some ⟨ob, 0, none⟩ ∧ SRd numE w a2 may ∧ ob < w.heap.size ∧ ob ≠ p ∧ v.ownBlock ≠ some ob
theorem OpsAt.go {p : Nat} {a2 : Option Addr} {may : List Int} {w w' : World} {v v' : Value} (h : OpsAt p a2 may w v) (ha : Adv p w v w' v') : OpsAt p a2 may w' v' := by
  obtain ⟨ob, e, hr, hl, hp, hv⟩ := h.ex
  subst e
  refine ⟨ob, rfl, srd_same hr (ha.fr.block ob hl (fun e => by rcases e with e | e; exact hp e; exact hv e)), Nat.lt_of_lt_of_le hl ha.fr.size, hp, fun e => ?_⟩
  rcases ha.new ob e with e2 | e2
  · exact hv e2
  · omega
theorem OpsAt.rd {p : Nat} {a2 : Option Addr} {may : List Int} {w : World} {v : Value} (h : OpsAt p a2 may w v) : SRd numE w a2 may := by
  obtain ⟨ob, e, hr, _⟩ := h.ex
  exact hr
theorem rowOps_no (lv : Nat) : (rowOps lv).contains 0 = false ∧ (rowOps lv).length ≤ 1000 := by
  match lv with
  | 0 => decide
  | 1 => decide
  | 2 => decide
  | 3 => decide
  | n + 4 => exact ⟨rfl, by show 2 ≤ 1000; omega⟩
theorem P_loop (f lv nest : Nat) (ts : List Tok) : P (f + 1) (lv + 7) nest ts =
    if takeN opsR (rowOps lv) ts = 0 then .ok [] ts
    else (groupR 5000 [3, 4] (boolR (takeN opsR (rowOps lv) ts) (takeR opsR (rowOps lv) ts))).bind fun g r =>
      (P f (lv + 1) nest r).bind fun a r2 => (P f (lv + 7) nest r2).bind fun b r3 =>
        .ok (a ++ [binN (takeN opsR (rowOps lv) ts) (boolN (takeN opsR (rowOps lv) ts) (takeR opsR (rowOps lv) ts)) g.1 g.2] ++ b) r3 := by
  rw [P_succ, if_neg (by omega), if_neg (by omega), if_neg (by omega)]
  rfl
theorem P_level {f lv nest : Nat} {ts : List Tok} (h : lv < 5) : P (f + 1) lv nest ts = (P f (lv + 1) nest ts).bind fun a r => (P f (lv + 7) nest r).bind fun b r => .ok (a ++ b) r := by rw [P_succ, if_pos h]
/-- Between the parts of a row. -/
structure RwAt (lv nest n b p : Nat) (K : Tk) (k : Nat) (v : Value) (L : List Row) (a2 : Option Addr) (R : Rs (List Nd)) (w wr : World) (f2 k2 : Nat) (v2 : Value) (Q2 : List Row) (r2 : List Tok) : Prop where
  rd : RdAt wr b p K k2 (nest : Int) v2 (L ++ Q2)
  ops : OpsAt p a2 (rowOps lv) wr v2
  ah : Ahead K k2 r2
  le : k ≤ k2
  adv : Adv p w v wr v2
  len : (L ++ Q2).length ≤ k2
  fl : f2 ≤ n
  eq : ((P f2 (lv + 7) nest r2).bind fun b r => .ok (Q2.map (·.1) ++ b) r) = R
end Go.Proofs.Ytnimdngiejcljaa
