/- The tokens' bytes, laid one behind another. -/
import Derived.Test.YtkocdmkojoefoaaBm
namespace Go.Proofs.Ytkocdmkojoefoaa
open Go.RowKit
set_option linter.unusedVariables false
set_option maxRecDepth 20000

def stp (t : Tok) : Int × ByteArray × Int := (t.1, t.2.2)
/-- Bytes that are tokens, whatever stands behind. -/
def Bld (V : List Int) (ss : List (Int × ByteArray × Int)) : Prop := ∀ (at_ : Nat) (r : List Int), ∃ zs : List Tok, lexL at_ (V ++ r) = Lx.cat zs (lexL (at_ + V.length) r) ∧ zs.map stp = ss
theorem Bld.nil : Bld [] [] := fun at_ r => ⟨[], by rw [cat_nil]; rfl, rfl⟩
theorem cat_cat (a b : List Tok) (x : Lx) : Lx.cat a (Lx.cat b x) = Lx.cat (a ++ b) x := by
  cases x with
  | ok us => simp [Lx.cat]
  | bad p c => rfl
theorem cons_cat (t : Tok) (x : Lx) : Lx.cons t x = Lx.cat [t] x := by
  cases x with
  | ok us => rfl
  | bad p c => rfl
theorem Bld.next {V raw : List Int} {ss : List (Int × ByteArray × Int)} {kd sp c g : Int} {t : ByteArray} {n : Nat} (h : Bld V ss) (hg : blankB g = true) (ht : tokR raw = ((kd, t, sp, n), c)) (hn : n ≠ 0) (hl : raw.length = n) (hb : blankB (raw.getD 0 0) = false) : Bld (V ++ (raw ++ [g, 32])) (ss ++ [(kd, t, sp)]) := by
  intro at_ r
  match raw, hl with
  | [], hl => exact absurd hl.symm hn
  | x :: raw, hl =>
    obtain ⟨zs, h1, h2⟩ := h at_ ((x :: raw) ++ g :: 32 :: r)
    have hb' : blankB x = false := hb
    have ta := tok_app hg x raw (32 :: r) (by rw [ht]; exact hn)
    refine ⟨zs ++ [(kd, ((at_ + V.length : Nat) : Int), t, sp)], ?_, by rw [List.map_append, h2]; rfl⟩
    have e1 : V ++ ((x :: raw) ++ [g, 32]) ++ r = V ++ ((x :: raw) ++ g :: 32 :: r) := by simp
    rw [e1, h1]
    have e2 : lexL (at_ + V.length) ((x :: raw) ++ g :: 32 :: r) = Lx.cons (kd, ((at_ + V.length : Nat) : Int), t, sp) (lexL (at_ + V.length + n) (g :: 32 :: r)) := by
      rw [List.cons_append, lexL, if_neg (by rw [hb']; simp), ← List.cons_append, ta, ht, if_neg hn]
      simp only []
      congr 2
      rw [List.drop_append, List.drop_eq_nil_of_le (by simp at hl; omega), List.nil_append]
      have : n - 1 - raw.length = 0 := by simp at hl; omega
      rw [this]
      rfl
    have e3 : lexL (at_ + V.length + n) (g :: 32 :: r) = lexL (at_ + (V ++ ((x :: raw) ++ [g, 32])).length) r := by
      rw [lexL, if_pos hg, lexL, if_pos (by decide)]
      congr 1
      simp at hl ⊢
      omega
    rw [e2, e3, cons_cat, cat_cat]
theorem Bld.done {V : List Int} {ss : List (Int × ByteArray × Int)} (h : Bld V ss) : ∃ zs : List Tok, lexL 0 (32 :: V) = .ok (zs ++ [(0, ((V.length + 1 : Nat) : Int), ⟨#[]⟩, 0)]) ∧ zs.map stp = ss := by
  obtain ⟨zs, h1, h2⟩ := h 1 []
  refine ⟨zs, ?_, h2⟩
  rw [List.append_nil] at h1
  rw [lexL, if_pos (by decide), h1, lexL, show 1 + V.length = V.length + 1 by omega]
  rfl
/-- What is known of a token that isn't the end. -/
structure ChAt (L : List Int) (ts : List Tok) (i p n q : Nat) (kd sp c : Int) (t : ByteArray) (u : Tok) : Prop where
  eq : ts[i]? = some (kd, (p : Int), t, sp)
  nx : ts[i + 1]? = some u
  uq : u.2.1 = (q : Int)
  tok : tokR (L.drop p) = ((kd, t, sp, n), c)
  ne : n ≠ 0
  le : p + n ≤ q
  lq : q ≤ L.length
  nb : blankB (L.getD p 0) = false
  bl : ∀ i, p + n ≤ i → i < q → blankB (L.getD i 0) = true
theorem ch_at {L : List Int} {ts : List Tok} (h : Ch L ts) : ∀ i, i + 1 < ts.length → ∃ p n q kd sp c t u, ChAt L ts i p n q kd sp c t u := by
  induction h with
  | fin => intro i hi; simp at hi
  | tok p n kd sp c t u us q h1 h2 h3 h4 h5 h6 h7 h8 ih =>
    intro i hi
    cases i with
    | zero => exact ⟨p, n, q, kd, sp, c, t, u, ⟨rfl, rfl, h5, h1, h2, h3, h4, h6, h7⟩⟩
    | succ i =>
      obtain ⟨p', n', q', kd', sp', c', t', u', g⟩ := ih i (by simp at hi ⊢; omega)
      exact ⟨p', n', q', kd', sp', c', t', u', ⟨g.eq, g.nx, g.uq, g.tok, g.ne, g.le, g.lq, g.nb, g.bl⟩⟩
theorem ch_last {L : List Int} {ts : List Tok} (h : Ch L ts) : ∃ us, ts = us ++ [(0, (L.length : Int), ⟨#[]⟩, 0)] := by
  induction h with
  | fin => exact ⟨[], rfl⟩
  | tok p n kd sp c t u us q h1 h2 h3 h4 h5 h6 h7 h8 ih =>
    obtain ⟨vs, hv⟩ := ih
    exact ⟨_ :: vs, by rw [hv]; rfl⟩
theorem ChAt.raw {L : List Int} {ts : List Tok} {i p n q : Nat} {kd sp c : Int} {t : ByteArray} {u : Tok} (h : ChAt L ts i p n q kd sp c t u) : tokR ((L.drop p).take n) = ((kd, t, sp, n), c) ∧ ((L.drop p).take n).length = n ∧ blankB (((L.drop p).take n).getD 0 0) = false ∧ blankB (L.getD (p + n - 1) 0) = false := by
  have hle := h.le
  have hlq := h.lq
  have hne := h.ne
  have hp : p < L.length := by omega
  have hd : (L.drop p).getD 0 0 = L.getD p 0 := by rw [getD_drop]; rfl
  have hlen : ((L.drop p).take n).length = n := by rw [List.length_take, List.length_drop]; omega
  cases hD : L.drop p with
  | nil => have := congrArg List.length hD; rw [List.length_drop] at this; simp at this; omega
  | cons x r =>
    have ht := h.tok
    rw [hD] at ht hlen hd
    have h1 := tok_take x r (by rw [ht]; exact hne)
    have h2 := tok_last x r (by rw [ht]; exact hne)
    rw [ht] at h1 h2
    refine ⟨h1, hlen, ?_, ?_⟩
    · rw [take_get (by omega) (by rw [List.length_take] at hlen; omega), hd]
      exact h.nb
    · have e : L.getD (p + n - 1) 0 = (x :: r).getD (n - 1) 0 := by
        rw [← hD, getD_drop]
        congr 1
        omega
      rw [e]
      exact h2
theorem lexR_ch {s : ByteArray} {ts : List Tok} (h : lexR s = .ok ts) : Ch (sInts s) ts := by
  have hs := (lexR_len h).2.2
  unfold lexR at h
  rw [if_neg (by omega)] at h
  exact (lex_ch (sInts s) _ 0 ts (Nat.le_refl _) (Nat.zero_le _) h).1
end Go.Proofs.Ytkocdmkojoefoaa
