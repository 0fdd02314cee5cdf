/- read, from one point to the next: the maths. -/
import Derived.Test.YteahhkpbjkcmhaaDoorRdJ
import Derived.Test.YteahhkpbjkcmhaaDoorRdec
namespace Go.Proofs.YteahhkpbjkcmhaaDoor
open Go.RowKit
set_option linter.unusedVariables false

theorem RdW.app {w wr w2 : World} {p P O : Nat} {a : Option Addr} {zs : List Int} {cap : Nat} {vP v2 : Value} {ps : List Pt} {st : Option (List Bool)} {T V d pa pb A B : Int} {o : Obj} (h : RdW w wr p P O a zs cap vP ps st T V d pa pb A B) (hg2 : (wr.alloc o).grownBy w2 vP.ownBlock) (ho2 : SOwn pntE 41 w2 (O + 1) v2 (ps.length + 1) (ps ++ [(T, V)])) : RdW w w2 p P O a zs cap v2 (ps ++ [(T, V)]) st T V d pa pb A B := by
  have hA := h.grown (World.grownBy_alloc wr o none)
  obtain ⟨n1, n2, n3⟩ := hA.apart
  refine ⟨hA.rd.kept hg2 (fun e => n1 e.symm), hA.past.of_block (hg2.block P hA.past.lt (fun e => n2 e.symm)), hA.own.of_block (hg2.block O hA.own.lt (fun e => n3 e.symm)), ?_, gb_trans hA.gb hg2 (fun k hk => .inl ?_), h.hp, h.hP, h.hO, Nat.lt_of_lt_of_le hA.hlt hg2.size, ?_, h.val⟩
  · rw [List.length_append]; exact ho2
  · have h1 := (SOwn.block hA.pts k hk).1
    have := h.hp; have := h.hP; have := h.hO
    omega
  · intro q hq
    rcases List.mem_append.1 hq with h1 | h1
    · exact h.okv q h1
    · have : q = (T, V) := by simpa using h1
      subst this
      exact h.val
/-- Behind a point's bend. -/
def BentR (zs : List Int) (n : Int) (ps : List Pt) (st : Option (List Bool)) (t V d z pa pb : Int) : Prop :=
  (st = none ∧ Nowhere zs) ∨ ∃ l l1 aw bw, st = some l1 ∧ SAt zs n ps (some l) t V d aw bw ∧ rngZ z ∧ l = encZ z ++ l1 ∧ WinP aw bw pa pb
section
variable {zs : List Int} {n t V d z pa pb : Int} {ps : List Pt} {s s1 s2 s3 s4 s5 s6 : Option (List Bool)}
theorem BentR.of {l : List Bool} {aw bw : Int} (hS : SAt zs n ps (some l) t V d aw bw) (hw : WinP aw bw pa pb) (hn : (ps.length : Int) < n) (hz : rngZ z) (h : BendR (some l) s1 z) : BentR zs n ps s1 t V d z pa pb := by
  rcases h with ⟨r, e, rfl⟩ | ⟨rfl, hno⟩
  · exact .inr ⟨l, r, aw, bw, rfl, hS, hz, e, hw⟩
  · exact .inl ⟨rfl, hS.bad hn hno⟩
theorem BentR.same {c : Int} (h : BentR zs n ps s1 t V d z pa pb) (hn : (ps.length : Int) < n) (hv : okV V) (hg : GetR 1 s1 s2 c) (hc : c ≠ 1) : NextR zs n ps s2 (IntKind.i64.wrap (t + IntKind.i64.wrap (d + z))) V (IntKind.i64.wrap (d + z)) pa pb := by
  rcases h with ⟨rfl, hno⟩ | ⟨l, l1, aw, bw, rfl, hS, hz, e1, hw⟩
  · exact .inl ⟨hg, hno⟩
  · rcases bit_not hg hc with ⟨h1, _⟩ | ⟨h1, h2⟩ | ⟨r, h1, h2⟩
    · cases h1
    · simp only [Option.some.injEq] at h1
      subst h1
      exact .inl ⟨h2, hS.bad2 hn hz e1 (chg_short hw).1⟩
    · simp only [Option.some.injEq] at h1
      subst h1
      have e0 : encV aw bw 0 = ([false], aw, bw) := by unfold encV; rw [if_pos rfl]
      have h := hS.more hn hw hz (x := 0) ⟨by decide, by decide⟩ hv e1 (l2 := r) (by rw [e0]; rfl)
      rw [e0, xorI_zero hv] at h
      exact .inr ⟨r, aw, bw, h2, h, hw⟩
theorem BentR.kept {c c2 : Int} (h : BentR zs n ps s1 t V d z pa pb) (hn : (ps.length : Int) < n) (hg : GetR 1 s1 s2 c) (hc : c = 1) (hg2 : GetR 1 s2 s3 c2) (hc2 : c2 ≠ 1) : KeptR zs n ps s3 (IntKind.i64.wrap (t + IntKind.i64.wrap (d + z))) V (IntKind.i64.wrap (d + z)) pa pb := by
  rcases h with ⟨rfl, hno⟩ | ⟨l, l1, aw, bw, rfl, hS, hz, e1, hw⟩
  · have e : s2 = none := hg
    subst e
    exact .inl ⟨hg2, hno⟩
  · rcases bit_one hg hc with ⟨h1, _⟩ | ⟨r, h1, rfl⟩
    · cases h1
    · simp only [Option.some.injEq] at h1
      subst h1
      rcases bit_not hg2 hc2 with ⟨h3, _⟩ | ⟨h3, h4⟩ | ⟨r2, h3, h4⟩
      · cases h3
      · simp only [Option.some.injEq] at h3
        subst h3
        exact .inl ⟨h4, hS.bad2 hn hz e1 (chg_short hw).2⟩
      · simp only [Option.some.injEq] at h3
        subst h3
        exact .inr ⟨l, _, r2, t, d, z, aw, bw, h4, hS, hz, e1, rfl, rfl, rfl, hw⟩
/-- What must be told of the window. -/
def MustR (x pa pb : Int) (fa fb : Nat) (b : Bool) : Prop := 0 < x → (b = true ↔ (min (leadN x : Int) 31 = fa ∧ (trailN x : Int) = fb ∧ ¬ (pa ≤ fa ∧ pb ≤ fb)))
theorem BentR.new {c c2 A w6 u : Int} {fa fb : Nat} {b : Bool} (h : BentR zs n ps s1 t V d z pa pb) (hn : (ps.length : Int) < n) (hv : okV V) (hg : GetR 1 s1 s2 c) (hc : c = 1) (hg2 : GetR 1 s2 s3 c2) (hc2 : c2 = 1)
    (h5 : GetR 5 s3 s4 A) (h6 : GetR 6 s4 s5 w6) (hA : 0 ≤ A ∧ A < 32) (hw6 : 0 ≤ w6 ∧ w6 < 64) (hf : (A + (w6 + 1) ≤ 64 ∧ (fa : Int) = A ∧ (fb : Int) = 64 - A - (w6 + 1)) ∨ (64 < A + (w6 + 1) ∧ fa = 64 ∧ fb = 0))
    (hu : GetR (64 - fa - fb) s5 s6 u) (hu0 : 0 ≤ u) (hu1 : u < 2 ^ (64 - fa - fb)) (hb : MustR (u * 2 ^ fb) pa pb fa fb b) :
    NextR zs n ps (if b = true then (if u * 2 ^ fb = 0 then none else s6) else none) (IntKind.i64.wrap (t + IntKind.i64.wrap (d + z))) (xorI V (u * 2 ^ fb)) (IntKind.i64.wrap (d + z)) fa fb := by
  have dead : ∀ hno : Nowhere zs, s6 = none → NextR zs n ps (if b = true then (if u * 2 ^ fb = 0 then none else s6) else none) (IntKind.i64.wrap (t + IntKind.i64.wrap (d + z))) (xorI V (u * 2 ^ fb)) (IntKind.i64.wrap (d + z)) fa fb := by
    intro hno e
    subst e
    exact .inl ⟨by split <;> (try split) <;> rfl, hno⟩
  rcases h with ⟨rfl, hno⟩ | ⟨l, l1, aw, bw, rfl, hS, hz, e1, hw⟩
  · have e2 : s2 = none := hg
    subst e2
    have e3 : s3 = none := hg2
    subst e3
    have e4 : s4 = none := h5
    subst e4
    have e5 : s5 = none := h6
    subst e5
    exact dead hno hu
  · rcases bit_one hg hc with ⟨h1, _⟩ | ⟨r, h1, rfl⟩
    · cases h1
    · simp only [Option.some.injEq] at h1
      subst h1
      rcases bit_one hg2 hc2 with ⟨h3, _⟩ | ⟨r2, h3, rfl⟩
      · cases h3
      · simp only [Option.some.injEq] at h3
        subst h3
        have nocut : ((get 5 r2).bind fun q => (get 6 q.2).bind fun s => if q.1 + (s.1 + 1) > 64 then none else (get (s.1 + 1).toNat s.2)) = none → Nowhere zs := fun h => hS.bad2 hn hz e1 (new_cut hw h)
        unfold GetR at h5
        cases q5 : Go.Proofs.YteahhkpbjkcmhaaDoor.get 5 r2 with
        | none =>
          simp only [q5] at h5
          obtain ⟨_, rfl⟩ := h5
          have e5 : s5 = none := h6
          subst e5
          exact dead (nocut (by rw [q5]; rfl)) hu
        | some q =>
          simp only [q5] at h5
          obtain ⟨rfl, rfl⟩ := h5
          unfold GetR at h6
          cases q6 : Go.Proofs.YteahhkpbjkcmhaaDoor.get 6 q.2 with
          | none =>
            simp only [q6] at h6
            obtain ⟨_, rfl⟩ := h6
            exact dead (nocut (by rw [q5, Option.bind_some, q6]; rfl)) hu
          | some q' =>
            simp only [q6] at h6
            obtain ⟨rfl, rfl⟩ := h6
            rcases hf with ⟨f1, f2, f3⟩ | ⟨f1, rfl, rfl⟩
            · have ek : (q'.1 + 1).toNat = 64 - fa - fb := by omega
              unfold GetR at hu
              cases q7 : Go.Proofs.YteahhkpbjkcmhaaDoor.get (64 - fa - fb) q'.2 with
              | none =>
                simp only [q7] at hu
                exact dead (nocut (by rw [q5, Option.bind_some, q6, Option.bind_some, if_neg (by omega), ek]; exact q7)) hu.2
              | some q'' =>
                simp only [q7] at hu
                obtain ⟨rfl, rfl⟩ := hu
                obtain ⟨k1, k2, k3⟩ := new_is hw (l2 := r2) (A := q.1) (w6 := q'.1) (u := q''.1) (r := q''.2) (x := q''.1 * 2 ^ fb) q5 q6 f1 (by rw [ek]; exact q7) (by rw [show (64 - q.1 - (q'.1 + 1)).toNat = fb by omega])
                by_cases hx : q''.1 * 2 ^ fb = 0
                · refine .inl ⟨by rw [if_pos hx]; split <;> rfl, hS.bad2 hn hz e1 (k3 (.inl hx))⟩
                · have hxp : 0 < q''.1 * 2 ^ fb := by have := k1.1; omega
                  have hb := hb hxp
                  rw [← f3, ← f2] at k2 k3
                  cases b with
                  | false =>
                    refine .inl ⟨by simp, hS.bad2 hn hz e1 (k3 (.inr fun g => ?_))⟩
                    exact absurd (hb.2 g) (by simp)
                  | true =>
                    obtain ⟨m1, m2, m3⟩ := hb.1 rfl
                    obtain ⟨g1, g2⟩ := k2 hx m1 m2 m3
                    have h := hS.more hn hw hz k1 hv e1 (l2 := q''.2) g1
                    rw [g2] at h
                    rw [if_pos rfl, if_neg hx]
                    exact .inr ⟨q''.2, fa, fb, rfl, h, .inr ⟨by omega, by omega, by omega, by omega, rfl, rfl⟩⟩
            · have hu2 : u = 0 := by simp at hu1; omega
              subst hu2
              refine .inl ⟨by simp, nocut (by rw [q5, Option.bind_some, q6, Option.bind_some, if_pos (by omega)])⟩
end
end Go.Proofs.YteahhkpbjkcmhaaDoor
