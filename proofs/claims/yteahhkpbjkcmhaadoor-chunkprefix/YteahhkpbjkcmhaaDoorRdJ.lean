/- Package chunk: the states of read. -/
import Derived.Test.YteahhkpbjkcmhaaDoorHsat2
import Derived.Test.YteahhkpbjkcmhaaDoorLayJ
import Derived.Test.YteahhkpbjkcmhaaDoorDchg
import Derived.Test.YteahhkpbjkcmhaaDoorDchg2
namespace Go.Proofs.YteahhkpbjkcmhaaDoor
open Go.RowKit
set_option linter.unusedVariables false

/-- Between two states of read: the reader lies at p, the past at P, the window that was read at O. -/
structure RdW (w wr : World) (p P O : Nat) (a : Option Addr) (zs : List Int) (cap : Nat) (vP : Value) (ps : List Pt) (st : Option (List Bool)) (T V d pa pb A B : Int) : Prop where
  rd : RdrAt wr p a zs cap st
  past : wr.rowIs P 66 5 (PastF T V d pa pb)
  own : wr.rowIs O 64 2 (OwnF A B)
  pts : SOwn pntE 41 wr (O + 1) vP ps.length ps
  gb : w.grownBy wr none
  hp : p = w.heap.size
  hP : p < P
  hO : P < O
  hlt : O < wr.heap.size
  okv : ∀ q ∈ ps, okV q.2
  val : okV V
section
variable {w wr w' : World} {p P O : Nat} {a : Option Addr} {zs : List Int} {cap : Nat} {vP : Value} {ps : List Pt} {st st' : Option (List Bool)} {T V d pa pb A B : Int}
theorem RdW.apart (h : RdW w wr p P O a zs cap vP ps st T V d pa pb A B) : vP.ownBlock ≠ some p ∧ vP.ownBlock ≠ some P ∧ vP.ownBlock ≠ some O := by
  refine ⟨fun e => ?_, fun e => ?_, fun e => ?_⟩
  · have := (SOwn.block h.pts _ e).1; have := h.hP; have := h.hO; omega
  · have := (SOwn.block h.pts _ e).1; have := h.hO; omega
  · have := (SOwn.block h.pts _ e).1; omega
theorem RdW.call (h : RdW w wr p P O a zs cap vP ps st T V d pa pb A B) (hr : RdrAt w' p a zs cap st') (hg : wr.grownBy w' (some p)) : RdW w w' p P O a zs cap vP ps st' T V d pa pb A B := by
  have h1 := h.hP; have h2 := h.hO; have h3 := h.hlt
  exact ⟨hr, h.past.of_block (hg.block P h.past.lt (by simp; omega)), h.own.of_block (hg.block O h.own.lt (by simp; omega)), SOwn.kept h.pts hg (.inr h.apart.1), gb_trans h.gb hg (fun k hk => by cases hk; exact .inl (by have := h.hp; omega)), h.hp, h.hP, h.hO, Nat.lt_of_lt_of_le h.hlt hg.size, h.okv, h.val⟩
theorem RdW.grown (h : RdW w wr p P O a zs cap vP ps st T V d pa pb A B) (hg : wr.grownBy w' none) : RdW w w' p P O a zs cap vP ps st T V d pa pb A B :=
  ⟨h.rd.kept hg (by simp), h.past.of_block (hg.block P h.past.lt (by simp)), h.own.of_block (hg.block O h.own.lt (by simp)), SOwn.kept h.pts hg (Classical.em _), gb_trans h.gb hg (by simp), h.hp, h.hP, h.hO, Nat.lt_of_lt_of_le h.hlt hg.size, h.okv, h.val⟩
theorem RdW.setP {T' V' d' pa' pb' : Int} (h : RdW w wr p P O a zs cap vP ps st T V d pa pb A B) (i : Nat) (u : Value) (hu : ∀ j, j < 5 → (if j = i then u else PastF T V d pa pb j) = PastF T' V' d' pa' pb' j) (hv : okV V') : RdW w (wr.setCell ⟨P, i, none⟩ u) p P O a zs cap vP ps st T' V' d' pa' pb' A B := by
  have hg : wr.grownBy (wr.setCell ⟨P, i, none⟩ u) (some P) := gb_set rfl
  have h1 := h.hP; have h2 := h.hO; have h3 := h.hp
  exact ⟨h.rd.kept hg (by simp; omega), (h.past.set i u).congr hu, h.own.of_block (hg.block O h.own.lt (by simp; omega)), SOwn.kept h.pts hg (.inr h.apart.2.1), gb_trans h.gb hg (fun k hk => by cases hk; exact .inl (by omega)), h.hp, h.hP, h.hO, Nat.lt_of_lt_of_le h.hlt hg.size, h.okv, hv⟩
theorem RdW.setO {A' B' : Int} (h : RdW w wr p P O a zs cap vP ps st T V d pa pb A B) (i : Nat) (u : Value) (hu : ∀ j, j < 2 → (if j = i then u else OwnF A B j) = OwnF A' B' j) : RdW w (wr.setCell ⟨O, i, none⟩ u) p P O a zs cap vP ps st T V d pa pb A' B' := by
  have hg : wr.grownBy (wr.setCell ⟨O, i, none⟩ u) (some O) := gb_set rfl
  have h1 := h.hP; have h2 := h.hO; have h3 := h.hp
  exact ⟨h.rd.kept hg (by simp; omega), h.past.of_block (hg.block P h.past.lt (by simp; omega)), (h.own.set i u).congr hu, SOwn.kept h.pts hg (.inr h.apart.2.2), gb_trans h.gb hg (fun k hk => by cases hk; exact .inl (by omega)), h.hp, h.hP, h.hO, Nat.lt_of_lt_of_le h.hlt hg.size, h.okv, h.val⟩
end
/-- At the label next: the point T, V is read, and not yet among ps. -/
def NextR (zs : List Int) (n : Int) (ps : List Pt) (st : Option (List Bool)) (T V d pa pb : Int) : Prop :=
  (st = none ∧ Nowhere zs) ∨ ∃ l aw bw, st = some l ∧ SAt zs n (ps ++ [(T, V)]) (some l) T V d aw bw ∧ WinP aw bw pa pb
/-- At the label kept: behind the two bits; the step is done, the value is still the one ahead. -/
def KeptR (zs : List Int) (n : Int) (ps : List Pt) (st : Option (List Bool)) (T V d pa pb : Int) : Prop :=
  (st = none ∧ Nowhere zs) ∨ ∃ l l1 l2 t d0 z aw bw, st = some l2 ∧ SAt zs n ps (some l) t V d0 aw bw ∧ rngZ z ∧ l = encZ z ++ l1 ∧ l1 = true :: false :: l2 ∧ d = IntKind.i64.wrap (d0 + z) ∧ T = IntKind.i64.wrap (t + d) ∧ WinP aw bw pa pb
def EndR (zs : List Int) (ps : List Pt) (st : Option (List Bool)) : Prop := (st = none ∧ Nowhere zs) ∨ ∃ l, st = some l ∧ EndsAt zs ps l ∧ ps.length ≤ 8191
theorem KeptR.next {zs : List Int} {n T V d u : Int} {pa pb : Nat} {ps : List Pt} {st s1 : Option (List Bool)} (h : KeptR zs n ps st T V d pa pb) (hn : (ps.length : Int) < n) (hv : okV V) (hg : GetR (64 - pa - pb) st s1 u) : NextR zs n ps (if u * 2 ^ pb = 0 then none else s1) T (xorI V (u * 2 ^ pb)) d pa pb := by
  rcases h with ⟨rfl, hno⟩ | ⟨l, l1, l2, t, d0, z, aw, bw, rfl, hS, hz, e1, e2, rfl, rfl, hw⟩
  · have e : s1 = none := hg
    subst e
    exact .inl ⟨by split <;> rfl, hno⟩
  · have ek : ((64 : Int) - pa - pb).toNat = 64 - pa - pb := by have := hw.bd; omega
    unfold GetR at hg
    cases hq : Go.Proofs.YteahhkpbjkcmhaaDoor.get (64 - pa - pb) l2 with
    | none =>
      simp only [hq] at hg
      obtain ⟨_, rfl⟩ := hg
      refine .inl ⟨by split <;> rfl, hS.bad2 hn hz e1 ?_⟩
      rw [e2]
      exact kept_cut hw (by rw [ek]; exact hq)
    | some q =>
      simp only [hq] at hg
      obtain ⟨rfl, rfl⟩ := hg
      have hk := kept_is hw (l2 := l2) (r := q.2) (u := q.1) (by rw [ek]; exact hq)
      rw [Int.toNat_natCast] at hk
      by_cases hx : q.1 * 2 ^ pb = 0
      · rw [if_pos hx]
        refine .inl ⟨rfl, hS.bad2 hn hz e1 ?_⟩
        rw [e2]
        exact hk.2 hx
      · rw [if_neg hx]
        obtain ⟨k1, k2, k3⟩ := hk.1 hx
        have h := hS.more hn hw hz k1 hv e1 (l2 := q.2) (by rw [e2]; exact k2)
        rw [k3] at h
        exact .inr ⟨q.2, aw, bw, rfl, h, hw⟩
def rdT (a : Option Addr) (L c p P O : Nat) (vP s7 s9 : Value) (u : Nat → Value) : Array Value :=
  #[.slice a L c, undef, .slice none 0 0, .bool false, vP, .pointer (some ⟨p, 0, none⟩), .pointer (some ⟨P, 0, none⟩), s7, .pointer (some ⟨O, 0, none⟩), s9, u 10, u 11, u 12, u 13, u 14, u 15, u 16, u 17, u 18, u 19, u 20, u 21, u 22, u 23, u 24, u 25, u 26, u 27, u 28, u 29, u 30, u 31, u 32, u 33, u 34, u 35, u 36, u 37, u 38, u 39, u 40, u 41, u 42, u 43, u 44, u 45, u 46, u 47, u 48, u 49, u 50, u 51, u 52, u 53, u 54, u 55, u 56, u 57, u 58, u 59, u 60, u 61, u 62, u 63, u 64, u 65, u 66, u 67, u 68, u 69, u 70, u 71, u 72, u 73, u 74, u 75, u 76, u 77, u 78, u 79, u 80, u 81, u 82, u 83, u 84, u 85, u 86, u 87, u 88, u 89, u 90, u 91, u 92, u 93]
def RdJ0 (a : Option Addr) (zs : List Int) (L c p : Nat) (w : World) (a' : Act) (w' : World) : Prop := ∃ (P O : Nat) (vP s7 s9 : Value) (ps : List Pt) (st : Option (List Bool)) (T V d pa pb A B : Int) (u : Nat → Value), a' = { tmps := rdT a L c p P O vP s7 s9 u, defers := [] } ∧ RdW w w' p P O a zs c vP ps st T V d pa pb A B ∧ EndR zs ps st
def RdJ1 (a : Option Addr) (zs : List Int) (L c p : Nat) (w : World) (a' : Act) (w' : World) : Prop := ∃ (P O left : Nat) (vP s7 : Value) (ps : List Pt) (st : Option (List Bool)) (n T V d pa pb A B : Int) (u : Nat → Value), a' = { tmps := rdT a L c p P O vP s7 (.int .u64 (left : Int)) u, defers := [] } ∧ 0 < left ∧ (left : Int) = n - ps.length ∧ n ≤ 8191 ∧ RdW w w' p P O a zs c vP ps st T V d pa pb A B ∧ NextR zs n ps st T V d pa pb
def RdJ2 (a : Option Addr) (zs : List Int) (L c p : Nat) (w : World) (a' : Act) (w' : World) : Prop := ∃ (P O left pa pb : Nat) (vP s7 : Value) (ps : List Pt) (st : Option (List Bool)) (n T V d A B : Int) (u : Nat → Value), a' = { tmps := rdT a L c p P O vP s7 (.int .u64 (left : Int)) u, defers := [] } ∧ 0 < left ∧ (left : Int) = n - ps.length ∧ n ≤ 8191 ∧ pa + pb ≤ 64 ∧ RdW w w' p P O a zs c vP ps st T V d pa pb A B ∧ KeptR zs n ps st T V d pa pb
def rdM (e : Nat) (a' : Act) (_ : World) : Nat := 3 * (intOf (a'.tmps.getD 9 undef)).toNat + e
section
variable {a : Option Addr} {zs : List Int} {L c p : Nat} {w w' : World} {a' : Act}
theorem rdJ0 (P O : Nat) (vP s7 s9 : Value) (ps : List Pt) (st : Option (List Bool)) (T V d pa pb A B : Int) (h : a' = { tmps := rdT a L c p P O vP s7 s9 (upon a'), defers := [] }) (h1 : RdW w w' p P O a zs c vP ps st T V d pa pb A B) (h2 : EndR zs ps st) : RdJ0 a zs L c p w a' w' := ⟨P, O, vP, s7, s9, ps, st, T, V, d, pa, pb, A, B, _, h, h1, h2⟩
theorem rdJ1 (P O left : Nat) (vP s7 : Value) (ps : List Pt) (st : Option (List Bool)) (n T V d pa pb A B : Int) (h : a' = { tmps := rdT a L c p P O vP s7 (.int .u64 (left : Int)) (upon a'), defers := [] }) (h1 : 0 < left) (h2 : (left : Int) = n - ps.length) (h3 : n ≤ 8191) (h4 : RdW w w' p P O a zs c vP ps st T V d pa pb A B) (h5 : NextR zs n ps st T V d pa pb) : RdJ1 a zs L c p w a' w' := ⟨P, O, left, vP, s7, ps, st, n, T, V, d, pa, pb, A, B, _, h, h1, h2, h3, h4, h5⟩
theorem rdJ2 (P O left pa pb : Nat) (vP s7 : Value) (ps : List Pt) (st : Option (List Bool)) (n T V d A B : Int) (h : a' = { tmps := rdT a L c p P O vP s7 (.int .u64 (left : Int)) (upon a'), defers := [] }) (h1 : 0 < left) (h2 : (left : Int) = n - ps.length) (h3 : n ≤ 8191) (h6 : pa + pb ≤ 64) (h4 : RdW w w' p P O a zs c vP ps st T V d pa pb A B) (h5 : KeptR zs n ps st T V d pa pb) : RdJ2 a zs L c p w a' w' := ⟨P, O, left, pa, pb, vP, s7, ps, st, n, T, V, d, A, B, _, h, h1, h2, h3, h6, h4, h5⟩
end
end Go.Proofs.YteahhkpbjkcmhaaDoor
