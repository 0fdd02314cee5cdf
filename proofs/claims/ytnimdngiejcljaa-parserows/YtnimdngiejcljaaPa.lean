/- Package parse: a reader in memory; what a call leaves of the world. -/
import Derived.Test.YtnimdngiejcljaaPm
import Derived.Test.YtnimdngiejcljaaLx
import Derived.Test.YtnimdngiejcljaaTk
import Derived.Deep.RegionHeld3
import Derived.Deep.Cut
namespace Go.Proofs.Ytnimdngiejcljaa
open Go.RowKit
set_option linter.unusedVariables false
set_option linter.unusedSimpArgs false
set_option maxRecDepth 20000

/-- A slice: where, how long, how much room. -/
abbrev Sl := Option Addr × Nat × Nat
def slV (s : Sl) : Value := .slice s.1 s.2.1 s.2.2
def matV (m : Mt) : Value := .agg #[.int .i64 m.1, .string m.2.1, .string m.2.2]
def matE : Elem Mt where
  cells m := [.int .i64 m.1, .string m.2.1, .string m.2.2]
  size := 3
  pos := by decide
  len _ := rfl
  one q v h := by
    simp only [List.mem_cons, List.mem_nil_iff, or_false] at h
    rcases h with rfl | rfl | rfl <;> rfl
def strE : Elem ByteArray where
  cells s := [.string s]
  size := 1
  pos := by decide
  len _ := rfl
  one q v h := by
    simp only [List.mem_cons, List.mem_nil_iff, or_false] at h
    rcases h with rfl; rfl
def numE : Elem Int where
  cells s := [.int .i64 s]
  size := 1
  pos := by decide
  len _ := rfl
  one q v h := by
    simp only [List.mem_cons, List.mem_nil_iff, or_false] at h
    rcases h with rfl; rfl
abbrev Row := Nd × Sl × Sl
def ndA (x : Nd) (m n : Sl) : Array Value := #[.int .i64 x.kind, .int .i64 x.op, .string x.text, slV m, .int .i64 x.width, .int .i64 x.back, .int .i64 x.group, slV n, .bool x.bool, .int .i64 x.parts]
def ndE : Elem Row where
  cells q := (ndA q.1 q.2.1 q.2.2).toList
  size := 10
  pos := by decide
  len _ := rfl
  one q v h := by
    simp only [ndA, List.mem_cons, List.mem_nil_iff, or_false] at h
    rcases h with rfl | rfl | rfl | rfl | rfl | rfl | rfl | rfl | rfl | rfl <;> rfl
theorem info34 : (Try.prog.info? 34).map (fun i => (i.zero, i.size, i.bytes)) = some (some (.agg #[.int .i64 0, .int .i64 0, .string ⟨#[]⟩, .slice none 0 0, .int .i64 0, .int .i64 0, .int .i64 0, .slice none 0 0, .bool false, .int .i64 0]), 10, 120) := by kernel_rfl
theorem info44 : (Try.prog.info? 44).map (fun i => (i.zero, i.size, i.bytes)) = some (some (.agg #[.int .i64 0, .string ⟨#[]⟩, .string ⟨#[]⟩]), 3, 40) := by kernel_rfl
theorem info9 : (Try.prog.info? 9).map (fun i => (i.zero, i.size, i.bytes)) = some (some (.string ⟨#[]⟩), 1, 16) := by kernel_rfl
theorem info3 : (Try.prog.info? 3).map (fun i => (i.zero, i.size, i.bytes)) = some (some (.int .i64 0), 1, 8) := by kernel_rfl
theorem ndT : ElemOf ndE Try.prog 22 34 120 := by
  obtain ⟨i0, hi, hz0, hz1, hz2⟩ := info_parts info34
  exact ⟨Try.underlying22, i0, _, hi, hz0, hz1, hz2, rfl⟩
theorem matT : ElemOf matE Try.prog 31 44 40 := by
  obtain ⟨i0, hi, hz0, hz1, hz2⟩ := info_parts info44
  exact ⟨Try.underlying31, i0, _, hi, hz0, hz1, hz2, rfl⟩
theorem strT : ElemOf strE Try.prog 32 9 16 := by
  obtain ⟨i0, hi, hz0, hz1, hz2⟩ := info_parts info9
  exact ⟨Try.underlying32, i0, _, hi, hz0, hz1, hz2, rfl⟩
theorem numT : ElemOf numE Try.prog 72 3 8 := by
  obtain ⟨i0, hi, hz0, hz1, hz2⟩ := info_parts info3
  exact ⟨Try.underlying72, i0, _, hi, hz0, hz1, hz2, rfl⟩

/-- All but those blocks is as it was; there may be more. -/
structure Fr (S : Nat → Prop) (w w' : World) : Prop where
  os : w'.os = w.os
  tape : w'.tape = w.tape
  output : w'.output = w.output
  size : w.heap.size ≤ w'.heap.size
  block : ∀ k, k < w.heap.size → ¬ S k → w'.heap[k]? = w.heap[k]?
theorem Fr.of {S : Nat → Prop} {w w' : World} (h : w.grownBy w' none) : Fr S w w' := ⟨h.os, h.tape, h.output, h.size, fun k hk _ => h.block k hk (by simp)⟩
theorem Fr.row {S : Nat → Prop} {w w' : World} {g : Option Nat} (h : w.grownBy w' g) (hs : ∀ k, g = some k → S k) : Fr S w w' :=
  ⟨h.os, h.tape, h.output, h.size, fun k hk hn => h.block k hk (fun e => hn (hs k e.symm))⟩
theorem Fr.refl (S : Nat → Prop) (w : World) : Fr S w w := .of (World.grownBy.refl _ _)
theorem Fr.trans {S S' : Nat → Prop} {w w1 w2 : World} (h : Fr S w w1) (h' : Fr S' w1 w2) (hs : ∀ k, k < w.heap.size → S' k → S k) : Fr S w w2 :=
  ⟨h'.os.trans h.os, h'.tape.trans h.tape, h'.output.trans h.output, Nat.le_trans h.size h'.size, fun k hk hn => (h'.block k (Nat.lt_of_lt_of_le hk h.size) (fun e => hn (hs k hk e))).trans (h.block k hk hn)⟩
theorem Fr.mono {S S' : Nat → Prop} {w w' : World} (h : Fr S w w') (hs : ∀ k, k < w.heap.size → S k → S' k) : Fr S' w w' :=
  ⟨h.os, h.tape, h.output, h.size, fun k hk hn => h.block k hk (fun e => hn (hs k hk e))⟩
theorem Fr.grown {S : Nat → Prop} {w w' : World} (h : Fr S w w') (hs : ∀ k, k < w.heap.size → ¬ S k) : w.grownBy w' none :=
  ⟨h.os, h.tape, h.output, h.size, fun k hk _ => h.block k hk (hs k hk)⟩
theorem Fr.drew {S : Nat → Prop} {w w' : World} (h : Fr S w w') : Fr S w w'.drew := ⟨h.os, h.tape, h.output, h.size, h.block⟩
theorem sown_same {α : Type} {E : Elem α} {e : TypeId} {w w' : World} {base n : Nat} {v : Value} {l : List α} (h : SOwn E e w base v n l) (hk : ∀ k, v.ownBlock = some k → k < w.heap.size → w'.heap[k]? = w.heap[k]?) : SOwn E e w' base v n l := by
  refine ⟨h.1, ?_⟩
  rcases h.2 with h' | ⟨g, cap, cur, h', h1, h2, r⟩
  · exact .inl h'
  · exact .inr ⟨g, cap, cur, h', h1, by rw [hk g (by rw [h']; rfl) (Array.getElem?_eq_some_iff.1 h2).1]; exact h2, r⟩
theorem srd_same {α : Type} {E : Elem α} {w w' : World} {g : Nat} {off : Nat} {l : List α} (h : SRd E w (some ⟨g, off, none⟩) l) (hk : w'.heap[g]? = w.heap[g]?) : SRd E w' (some ⟨g, off, none⟩) l := by
  rcases h with h | ⟨b, o, e, h⟩
  · exact .inl h
  · cases e
    exact .inr ⟨_, _, rfl, fun j v hj => by rw [← h j v hj]; exact World.cell?_of_block (w := w) (a := ⟨g, off + j, none⟩) hk⟩

/-- A list of nodes that is being made, from base on: its rows; each one's matchers and names lie in rows of their own. -/
structure NdAt (w : World) (b : Nat) (v : Value) (L : List Row) : Prop where
  own : SOwn ndE 34 w b v L.length L
  mat : ∀ q ∈ L, SOwn matE 44 w b (slV q.2.1) q.1.mat.length q.1.mat
  nam : ∀ q ∈ L, SOwn strE 9 w b (slV q.2.2) q.1.names.length q.1.names
  apm : ∀ q ∈ L, ∀ k, (slV q.2.1).ownBlock = some k → v.ownBlock ≠ some k
  apn : ∀ q ∈ L, ∀ k, (slV q.2.2).ownBlock = some k → v.ownBlock ≠ some k
theorem NdAt.nil (w : World) (b : Nat) : NdAt w b (.slice none 0 0) [] :=
  ⟨SOwn.nil _ _ _, by simp, by simp, by simp, by simp⟩
theorem NdAt.same {w w' : World} {b : Nat} {v : Value} {L : List Row} (h : NdAt w b v L) (hk : ∀ k, b ≤ k → k < w.heap.size → w'.heap[k]? = w.heap[k]?) : NdAt w' b v L :=
  ⟨sown_same h.own (fun k e h1 => hk k (SOwn.block h.own k e).1 h1), fun q hq => sown_same (h.mat q hq) (fun k e h1 => hk k (SOwn.block (h.mat q hq) k e).1 h1), fun q hq => sown_same (h.nam q hq) (fun k e h1 => hk k (SOwn.block (h.nam q hq) k e).1 h1), h.apm, h.apn⟩
theorem NdAt.val {w : World} {b : Nat} {v : Value} {L : List Row} (h : NdAt w b v L) : ∃ a c, v = .slice a L.length c := by
  rcases h.own.2 with ⟨e, h0⟩ | ⟨g, c, cur, e, _⟩
  · exact ⟨none, 0, by rw [e, h0]⟩
  · exact ⟨_, c, e⟩

/-- The tokens of a query: where, and which. -/
structure Tk where
  g : Nat
  c : Nat
  T : List Tok
/-- A reader: at a token, so many open, those nodes. -/
structure RdAt (w : World) (b p : Nat) (K : Tk) (k : Nat) (op : Int) (v : Value) (L : List Row) : Prop where
  hp : p < b
  hg : K.g < b
  ne : K.g ≠ p
  hb : b ≤ w.heap.size
  row : w.heap[p]? = some (.cells #[.slice (some ⟨K.g, 0, none⟩) K.T.length K.c, .int .i64 (k : Int), .int .i64 op, v] 48 (0, 0))
  tok : SRd tokE w (some ⟨K.g, 0, none⟩) K.T
  nds : NdAt w b v L
/-- The blocks that a reader writes. -/
def Wr (p : Nat) (v : Value) (k : Nat) : Prop := k = p ∨ v.ownBlock = some k
/-- Only the reader itself. -/
def Me (p : Nat) (k : Nat) : Prop := k = p
theorem RdAt.lt {w : World} {b p : Nat} {K : Tk} {k : Nat} {op : Int} {v : Value} {L : List Row} (h : RdAt w b p K k op v L) : p < w.heap.size := Nat.lt_of_lt_of_le h.hp h.hb
theorem RdAt.cells {w : World} {b p : Nat} {K : Tk} {k : Nat} {op : Int} {v : Value} {L : List Row} (h : RdAt w b p K k op v L) : w.cell? ⟨p, 0, none⟩ = some (.slice (some ⟨K.g, 0, none⟩) K.T.length K.c) ∧ w.cell? ⟨p, 1, none⟩ = some (.int .i64 (k : Int)) ∧ w.cell? ⟨p, 2, none⟩ = some (.int .i64 op) ∧ w.cell? ⟨p, 3, none⟩ = some v := cell4 h.row
theorem RdAt.free {w : World} {b p : Nat} {K : Tk} {k : Nat} {op : Int} {v : Value} {L : List Row} (h : RdAt w b p K k op v L) (j : Nat) : w.frozen? ⟨p, j, none⟩ = false := free_row h.row j
theorem RdAt.grown {w w' : World} {b p : Nat} {K : Tk} {k : Nat} {op : Int} {v : Value} {L : List Row} (h : RdAt w b p K k op v L) (hg : w.grownBy w' none) : RdAt w' b p K k op v L :=
  ⟨h.hp, h.hg, h.ne, Nat.le_trans h.hb hg.size, by rw [hg.block p h.lt (by simp)]; exact h.row, h.tok.grown hg (by simp), h.nds.same (fun j _ hj => hg.block j hj (by simp))⟩
/-- A reader lives through what writes outside of it. -/
theorem RdAt.fr {S : Nat → Prop} {w w' : World} {b p : Nat} {K : Tk} {k : Nat} {op : Int} {v : Value} {L : List Row} (h : RdAt w b p K k op v L) (hg : Fr S w w') (hs : ∀ j, S j → b ≤ j ∧ v.ownBlock ≠ some j ∧ ∀ q ∈ L, (slV q.2.1).ownBlock ≠ some j ∧ (slV q.2.2).ownBlock ≠ some j) : RdAt w' b p K k op v L := by
  have hlow : ∀ j, j < b → w'.heap[j]? = w.heap[j]? := fun j hj => hg.block j (Nat.lt_of_lt_of_le hj h.hb) (fun e => by have := (hs j e).1; omega)
  refine ⟨h.hp, h.hg, h.ne, Nat.le_trans h.hb hg.size, by rw [hlow p h.hp]; exact h.row, srd_same h.tok (hlow _ h.hg), ?_⟩
  exact ⟨sown_same h.nds.own (fun j e h1 => hg.block j h1 (fun e2 => (hs j e2).2.1 e)), fun q hq => sown_same (h.nds.mat q hq) (fun j e h1 => hg.block j h1 (fun e2 => ((hs j e2).2.2 q hq).1 e)), fun q hq => sown_same (h.nds.nam q hq) (fun j e h1 => hg.block j h1 (fun e2 => ((hs j e2).2.2 q hq).2 e)), h.nds.apm, h.nds.apn⟩
theorem row_set {w : World} {p : Nat} {x y z u : Value} {t : TypeId} (h : w.heap[p]? = some (.cells #[x, y, z, u] t (0, 0))) (v : Value) :
    (w.setCell ⟨p, 1, none⟩ v).heap[p]? = some (.cells #[x, v, z, u] t (0, 0)) ∧ (w.setCell ⟨p, 2, none⟩ v).heap[p]? = some (.cells #[x, y, v, u] t (0, 0)) ∧ (w.setCell ⟨p, 3, none⟩ v).heap[p]? = some (.cells #[x, y, z, v] t (0, 0)) := by
  refine ⟨?_, ?_, ?_⟩ <;> simp [World.setCell, Array.getElem?_modify, h]
theorem set_other {w : World} {p j : Nat} {i : Nat} {v : Value} (h : j ≠ p) : (w.setCell ⟨p, i, none⟩ v).heap[j]? = w.heap[j]? := by
  have hg : w.grownBy (w.setCell ⟨p, i, none⟩ v) (some p) := gb_set rfl
  by_cases hj : j < w.heap.size
  · exact hg.block j hj (by simpa using h)
  · have h1 : (w.setCell ⟨p, i, none⟩ v).heap.size = w.heap.size := by simp [World.setCell]
    rw [Array.getElem?_eq_none (by omega), Array.getElem?_eq_none (by omega)]
/-- It goes on to another token. -/
theorem RdAt.at {w : World} {b p : Nat} {K : Tk} {k : Nat} {op : Int} {v : Value} {L : List Row} (h : RdAt w b p K k op v L) (k2 : Nat) : RdAt (w.setCell ⟨p, 1, none⟩ (.int .i64 (k2 : Int))) b p K k2 op v L :=
  ⟨h.hp, h.hg, h.ne, by simp [World.setCell]; exact h.hb, (row_set h.row _).1, srd_same h.tok (set_other h.ne), h.nds.same (fun j hj _ => set_other (by have := h.hp; omega))⟩
theorem RdAt.open {w : World} {b p : Nat} {K : Tk} {k : Nat} {op : Int} {v : Value} {L : List Row} (h : RdAt w b p K k op v L) (op2 : Int) : RdAt (w.setCell ⟨p, 2, none⟩ (.int .i64 op2)) b p K k op2 v L :=
  ⟨h.hp, h.hg, h.ne, by simp [World.setCell]; exact h.hb, (row_set h.row _).2.1, srd_same h.tok (set_other h.ne), h.nds.same (fun j hj _ => set_other (by have := h.hp; omega))⟩
theorem fr_set (p i : Nat) (w : World) (v : Value) : Fr (Me p) w (w.setCell ⟨p, i, none⟩ v) := Fr.row (g := some p) (gb_set rfl) (fun k hk => by cases hk; rfl)
/-- What was thrown. -/
def flt (p c : Int) : List PanicEntry := [{ v := .iface 63 (.agg #[.int .i64 p, .int .i64 c]), recovered := false }]
/-- What a text of tokens must be: the last one is the end. -/
def EndL : List Tok → Prop
  | [] => False
  | [t] => t.1 = 0
  | t :: u :: r => EndL (u :: r)
theorem EndL.ne {ts : List Tok} (h : EndL ts) : ts ≠ [] := by intro e; subst e; exact h
theorem EndL.tail {ts : List Tok} (h : EndL ts) (hk : (hd ts).1 ≠ 0) : EndL ts.tail := by
  match ts with
  | [] => exact h
  | [t] => exact absurd h hk
  | t :: u :: r => exact h
/-- What is ahead of a reader. -/
structure Ahead (K : Tk) (k : Nat) (ts : List Tok) : Prop where
  eq : K.T.drop k = ts
  fin : EndL ts
  small : K.T.length ≤ 4097
theorem Ahead.lt {K : Tk} {k : Nat} {ts : List Tok} (h : Ahead K k ts) : k < K.T.length := by
  by_cases hk : k < K.T.length
  · exact hk
  · exact absurd (by rw [← h.eq]; exact List.drop_eq_nil_of_le (by omega)) h.fin.ne
theorem Ahead.len {K : Tk} {k : Nat} {ts : List Tok} (h : Ahead K k ts) : ts.length + k = K.T.length := by
  have := h.lt
  rw [← h.eq, List.length_drop]; omega
theorem Ahead.get {K : Tk} {k : Nat} {ts : List Tok} (h : Ahead K k ts) : K.T[k]? = some (hd ts) := by
  have h1 := h.eq
  rw [List.drop_eq_getElem_cons h.lt] at h1
  rw [← h1, List.getElem?_eq_getElem h.lt]
  rfl
theorem Ahead.next {K : Tk} {k : Nat} {ts : List Tok} (h : Ahead K k ts) (hk : (hd ts).1 ≠ 0) : Ahead K (k + 1) ts.tail :=
  ⟨by rw [← h.eq, List.tail_drop], h.fin.tail hk, h.small⟩
end Go.Proofs.Ytnimdngiejcljaa
