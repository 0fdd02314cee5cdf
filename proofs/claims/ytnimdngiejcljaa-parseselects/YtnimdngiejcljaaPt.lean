/- Package parse: a node in a box; what a level answers; selection. -/
import Derived.Test.YtnimdngiejcljaaPs
namespace Go.Proofs.Ytnimdngiejcljaa
open Go.RowKit
set_option linter.unusedVariables false
set_option linter.unusedSimpArgs false
set_option maxRecDepth 20000

theorem sown_blk {α : Type} {E : Elem α} {e : TypeId} {w : World} {base n : Nat} {v : Value} {l : List α} (h : SOwn E e w base v n l) {j : Nat} (hj : v.ownBlock = some j) : ∃ cur, w.heap[j]? = some (.cells cur e (0, 0)) := by
  rcases h.2 with ⟨h', h0⟩ | ⟨g, cap, cur, h', h1, h2, _⟩
  · rw [h'] at hj; cases hj
  · rw [h'] at hj; cases hj; exact ⟨cur, h2⟩
/-- A node in a box, beside a reader that goes on. -/
structure NAt (w : World) (v0 : Value) (nb b p : Nat) (K : Tk) (k : Nat) (op : Int) (v : Value) (L : List Row) (x : Nd) (m n : Sl) (W : World) : Prop where
  rd : RdAt W b p K k op v L
  row : W.heap[nb]? = some (.cells (ndA x m n) 34 (0, 0))
  mat : SOwn matE 44 W w.heap.size (slV m) x.mat.length x.mat
  nam : SOwn strE 9 W w.heap.size (slV n) x.names.length x.names
  am : ∀ j, (slV m).ownBlock = some j → v.ownBlock ≠ some j
  an : ∀ j, (slV n).ownBlock = some j → v.ownBlock ≠ some j
  nv : v.ownBlock ≠ some nb
  adv : Adv p w v0 W v
  lo : w.heap.size ≤ nb
  pl : p < w.heap.size ∧ b ≤ w.heap.size
theorem NAt.lt {w W : World} {v0 v : Value} {nb b p : Nat} {K : Tk} {k : Nat} {op : Int} {L : List Row} {x : Nd} {m n : Sl} (h : NAt w v0 nb b p K k op v L x m n W) : nb < W.heap.size := (Array.getElem?_eq_some_iff.1 h.row).1
/-- The reader went on. -/
theorem NAt.go {w W W' : World} {v0 v v' : Value} {nb b p : Nat} {K : Tk} {k k' : Nat} {op op' : Int} {L L' : List Row} {x : Nd} {m n : Sl} (h : NAt w v0 nb b p K k op v L x m n W) (hr : RdAt W' b p K k' op' v' L') (ha : Adv p W v W' v') : NAt w v0 nb b p K k' op' v' L' x m n W' := by
  have hpl := h.pl
  have hlo := h.lo
  have k1 := ha.keep (b := w.heap.size) h.mat hpl.1 h.am
  have k2 := ha.keep (b := w.heap.size) h.nam hpl.1 h.an
  refine ⟨hr, ?_, k1.1, k2.1, k1.2, k2.2, fun e => ?_, h.adv.trans ha, hlo, hpl⟩
  · rw [ha.fr.block nb h.lt (fun e => by
      rcases e with e | e
      · omega
      · exact h.nv e)]
    exact h.row
  · rcases ha.new nb e with e2 | e2
    · exact h.nv e2
    · have := h.lt; omega
theorem NAt.step {w W W' : World} {v0 v : Value} {nb b p : Nat} {K : Tk} {k k' : Nat} {op op' : Int} {L : List Row} {x : Nd} {m n : Sl} (h : NAt w v0 nb b p K k op v L x m n W) (hr : RdAt W' b p K k' op' v L) (hf : Fr (Me p) W W') : NAt w v0 nb b p K k' op' v L x m n W' := h.go hr (.me hf)
theorem NAt.grown {w W W' : World} {v0 v : Value} {nb b p : Nat} {K : Tk} {k : Nat} {op : Int} {L : List Row} {x : Nd} {m n : Sl} (h : NAt w v0 nb b p K k op v L x m n W) (hg : W.grownBy W' none) : NAt w v0 nb b p K k op v L x m n W' := h.step (h.rd.grown hg) (.of hg)
/-- A field is written. -/
theorem NAt.set {w W W' : World} {v0 v : Value} {nb b p : Nat} {K : Tk} {k : Nat} {op : Int} {L : List Row} {x x' : Nd} {m m' n n' : Sl} (h : NAt w v0 nb b p K k op v L x m n W) (hf : Fr (fun j => j = nb) W W') (hrow : W'.heap[nb]? = some (.cells (ndA x' m' n') 34 (0, 0))) (hm : SOwn matE 44 W w.heap.size (slV m') x'.mat.length x'.mat) (hn : SOwn strE 9 W w.heap.size (slV n') x'.names.length x'.names) (am : ∀ j, (slV m').ownBlock = some j → v.ownBlock ≠ some j) (an : ∀ j, (slV n').ownBlock = some j → v.ownBlock ≠ some j) : NAt w v0 nb b p K k op v L x' m' n' W' := by
  have hpl := h.pl
  have hlo := h.lo
  have apart : ∀ {α : Type} {E : Elem α} {e : TypeId} {base n : Nat} {u : Value} {l : List α}, e ≠ 34 → SOwn E e W base u n l → u.ownBlock ≠ some nb := fun hne ho e => by
    obtain ⟨cur, hc⟩ := sown_blk ho e
    rw [h.row] at hc
    cases hc
    exact hne rfl
  have keep : ∀ {α : Type} {E : Elem α} {e : TypeId} {base n : Nat} {u : Value} {l : List α}, e ≠ 34 → SOwn E e W base u n l → SOwn E e W' base u n l := fun hne ho => sown_same ho (fun j hj hl => hf.block j hl (fun e => by subst e; exact apart hne ho hj))
  refine ⟨h.rd.fr hf (fun j e => ?_), hrow, keep (by decide) hm, keep (by decide) hn, am, an, h.nv, ⟨h.adv.fr.trans hf (fun j hj e => by change j = nb at e; omega), h.adv.new⟩, hlo, hpl⟩
  subst e
  exact ⟨by omega, h.nv, fun q hq => ⟨apart (by decide) (h.rd.nds.mat q hq), apart (by decide) (h.rd.nds.nam q hq)⟩⟩
/-- What a level of the grammar answers. -/
def PQ (b p : Nat) (K : Tk) (k : Nat) (op : Int) (v : Value) (L : List Row) (R : Rs (List Nd)) (w : World) (e : Ending) (w' : World) : Prop :=
  match R with
  | .ok a r => e = .returned (.tuple #[]) ∧ ∃ v' k' Q, RdAt w' b p K k' op v' (L ++ Q) ∧ Q.map (·.1) = a ∧ Ahead K k' r ∧ k ≤ k' ∧ Adv p w v w' v'
  | .bad q c => e = .panicked (flt q c) ∧ Fr (Wr p v) w w'
  | .out => False
/-- The node that is in the box is told. -/
theorem f_tellN {w W : World} {v0 v : Value} {nb b p : Nat} {K : Tk} {k : Nat} {op : Int} {L : List Row} {x : Nd} {m n : Sl} (h : NAt w v0 nb b p K k op v L x m n W) (hl : L.length ≤ 1000000) :
    Calls Try.prog 53 #[.pointer (some ⟨p, 0, none⟩), .agg (ndA x m n)] W fun e w' => e = .returned (.tuple #[]) ∧ ∃ v', RdAt w' b p K k op v' (L ++ [(x, m, n)]) ∧ Adv p w v0 w' v' :=
  (f_tell h.rd (x, m, n) (SOwn.base h.mat h.pl.2) (SOwn.base h.nam h.pl.2) h.am h.an hl).mono fun e w' ⟨he, v', hr, ha⟩ => ⟨he, v', hr, h.adv.trans ha⟩
/-- The cells of a node in a box. -/
theorem NAt.cells {w W : World} {v0 v : Value} {nb b p : Nat} {K : Tk} {k : Nat} {op : Int} {L : List Row} {x : Nd} {m n : Sl} (h : NAt w v0 nb b p K k op v L x m n W) :
    W.cell? ⟨nb, 0, none⟩ = some (.int .i64 x.kind) ∧ W.cell? ⟨nb, 1, none⟩ = some (.int .i64 x.op) ∧ W.cell? ⟨nb, 2, none⟩ = some (.string x.text) ∧ W.cell? ⟨nb, 3, none⟩ = some (slV m) ∧ W.cell? ⟨nb, 4, none⟩ = some (.int .i64 x.width) ∧ W.cell? ⟨nb, 5, none⟩ = some (.int .i64 x.back) ∧ W.cell? ⟨nb, 6, none⟩ = some (.int .i64 x.group) ∧ W.cell? ⟨nb, 7, none⟩ = some (slV n) ∧ W.cell? ⟨nb, 8, none⟩ = some (.bool x.bool) ∧ W.cell? ⟨nb, 9, none⟩ = some (.int .i64 x.parts) := by
  have hr := h.row
  unfold ndA at hr
  refine ⟨?_, ?_, ?_, ?_, ?_, ?_, ?_, ?_, ?_, ?_⟩ <;> (rw [cell_of_row _ _ _ _ _ _ hr]; rfl)
theorem nd_set {W : World} {nb : Nat} {x : Nd} {m n : Sl} (h : W.heap[nb]? = some (.cells (ndA x m n) 34 (0, 0))) :
    (∀ c : Int, (W.setCell ⟨nb, 0, none⟩ (.int .i64 c)).heap[nb]? = some (.cells (ndA { x with kind := c } m n) 34 (0, 0))) ∧ (∀ c : Int, (W.setCell ⟨nb, 4, none⟩ (.int .i64 c)).heap[nb]? = some (.cells (ndA { x with width := c } m n) 34 (0, 0))) ∧ (∀ c : Int, (W.setCell ⟨nb, 5, none⟩ (.int .i64 c)).heap[nb]? = some (.cells (ndA { x with back := c } m n) 34 (0, 0))) ∧ (∀ c : Bool, (W.setCell ⟨nb, 8, none⟩ (.bool c)).heap[nb]? = some (.cells (ndA { x with bool := c } m n) 34 (0, 0))) ∧
    (∀ (c : Int) (n2 : Sl) (ns : List ByteArray), ((W.setCell ⟨nb, 6, none⟩ (.int .i64 c)).setCell ⟨nb, 7, none⟩ (slV n2)).heap[nb]? = some (.cells (ndA { x with group := c, names := ns } m n2) 34 (0, 0))) := by
  unfold ndA at h
  refine ⟨fun c => ?_, fun c => ?_, fun c => ?_, fun c => ?_, fun c n2 ns => ?_⟩ <;> simp [World.setCell, Array.getElem?_modify, h, ndA]
theorem NAt.kind {w W : World} {v0 v : Value} {nb b p : Nat} {K : Tk} {k : Nat} {op : Int} {L : List Row} {x : Nd} {m n : Sl} (h : NAt w v0 nb b p K k op v L x m n W) (c : Int) : NAt w v0 nb b p K k op v L { x with kind := c } m n (W.setCell ⟨nb, 0, none⟩ (.int .i64 c)) := h.set (fr_set nb 0 W _) ((nd_set h.row).1 c) h.mat h.nam h.am h.an
theorem NAt.width {w W : World} {v0 v : Value} {nb b p : Nat} {K : Tk} {k : Nat} {op : Int} {L : List Row} {x : Nd} {m n : Sl} (h : NAt w v0 nb b p K k op v L x m n W) (c : Int) : NAt w v0 nb b p K k op v L { x with width := c } m n (W.setCell ⟨nb, 4, none⟩ (.int .i64 c)) := h.set (fr_set nb 4 W _) ((nd_set h.row).2.1 c) h.mat h.nam h.am h.an
theorem NAt.back {w W : World} {v0 v : Value} {nb b p : Nat} {K : Tk} {k : Nat} {op : Int} {L : List Row} {x : Nd} {m n : Sl} (h : NAt w v0 nb b p K k op v L x m n W) (c : Int) : NAt w v0 nb b p K k op v L { x with back := c } m n (W.setCell ⟨nb, 5, none⟩ (.int .i64 c)) := h.set (fr_set nb 5 W _) ((nd_set h.row).2.2.1 c) h.mat h.nam h.am h.an
theorem NAt.bool {w W : World} {v0 v : Value} {nb b p : Nat} {K : Tk} {k : Nat} {op : Int} {L : List Row} {x : Nd} {m n : Sl} (h : NAt w v0 nb b p K k op v L x m n W) (c : Bool) : NAt w v0 nb b p K k op v L { x with bool := c } m n (W.setCell ⟨nb, 8, none⟩ (.bool c)) := h.set (fr_set nb 8 W _) ((nd_set h.row).2.2.2.1 c) h.mat h.nam h.am h.an
theorem NAt.group {w W : World} {v0 v : Value} {nb b p : Nat} {K : Tk} {k : Nat} {op : Int} {L : List Row} {x : Nd} {m n : Sl} (h : NAt w v0 nb b p K k op v L x m n W) (c : Int) (n2 : Sl) (ns : List ByteArray) (hn : SOwn strE 9 W w.heap.size (slV n2) ns.length ns) (an : ∀ j, (slV n2).ownBlock = some j → v.ownBlock ≠ some j) : NAt w v0 nb b p K k op v L { x with group := c, names := ns } m n2 ((W.setCell ⟨nb, 6, none⟩ (.int .i64 c)).setCell ⟨nb, 7, none⟩ (slV n2)) :=
  h.set ((fr_set nb 6 W _).trans (fr_set nb 7 _ _) (fun _ _ e => e)) ((nd_set h.row).2.2.2.2 c n2 ns) h.mat hn h.am an
/-- A node's box is made. -/
theorem NAt.made {w W : World} {b p : Nat} {K : Tk} {k k0 : Nat} {op op0 : Int} {v : Value} {L : List Row} (h0 : RdAt w b p K k0 op0 v L) (h : RdAt W b p K k op v L) (hf : Fr (Me p) w W) (x : Nd) (m n : Sl) (hm : SOwn matE 44 W w.heap.size (slV m) x.mat.length x.mat) (hn : SOwn strE 9 W w.heap.size (slV n) x.names.length x.names) : NAt w v W.heap.size b p K k op v L x m n (W.alloc (.cells (ndA x m n) 34)) := by
  have ga := World.grownBy_alloc W (.cells (ndA x m n) 34) none
  have hv : ∀ j, v.ownBlock = some j → j < w.heap.size := fun j hj => (SOwn.block h0.nds.own j hj).2
  refine ⟨h.grown ga, heap_alloc_new _ _, SOwn.kept hm ga (Classical.em _), SOwn.kept hn ga (Classical.em _), fun j hj e => ?_, fun j hj e => ?_, fun e => ?_, (Adv.me hf).trans (.gb ga), hf.size, ⟨h0.lt, h0.hb⟩⟩
  · have := (SOwn.block hm j hj).1; have := hv j e; omega
  · have := (SOwn.block hn j hj).1; have := hv j e; omega
  · have := hv _ e; have := hf.size; omega
theorem app_one {Q : List Row} {a : List Nd} {x : Nd} {m n : Sl} (h : Q.map (·.1) = a) : (Q ++ [(x, m, n)]).map (·.1) = a ++ [x] := by rw [List.map_append, h]; rfl
end Go.Proofs.Ytnimdngiejcljaa
