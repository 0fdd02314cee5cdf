/- Several texts in one: Pt, Pu, Qa, Qb, Qc. -/
import Derived.Test.YthbodkgcbfplgaaGreatZi
import Derived.Test.YthbodkgcbfplgaaGreatZb
/- Package parse: a node in a box; what a level answers; selection. -/
namespace Go.Proofs.YthbodkgcbfplgaaGreat
open Go.RowKit
set_option linter.unusedVariables false
set_option linter.unusedSimpArgs false
set_option maxRecDepth 20000

theorem sown_blk {α : Type} {E : Elem α} {e : TypeId} {w : World} {base n : Nat} {v : Value} {l : List α} (h : SOwn E e w base v n l) {j : Nat} (hj : v.ownBlock = some j) : ∃ cur, w.heap[j]? = some (.cells cur e (0, 0)) := by
  rcases h.2 with ⟨h', h0⟩ | ⟨g, cap, cur, h', h1, h2, _⟩
  · rw [h'] at hj; cases hj
  · rw [h'] at hj; cases hj; exact ⟨cur, h2⟩
/-- A node in a box, beside a reader that goes on. -/
structure NAt (w : World) (v0 : Value) (nb b p : Nat) (K : Tk) (k : Nat) (op : Int) (v : Value) (L : List Row) (x : Nd) (m n : Sl) (W : World) : Prop where
  rd : RdAt W b p K k op v L
  row : W.heap[nb]? = some (.cells (ndA x m n) 37 (0, 0))
  mat : SOwn matE 54 W w.heap.size (slV m) x.mat.length x.mat
  nam : SOwn strE 9 W w.heap.size (slV n) x.names.length x.names
  am : ∀ j, (slV m).ownBlock = some j → v.ownBlock ≠ some j
  an : ∀ j, (slV n).ownBlock = some j → v.ownBlock ≠ some j
  nv : v.ownBlock ≠ some nb
  adv : Adv p w v0 W v
  lo : w.heap.size ≤ nb
  pl : p < w.heap.size ∧ b ≤ w.heap.size
theorem NAt.lt {w W : World} {v0 v : Value} {nb b p : Nat} {K : Tk} {k : Nat} {op : Int} {L : List Row} {x : Nd} {m n : Sl} (h : NAt w v0 nb b p K k op v L x m n W) : nb < W.heap.size := (Array.getElem?_eq_some_iff.1 h.row).1
/-- The reader went on. -/
theorem NAt.go {w W W' : World} {v0 v v' : Value} {nb b p : Nat} {K : Tk} {k k' : Nat} {op op' : Int} {L L' : List Row} {x : Nd} {m n : Sl} (h : NAt w v0 nb b p K k op v L x m n W) (hr : RdAt W' b p K k' op' v' L') (ha : Adv p W v W' v') : NAt w v0 nb b p K k' op' v' L' x m n W' := by
  have hpl := h.pl
  have hlo := h.lo
  have k1 := ha.keep (b := w.heap.size) h.mat hpl.1 h.am
  have k2 := ha.keep (b := w.heap.size) h.nam hpl.1 h.an
  refine ⟨hr, ?_, k1.1, k2.1, k1.2, k2.2, fun e => ?_, h.adv.trans ha, hlo, hpl⟩
  · rw [ha.fr.block nb h.lt (fun e => by
      rcases e with e | e
      · omega
      · exact h.nv e)]
    exact h.row
  · rcases ha.new nb e with e2 | e2
    · exact h.nv e2
    · have := h.lt; omega
theorem NAt.step {w W W' : World} {v0 v : Value} {nb b p : Nat} {K : Tk} {k k' : Nat} {op op' : Int} {L : List Row} {x : Nd} {m n : Sl} (h : NAt w v0 nb b p K k op v L x m n W) (hr : RdAt W' b p K k' op' v L) (hf : Fr (Me p) W W') : NAt w v0 nb b p K k' op' v L x m n W' := h.go hr (.me hf)
theorem NAt.grown {w W W' : World} {v0 v : Value} {nb b p : Nat} {K : Tk} {k : Nat} {op : Int} {L : List Row} {x : Nd} {m n : Sl} (h : NAt w v0 nb b p K k op v L x m n W) (hg : W.grownBy W' none) : NAt w v0 nb b p K k op v L x m n W' := h.step (h.rd.grown hg) (.of hg)
/-- A field is written. -/
theorem NAt.set {w W W' : World} {v0 v : Value} {nb b p : Nat} {K : Tk} {k : Nat} {op : Int} {L : List Row} {x x' : Nd} {m m' n n' : Sl} (h : NAt w v0 nb b p K k op v L x m n W) (hf : Fr (fun j => j = nb) W W') (hrow : W'.heap[nb]? = some (.cells (ndA x' m' n') 37 (0, 0))) (hm : SOwn matE 54 W w.heap.size (slV m') x'.mat.length x'.mat) (hn : SOwn strE 9 W w.heap.size (slV n') x'.names.length x'.names) (am : ∀ j, (slV m').ownBlock = some j → v.ownBlock ≠ some j) (an : ∀ j, (slV n').ownBlock = some j → v.ownBlock ≠ some j) : NAt w v0 nb b p K k op v L x' m' n' W' := by
  have hpl := h.pl
  have hlo := h.lo
  have apart : ∀ {α : Type} {E : Elem α} {e : TypeId} {base n : Nat} {u : Value} {l : List α}, e ≠ 37 → SOwn E e W base u n l → u.ownBlock ≠ some nb := fun hne ho e => by
    obtain ⟨cur, hc⟩ := sown_blk ho e
    rw [h.row] at hc
    cases hc
    exact hne rfl
  have keep : ∀ {α : Type} {E : Elem α} {e : TypeId} {base n : Nat} {u : Value} {l : List α}, e ≠ 37 → SOwn E e W base u n l → SOwn E e W' base u n l := fun hne ho => sown_same ho (fun j hj hl => hf.block j hl (fun e => by subst e; exact apart hne ho hj))
  refine ⟨h.rd.fr hf (fun j e => ?_), hrow, keep (by decide) hm, keep (by decide) hn, am, an, h.nv, ⟨h.adv.fr.trans hf (fun j hj e => by change j = nb at e; omega), h.adv.new⟩, hlo, hpl⟩
  subst e
  exact ⟨by omega, h.nv, fun q hq => ⟨apart (by decide) (h.rd.nds.mat q hq), apart (by decide) (h.rd.nds.nam q hq)⟩⟩
/-- What a level of the grammar answers. -/
def PQ (b p : Nat) (K : Tk) (k : Nat) (op : Int) (v : Value) (L : List Row) (R : Rs (List Nd)) (w : World) (e : Ending) (w' : World) : Prop :=
  match R with
  | .ok a r => e = .returned (.tuple #[]) ∧ ∃ v' k' Q, RdAt w' b p K k' op v' (L ++ Q) ∧ Q.map (·.1) = a ∧ Ahead K k' r ∧ k ≤ k' ∧ Adv p w v w' v'
  | .bad q c => e = .panicked (flt q c) ∧ Fr (Wr p v) w w'
  | .out => False
/-- The node that is in the box is told. -/
theorem f_tellN {w W : World} {v0 v : Value} {nb b p : Nat} {K : Tk} {k : Nat} {op : Int} {L : List Row} {x : Nd} {m n : Sl} (h : NAt w v0 nb b p K k op v L x m n W) (hl : L.length ≤ 1000000) :
    Calls Tryz.prog 80 #[.pointer (some ⟨p, 0, none⟩), .agg (ndA x m n)] W fun e w' => e = .returned (.tuple #[]) ∧ ∃ v', RdAt w' b p K k op v' (L ++ [(x, m, n)]) ∧ Adv p w v0 w' v' :=
  (f_tell h.rd (x, m, n) (SOwn.base h.mat h.pl.2) (SOwn.base h.nam h.pl.2) h.am h.an hl).mono fun e w' ⟨he, v', hr, ha⟩ => ⟨he, v', hr, h.adv.trans ha⟩
/-- The cells of a node in a box. -/
theorem NAt.cells {w W : World} {v0 v : Value} {nb b p : Nat} {K : Tk} {k : Nat} {op : Int} {L : List Row} {x : Nd} {m n : Sl} (h : NAt w v0 nb b p K k op v L x m n W) :
    W.cell? ⟨nb, 0, none⟩ = some (.int .i64 x.kind) ∧ W.cell? ⟨nb, 1, none⟩ = some (.int .i64 x.op) ∧ W.cell? ⟨nb, 2, none⟩ = some (.string x.text) ∧ W.cell? ⟨nb, 3, none⟩ = some (slV m) ∧ W.cell? ⟨nb, 4, none⟩ = some (.int .i64 x.width) ∧ W.cell? ⟨nb, 5, none⟩ = some (.int .i64 x.back) ∧ W.cell? ⟨nb, 6, none⟩ = some (.int .i64 x.group) ∧ W.cell? ⟨nb, 7, none⟩ = some (slV n) ∧ W.cell? ⟨nb, 8, none⟩ = some (.bool x.bool) ∧ W.cell? ⟨nb, 9, none⟩ = some (.int .i64 x.parts) := by
  have hr := h.row
  unfold ndA at hr
  refine ⟨?_, ?_, ?_, ?_, ?_, ?_, ?_, ?_, ?_, ?_⟩ <;> (rw [cell_of_row _ _ _ _ _ _ hr]; rfl)
theorem nd_set {W : World} {nb : Nat} {x : Nd} {m n : Sl} (h : W.heap[nb]? = some (.cells (ndA x m n) 37 (0, 0))) :
    (∀ c : Int, (W.setCell ⟨nb, 0, none⟩ (.int .i64 c)).heap[nb]? = some (.cells (ndA { x with kind := c } m n) 37 (0, 0))) ∧ (∀ c : Int, (W.setCell ⟨nb, 4, none⟩ (.int .i64 c)).heap[nb]? = some (.cells (ndA { x with width := c } m n) 37 (0, 0))) ∧ (∀ c : Int, (W.setCell ⟨nb, 5, none⟩ (.int .i64 c)).heap[nb]? = some (.cells (ndA { x with back := c } m n) 37 (0, 0))) ∧ (∀ c : Bool, (W.setCell ⟨nb, 8, none⟩ (.bool c)).heap[nb]? = some (.cells (ndA { x with bool := c } m n) 37 (0, 0))) ∧
    (∀ (c : Int) (n2 : Sl) (ns : List ByteArray), ((W.setCell ⟨nb, 6, none⟩ (.int .i64 c)).setCell ⟨nb, 7, none⟩ (slV n2)).heap[nb]? = some (.cells (ndA { x with group := c, names := ns } m n2) 37 (0, 0))) := by
  unfold ndA at h
  refine ⟨fun c => ?_, fun c => ?_, fun c => ?_, fun c => ?_, fun c n2 ns => ?_⟩ <;> simp [World.setCell, Array.getElem?_modify, h, ndA]
theorem NAt.kind {w W : World} {v0 v : Value} {nb b p : Nat} {K : Tk} {k : Nat} {op : Int} {L : List Row} {x : Nd} {m n : Sl} (h : NAt w v0 nb b p K k op v L x m n W) (c : Int) : NAt w v0 nb b p K k op v L { x with kind := c } m n (W.setCell ⟨nb, 0, none⟩ (.int .i64 c)) := h.set (fr_set nb 0 W _) ((nd_set h.row).1 c) h.mat h.nam h.am h.an
theorem NAt.width {w W : World} {v0 v : Value} {nb b p : Nat} {K : Tk} {k : Nat} {op : Int} {L : List Row} {x : Nd} {m n : Sl} (h : NAt w v0 nb b p K k op v L x m n W) (c : Int) : NAt w v0 nb b p K k op v L { x with width := c } m n (W.setCell ⟨nb, 4, none⟩ (.int .i64 c)) := h.set (fr_set nb 4 W _) ((nd_set h.row).2.1 c) h.mat h.nam h.am h.an
theorem NAt.back {w W : World} {v0 v : Value} {nb b p : Nat} {K : Tk} {k : Nat} {op : Int} {L : List Row} {x : Nd} {m n : Sl} (h : NAt w v0 nb b p K k op v L x m n W) (c : Int) : NAt w v0 nb b p K k op v L { x with back := c } m n (W.setCell ⟨nb, 5, none⟩ (.int .i64 c)) := h.set (fr_set nb 5 W _) ((nd_set h.row).2.2.1 c) h.mat h.nam h.am h.an
theorem NAt.bool {w W : World} {v0 v : Value} {nb b p : Nat} {K : Tk} {k : Nat} {op : Int} {L : List Row} {x : Nd} {m n : Sl} (h : NAt w v0 nb b p K k op v L x m n W) (c : Bool) : NAt w v0 nb b p K k op v L { x with bool := c } m n (W.setCell ⟨nb, 8, none⟩ (.bool c)) := h.set (fr_set nb 8 W _) ((nd_set h.row).2.2.2.1 c) h.mat h.nam h.am h.an
theorem NAt.group {w W : World} {v0 v : Value} {nb b p : Nat} {K : Tk} {k : Nat} {op : Int} {L : List Row} {x : Nd} {m n : Sl} (h : NAt w v0 nb b p K k op v L x m n W) (c : Int) (n2 : Sl) (ns : List ByteArray) (hn : SOwn strE 9 W w.heap.size (slV n2) ns.length ns) (an : ∀ j, (slV n2).ownBlock = some j → v.ownBlock ≠ some j) : NAt w v0 nb b p K k op v L { x with group := c, names := ns } m n2 ((W.setCell ⟨nb, 6, none⟩ (.int .i64 c)).setCell ⟨nb, 7, none⟩ (slV n2)) :=
  h.set ((fr_set nb 6 W _).trans (fr_set nb 7 _ _) (fun _ _ e => e)) ((nd_set h.row).2.2.2.2 c n2 ns) h.mat hn h.am an
/-- A node's box is made. -/
theorem NAt.made {w W : World} {b p : Nat} {K : Tk} {k k0 : Nat} {op op0 : Int} {v : Value} {L : List Row} (h0 : RdAt w b p K k0 op0 v L) (h : RdAt W b p K k op v L) (hf : Fr (Me p) w W) (x : Nd) (m n : Sl) (hm : SOwn matE 54 W w.heap.size (slV m) x.mat.length x.mat) (hn : SOwn strE 9 W w.heap.size (slV n) x.names.length x.names) : NAt w v W.heap.size b p K k op v L x m n (W.alloc (.cells (ndA x m n) 37)) := by
  have ga := World.grownBy_alloc W (.cells (ndA x m n) 37) none
  have hv : ∀ j, v.ownBlock = some j → j < w.heap.size := fun j hj => (SOwn.block h0.nds.own j hj).2
  refine ⟨h.grown ga, heap_alloc_new _ _, SOwn.kept hm ga (Classical.em _), SOwn.kept hn ga (Classical.em _), fun j hj e => ?_, fun j hj e => ?_, fun e => ?_, (Adv.me hf).trans (.gb ga), hf.size, ⟨h0.lt, h0.hb⟩⟩
  · have := (SOwn.block hm j hj).1; have := hv j e; omega
  · have := (SOwn.block hn j hj).1; have := hv j e; omega
  · have := hv _ e; have := hf.size; omega
theorem app_one {Q : List Row} {a : List Nd} {x : Nd} {m n : Sl} (h : Q.map (·.1) = a) : (Q ++ [(x, m, n)]).map (·.1) = a ++ [x] := by rw [List.map_append, h]; rfl
end Go.Proofs.YthbodkgcbfplgaaGreat

/- Package parse: selection. (Printed by mk_pu.py.) -/
namespace Go.Proofs.YthbodkgcbfplgaaGreat
open Go.RowKit
set_option linter.unusedVariables false
set_option linter.unusedSimpArgs false
set_option maxRecDepth 20000

theorem span_ne (ts : List Tok) : spanT ts ≠ .out := fine_ne (spanT_fine ts)
theorem width_yes {r : List Tok} (h : isB ⟨#[91]⟩ r = true) : widthR r = (spanT r.tail).bind fun w r => (need ⟨#[93]⟩ r).bind fun _ r => .ok (3, w) r := by unfold widthR; rw [if_pos h]
theorem width_no {r : List Tok} (h : isB ⟨#[91]⟩ r = false) : widthR r = .ok (2, 0) r := by unfold widthR; rw [if_neg (by rw [h]; simp)]
theorem back_yes {r : List Tok} (h : isB offS r = true) : backR r = spanT r.tail := by unfold backR; rw [if_pos h]
theorem back_no {r : List Tok} (h : isB offS r = false) : backR r = .ok 0 r := by unfold backR; rw [if_neg (by rw [h]; simp)]
set_option maxHeartbeats 8000000 in
theorem f_sel {w : World} {b p : Nat} {K : Tk} {k : Nat} {op : Int} {v : Value} {L : List Row} {ts : List Tok} (h : RdAt w b p K k op v L) (ha : Ahead K k ts) (hl : L.length ≤ 1000000) :
    Calls Tryz.prog 118 #[.pointer (some ⟨p, 0, none⟩)] w fun e w' => PQ b p K k op v L (selR 5000 ts) w e w' := by
  have H := hid h
  have HM := hid (f_matchers h ha)
  obtain ⟨R, eR⟩ : ∃ R, selR 5000 ts = R := ⟨_, rfl⟩
  rw [eR]
  have ER := hid eR
  unfold selR at ER
  have hpn : p < w.heap.size := h.lt
  clear h ha eR
  go_enter Tryz.func118, Tryz.ntmps118
  go_wp2_with fail
  refine HM.out.mono ?_
  intro e w1 h1
  cases hm : matchR 5000 ts with
  | out => rw [hm] at h1; exact h1.elim
  | bad q c =>
    rw [hm] at h1
    obtain ⟨rfl, f1⟩ := h1
    have ER1 : Hid (R = .bad q c) := by
      have := ER.out
      rw [hm, bind_bad] at this
      exact this.symm
    have HF := hid (Fr.mono (S' := Wr p v) f1 (fun j _ e => .inl e))
    clear f1 hm ER HM
    go_wp2
    refine ⟨rfl, ?_⟩
    rw [ER1.out]
    exact ⟨rfl, HF.out⟩
  | ok ms r =>
    rw [hm] at h1
    obtain ⟨sl, rfl, ho1, k1, h1, ha1, hk1, f1⟩ := h1
    have ER1 : Hid (((widthR r).bind fun kw r => (backR r).bind fun b r => .ok [⟨kw.1, 0, ⟨#[]⟩, ms, kw.2, b, 0, [], false, 0⟩] r) = R) := by
      have := ER.out
      rw [hm, bind_ok] at this
      exact this
    have HN1 := hid (NAt.made H.out h1 f1 ⟨2, 0, ⟨#[]⟩, ms, 0, 0, 0, [], false, 0⟩ sl (none, 0, 0) ho1 (SOwn.nil _ _ _))
    have HA1 := hid ha1
    obtain ⟨x1, x2, x3⟩ := sl
    obtain ⟨NB, eNB⟩ : ∃ NB, NB = w1.heap.size := ⟨_, rfl⟩
    have HK1 : Hid (k ≤ k1) := Nat.le_of_lt hk1
    have hpb : p ≠ w1.heap.size := by have := f1.size; omega
    unfold slV at *
    clear hm ER HM ho1 h1 ha1 hk1 f1
    go_wp2_with fail
    refine (f_takes HN1.out.rd HA1.out ⟨#[91]⟩).mono ?_
    rintro e w2 (⟨hb, rfl, h2, f2⟩ | ⟨hb, rfl, g2⟩)
    · have HN2 := hid (HN1.out.step h2 f2)
      have HA2 := hid (HA1.out.next (mean_next hb))
      have ER2 : Hid (((spanT r.tail).bind fun w r => (need ⟨#[93]⟩ r).bind fun _ r => (.ok (3, w) r : Rs (Int × Int))).bind (fun kw r => (backR r).bind fun b r => .ok [⟨kw.1, 0, ⟨#[]⟩, ms, kw.2, b, 0, [], false, 0⟩] r) = R) := by
        have := ER1.out
        rw [width_yes hb] at this
        exact this
      have y0 := (NAt.cells HN2.out).1
      have z0 := free_row HN2.out.row 0
      have HN3 := hid (HN2.out.kind 3)
      clear hb h2 f2 ER1
      go_wp2_with fail
      refine (f_span HN3.out.rd HA2.out).mono ?_
      intro e w4 h4
      cases hsp : spanT r.tail with
      | out => exact absurd hsp (span_ne _)
      | bad q c =>
        rw [hsp] at h4
        obtain ⟨rfl, f4⟩ := h4
        have ER3 : Hid (R = .bad q c) := by
          have := ER2.out
          rw [hsp, bind_bad, bind_bad] at this
          exact this.symm
        have HF := hid ((HN3.out.adv.fr).trans f4 (fun j _ e => .inl e))
        clear hsp f4 ER2
        go_wp2
        refine ⟨rfl, ?_⟩
        rw [ER3.out]
        exact ⟨rfl, HF.out⟩
      | ok wd r4 =>
        rw [hsp] at h4
        obtain ⟨rfl, k4, h4, ha4, hk4, f4⟩ := h4
        have ER3 : Hid (((need ⟨#[93]⟩ r4).bind fun _ r => (.ok (3, wd) r : Rs (Int × Int))).bind (fun kw r => (backR r).bind fun b r => .ok [⟨kw.1, 0, ⟨#[]⟩, ms, kw.2, b, 0, [], false, 0⟩] r) = R) := by
          have := ER2.out
          rw [hsp, bind_ok] at this
          exact this
        have HN4 := hid (HN3.out.step h4 f4)
        have HA4 := hid ha4
        have HK4 : Hid (k1 + 1 < k4) := hk4
        have y4 := (NAt.cells HN4.out).2.2.2.2.1
        have z4 := free_row HN4.out.row 4
        have HN5 := hid (HN4.out.width wd)
        clear hsp h4 f4 ER2 ha4 hk4 y0 z0 HN2 HN3
        go_wp2_with fail
        refine (f_needs HN5.out.rd HA4.out ⟨#[93]⟩).mono ?_
        rintro e w6 (⟨hb, rfl, h6, f6⟩ | ⟨hb, rfl, g6⟩)
        · have HN6 := hid (HN5.out.step h6 f6)
          have HA6 := hid (HA4.out.next (mean_next hb))
          have HK6 : Hid (k1 ≤ k4 + 1) := by have := HK4.out; show _ ≤ _; omega
          have hk6 : k1 ≤ k4 + 1 := HK6.out
          have ER4 : Hid (((backR r4.tail).bind fun b r => .ok [⟨3, 0, ⟨#[]⟩, ms, wd, b, 0, [], false, 0⟩] r) = R) := by
            have := ER3.out
            rw [need_yes hb, bind_ok, bind_ok] at this
            exact this
          clear hb h6 f6 ER3 y4 z4 HN4 HN5 HK4
          go_wp2_with fail
          refine (f_takes HN6.out.rd HA6.out offS).mono ?_
          rintro e w10 (⟨hb, rfl, h10, f10⟩ | ⟨hb, rfl, g10⟩)
          · have HN10 := hid (HN6.out.step h10 f10)
            have HA10 := hid (HA6.out.next (mean_next hb))
            have ER10 : Hid (((spanT r4.tail.tail).bind fun b r => .ok [⟨3, 0, ⟨#[]⟩, ms, wd, b, 0, [], false, 0⟩] r) = R) := by
              have := ER4.out
              rw [back_yes hb] at this
              exact this
            clear hb h10 f10 ER4
            go_wp2_with fail
            refine (f_span HN10.out.rd HA10.out).mono ?_
            intro e w11 h11
            cases hsp : spanT r4.tail.tail with
            | out => exact absurd hsp (span_ne _)
            | bad q c =>
              rw [hsp] at h11
              obtain ⟨rfl, f11⟩ := h11
              have ER11 : Hid (R = .bad q c) := by
                have := ER10.out
                rw [hsp, bind_bad] at this
                exact this.symm
              have HF := hid ((HN10.out.adv.fr).trans f11 (fun j _ e => .inl e))
              clear hsp f11 ER10
              go_wp2
              refine ⟨rfl, ?_⟩
              rw [ER11.out]
              exact ⟨rfl, HF.out⟩
            | ok bk r11 =>
              rw [hsp] at h11
              obtain ⟨rfl, k11, h11, ha11, hk11, f11⟩ := h11
              have ER11 : Hid (.ok [⟨3, 0, ⟨#[]⟩, ms, wd, bk, 0, [], false, 0⟩] r11 = R) := by
                have := ER10.out
                rw [hsp, bind_ok] at this
                exact this
              have HN11 := hid (HN10.out.step h11 f11)
              have HA11 := hid ha11
              have y5 := (NAt.cells HN11.out).2.2.2.2.2.1
              have z5 := free_row HN11.out.row 5
              have HN12 := hid (HN11.out.back bk)
              clear hsp h11 f11 ER10 ha11 HN10
              go_upto_region 7 with fail
              obtain ⟨n0, n1, n2, n3, n4, n5, n6, n7, n8, n9⟩ := NAt.cells HN12.out
              simp only [slV] at n3 n7
              have HTL := hid (f_tellN HN12.out hl)
              unfold ndA slV at HTL
              go_wp2_with fail
              refine HTL.out.mono ?_
              rintro e w20 ⟨rfl, v20, h20, a20⟩
              have H20 := hid h20
              have A20 := hid a20
              clear h20 a20 HTL n0 n1 n2 n3 n4 n5 n6 n7 n8 n9
              go_wp2
              go_end0
              rw [← ER11.out]
              exact ⟨rfl, v20, k11, [_], H20.out, rfl, HA11.out, by have := HK1.out; omega, A20.out⟩
          · have HN10 := hid (HN6.out.grown g10)
            have ER10 : Hid (.ok [⟨3, 0, ⟨#[]⟩, ms, wd, 0, 0, [], false, 0⟩] r4.tail = R) := by
              have := ER4.out
              rw [back_no hb, bind_ok] at this
              exact this
            clear hb g10 ER4
            go_upto_region 7 with fail
            obtain ⟨n0, n1, n2, n3, n4, n5, n6, n7, n8, n9⟩ := NAt.cells HN10.out
            simp only [slV] at n3 n7
            have HTL := hid (f_tellN HN10.out hl)
            unfold ndA slV at HTL
            go_wp2_with fail
            refine HTL.out.mono ?_
            rintro e w20 ⟨rfl, v20, h20, a20⟩
            have H20 := hid h20
            have A20 := hid a20
            clear h20 a20 HTL n0 n1 n2 n3 n4 n5 n6 n7 n8 n9
            go_wp2
            go_end0
            rw [← ER10.out]
            exact ⟨rfl, v20, (k4 + 1), [_], H20.out, rfl, HA6.out, by have := HK1.out; omega, A20.out⟩
        · have ER4 : Hid (R = .bad (hd r4).2.1 (failC r4)) := by
            have := ER3.out
            rw [need_no hb, bind_bad, bind_bad] at this
            exact this.symm
          have HF := hid ((HN5.out.adv.fr).trans (.of (S := Me p) g6) (fun j _ e => .inl e))
          clear hb g6 ER3
          go_wp2
          refine ⟨rfl, ?_⟩
          rw [ER4.out]
          exact ⟨rfl, HF.out⟩
    · have HN2 := hid (HN1.out.grown g2)
      have ER2 : Hid (((backR r).bind fun b r => .ok [⟨2, 0, ⟨#[]⟩, ms, 0, b, 0, [], false, 0⟩] r) = R) := by
        have := ER1.out
        rw [width_no hb, bind_ok] at this
        exact this
      clear hb g2 ER1
      go_wp2_with fail
      refine (f_takes HN2.out.rd HA1.out offS).mono ?_
      rintro e w10 (⟨hb, rfl, h10, f10⟩ | ⟨hb, rfl, g10⟩)
      · have HN10 := hid (HN2.out.step h10 f10)
        have HA10 := hid (HA1.out.next (mean_next hb))
        have ER10 : Hid (((spanT r.tail).bind fun b r => .ok [⟨2, 0, ⟨#[]⟩, ms, 0, b, 0, [], false, 0⟩] r) = R) := by
          have := ER2.out
          rw [back_yes hb] at this
          exact this
        clear hb h10 f10 ER2
        go_wp2_with fail
        refine (f_span HN10.out.rd HA10.out).mono ?_
        intro e w11 h11
        cases hsp : spanT r.tail with
        | out => exact absurd hsp (span_ne _)
        | bad q c =>
          rw [hsp] at h11
          obtain ⟨rfl, f11⟩ := h11
          have ER11 : Hid (R = .bad q c) := by
            have := ER10.out
            rw [hsp, bind_bad] at this
            exact this.symm
          have HF := hid ((HN10.out.adv.fr).trans f11 (fun j _ e => .inl e))
          clear hsp f11 ER10
          go_wp2
          refine ⟨rfl, ?_⟩
          rw [ER11.out]
          exact ⟨rfl, HF.out⟩
        | ok bk r11 =>
          rw [hsp] at h11
          obtain ⟨rfl, k11, h11, ha11, hk11, f11⟩ := h11
          have ER11 : Hid (.ok [⟨2, 0, ⟨#[]⟩, ms, 0, bk, 0, [], false, 0⟩] r11 = R) := by
            have := ER10.out
            rw [hsp, bind_ok] at this
            exact this
          have HN11 := hid (HN10.out.step h11 f11)
          have HA11 := hid ha11
          have y5 := (NAt.cells HN11.out).2.2.2.2.2.1
          have z5 := free_row HN11.out.row 5
          have HN12 := hid (HN11.out.back bk)
          clear hsp h11 f11 ER10 ha11 HN10
          go_upto_region 7 with fail
          obtain ⟨n0, n1, n2, n3, n4, n5, n6, n7, n8, n9⟩ := NAt.cells HN12.out
          simp only [slV] at n3 n7
          have HTL := hid (f_tellN HN12.out hl)
          unfold ndA slV at HTL
          go_wp2_with fail
          refine HTL.out.mono ?_
          rintro e w20 ⟨rfl, v20, h20, a20⟩
          have H20 := hid h20
          have A20 := hid a20
          clear h20 a20 HTL n0 n1 n2 n3 n4 n5 n6 n7 n8 n9
          go_wp2
          go_end0
          rw [← ER11.out]
          exact ⟨rfl, v20, k11, [_], H20.out, rfl, HA11.out, by have := HK1.out; omega, A20.out⟩
      · have HN10 := hid (HN2.out.grown g10)
        have ER10 : Hid (.ok [⟨2, 0, ⟨#[]⟩, ms, 0, 0, 0, [], false, 0⟩] r = R) := by
          have := ER2.out
          rw [back_no hb, bind_ok] at this
          exact this
        clear hb g10 ER2
        go_upto_region 7 with fail
        obtain ⟨n0, n1, n2, n3, n4, n5, n6, n7, n8, n9⟩ := NAt.cells HN10.out
        simp only [slV] at n3 n7
        have HTL := hid (f_tellN HN10.out hl)
        unfold ndA slV at HTL
        go_wp2_with fail
        refine HTL.out.mono ?_
        rintro e w20 ⟨rfl, v20, h20, a20⟩
        have H20 := hid h20
        have A20 := hid a20
        clear h20 a20 HTL n0 n1 n2 n3 n4 n5 n6 n7 n8 n9
        go_wp2
        go_end0
        rw [← ER10.out]
        exact ⟨rfl, v20, k1, [_], H20.out, rfl, HA1.out, by have := HK1.out; omega, A20.out⟩
end Go.Proofs.YthbodkgcbfplgaaGreat

/- Package parse: nested, brackets. -/
namespace Go.Proofs.YthbodkgcbfplgaaGreat
open Go.RowKit
set_option linter.unusedVariables false
set_option linter.unusedSimpArgs false
set_option maxRecDepth 20000

/-- A method of the reader that reads as X says. -/
def LvOk (b p : Nat) (K : Tk) (fn : Nat) (X : Nat → List Tok → Rs (List Nd)) : Prop :=
  ∀ (nest k : Nat) (v : Value) (L : List Row) (ts : List Tok) (w : World), RdAt w b p K k (nest : Int) v L → Ahead K k ts → L.length ≤ k → nest ≤ 64 → X nest ts ≠ .out → Calls Tryz.prog fn #[.pointer (some ⟨p, 0, none⟩)] w fun e w' => PQ b p K k (nest : Int) v L (X nest ts) w e w'
theorem fr_open (p : Nat) (w : World) (v : Value) : Fr (Me p) w (w.setCell ⟨p, 2, none⟩ v) := fr_set p 2 w v
theorem nest_no {sign : ByteArray} {nest : Nat} {X : Nat → List Tok → Rs (List Nd)} {ts : List Tok} (h : isB sign ts = false) : nestR sign nest X ts = .bad (hd ts).2.1 (failC ts) := by unfold nestR must; rw [if_neg (by rw [h]; simp)]; rfl
theorem nest_deep {sign : ByteArray} {nest : Nat} {X : Nat → List Tok → Rs (List Nd)} {ts : List Tok} (h : isB sign ts = true) (hn : nest = 64) : nestR sign nest X ts = .bad (hd ts).2.1 182 := by unfold nestR must; rw [if_pos h, bind_ok, if_pos hn]
theorem nest_yes {sign : ByteArray} {nest : Nat} {X : Nat → List Tok → Rs (List Nd)} {ts : List Tok} (h : isB sign ts = true) (hn : nest ≠ 64) : nestR sign nest X ts = X (nest + 1) ts.tail := by unfold nestR must; rw [if_pos h, bind_ok, if_neg hn]
set_option maxHeartbeats 2000000 in
theorem f_nested {b p : Nat} {K : Tk} (fn : Nat) (X : Nat → List Tok → Rs (List Nd)) (hE : ∀ w, (callFunc fn #[.pointer (some ⟨p, 0, none⟩)]).run Tryz.prog w = .ok (.enter fn #[.pointer (some ⟨p, 0, none⟩)]) w) (hX : LvOk b p K fn X) (sign : ByteArray) {nest k : Nat} {v : Value} {L : List Row} {ts : List Tok} {w : World} (h : RdAt w b p K k (nest : Int) v L) (ha : Ahead K k ts) (hL : L.length ≤ k) (hn : nest ≤ 64) (hne : nestR sign nest X ts ≠ .out) :
    Calls Tryz.prog 109 #[.pointer (some ⟨p, 0, none⟩), .string sign, .func (.func fn) #[.pointer (some ⟨p, 0, none⟩)] #[]] w fun e w' => PQ b p K k (nest : Int) v L (nestR sign nest X ts) w e w' := by
  have H := hid h
  have HA := hid ha
  have HX := hid hX
  have HNE := hid hne
  have HL := hid hL
  have hk := ha.lt
  have hs := ha.small
  clear h ha hX hne hL
  cases hb : isB sign ts with
  | false =>
    rw [nest_no hb]
    have HB := hid hb
    clear hb HNE
    go_enter Tryz.func109, Tryz.ntmps109
    go_wp2_with fail
    refine (f_is H.out HA.out sign).mono ?_
    rintro e w1 ⟨rfl, g1⟩
    have H1 := hid (H.out.grown g1)
    have G1 := hid g1
    rw [HB.out]
    clear g1
    go_wp2_with fail
    refine (f_must H1.out HA.out false).mono ?_
    rintro e w2 ⟨⟨h, _⟩ | ⟨_, rfl⟩, g2⟩
    · cases h
    · have G2 : Hid (w.grownBy w2 none) := G1.out.trans g2
      clear g2
      go_wp2
      exact ⟨rfl, rfl, .of G2.out⟩
  | true =>
    have HB := hid hb
    by_cases h64 : nest = 64
    · rw [nest_deep hb h64]
      have q0 : ((nest : Int) == 64) = true := by subst h64; rfl
      clear hb HNE h64
      go_enter Tryz.func109, Tryz.ntmps109
      go_wp2_with fail
      refine (f_is H.out HA.out sign).mono ?_
      rintro e w1 ⟨rfl, g1⟩
      have H1 := hid (H.out.grown g1)
      have G1 := hid g1
      rw [HB.out]
      clear g1
      go_wp2_with fail
      refine (f_must H1.out HA.out true).mono ?_
      rintro e w2 ⟨⟨_, rfl⟩ | ⟨h, _⟩, g2⟩
      · have G2 : Hid (w.grownBy w2 none) := G1.out.trans g2
        have H2 := hid (H1.out.grown g2)
        have c2 := H2.out.cells.2.2.1
        clear g2
        go_wp2_with fail
        refine (f_throw H2.out HA.out 182).mono ?_
        rintro e w3 ⟨rfl, g3⟩
        have G3 : Hid (w.grownBy w3 none) := G2.out.trans g3
        clear g3
        go_wp2
        exact ⟨rfl, rfl, .of G3.out⟩
      · cases h
    · rw [nest_yes hb h64] at HNE ⊢
      have q0 : ((nest : Int) == 64) = false := by simp; omega
      have HA2 := hid (HA.out.next (mean_next hb))
      have hn6 : nest < 64 := by omega
      clear hb h64
      go_enter Tryz.func109, Tryz.ntmps109
      go_wp2_with fail
      refine (f_is H.out HA.out sign).mono ?_
      rintro e w1 ⟨rfl, g1⟩
      have H1 := hid (H.out.grown g1)
      have G1 := hid g1
      rw [HB.out]
      clear g1
      go_wp2_with fail
      refine (f_must H1.out HA.out true).mono ?_
      rintro e w2 ⟨⟨_, rfl⟩ | ⟨h, _⟩, g2⟩
      · have G2 : Hid (w.grownBy w2 none) := G1.out.trans g2
        have H2 := hid (H1.out.grown g2)
        obtain ⟨_, c1, c2, _⟩ := H2.out.cells
        have u1 := H2.out.free 1
        have u2 := H2.out.free 2
        have hst := H2.out.step (World.grownBy.refl _ _)
        have H3 := hid hst.1
        have F3 := hid hst.2
        obtain ⟨_, d1, d2, _⟩ := H3.out.cells
        have t2 := H3.out.free 2
        have H4 := hid (H3.out.open ((nest + 1 : Nat) : Int))
        rw [show ((nest + 1 : Nat) : Int) = (nest : Int) + 1 by omega] at H4
        have F4 : Hid (Fr (Me p) w ((w2.setCell ⟨p, 1, none⟩ (.int .i64 ((k : Int) + 1))).setCell ⟨p, 2, none⟩ (.int .i64 ((nest : Int) + 1)))) := ((Fr.of (S := Me p) G2.out).trans F3.out (fun _ _ e => e)).trans (fr_open p _ _) (fun _ _ e => e)
        have HP : Hid (Calls Tryz.prog fn #[.pointer (some ⟨p, 0, none⟩)] ((w2.setCell ⟨p, 1, none⟩ (.int .i64 ((k : Int) + 1))).setCell ⟨p, 2, none⟩ (.int .i64 ((nest : Int) + 1))) fun e w' => PQ b p K (k + 1) (((nest + 1 : Nat) : Int)) v L (X (nest + 1) ts.tail) ((w2.setCell ⟨p, 1, none⟩ (.int .i64 ((k : Int) + 1))).setCell ⟨p, 2, none⟩ (.int .i64 ((nest : Int) + 1))) e w') :=
          HX.out (nest + 1) (k + 1) v L ts.tail _ (by rw [show ((nest + 1 : Nat) : Int) = (nest : Int) + 1 by omega]; exact H4.out) HA2.out (by have := HL.out; omega) (by omega) HNE.out
        generalize hW : (w2.setCell ⟨p, 1, none⟩ (.int .i64 ((k : Int) + 1))).setCell ⟨p, 2, none⟩ (.int .i64 ((nest : Int) + 1)) = W4 at H4 F4 HP
        have HW4 := hid hW
        clear g2 hst hW HX
        go_wp2_with fail
        rw [HW4.out]
        refine HP.out.mono ?_
        intro e w5 h5
        cases hx : X (nest + 1) ts.tail with
        | out => exact absurd hx HNE.out
        | bad q c =>
          rw [hx] at h5
          obtain ⟨rfl, f5⟩ := h5
          have HXE := hid hx
          have F5 := hid ((F4.out.mono (S' := Wr p v) (fun j _ e => .inl e)).trans f5 (fun _ _ e => e))
          clear hx f5 HP
          go_wp2
          refine ⟨rfl, ?_⟩
          rw [HXE.out]
          exact ⟨rfl, F5.out⟩
        | ok a r =>
          rw [hx] at h5
          obtain ⟨rfl, v5, k5, Q5, h5, hq5, ha5, hk5, a5⟩ := h5
          have HXE := hid hx
          have H5 := hid h5
          have HQ5 := hid hq5
          have HA5 := hid ha5
          have A5 := hid a5
          have x2 : w5.cell? ⟨p, 2, none⟩ = some (.int .i64 ((nest : Int) + 1)) := by
            have := H5.out.cells.2.2.1
            rw [show ((nest + 1 : Nat) : Int) = (nest : Int) + 1 by omega] at this
            exact this
          have z2 := H5.out.free 2
          have H6 := hid (H5.out.open (nest : Int))
          have F6 := hid (fr_open p w5 (.int .i64 (nest : Int)))
          clear hx h5 hq5 ha5 a5 HP c1 c2 u1 u2 d1 d2 t2
          go_wp2
          go_end0
          rw [HXE.out]
          exact ⟨rfl, v5, k5, Q5, H6.out, HQ5.out, HA5.out, by omega, (Adv.me F4.out).trans (A5.out.trans (.me F6.out))⟩
      · cases h
theorem brack_bad {nest : Nat} {X : Nat → List Tok → Rs (List Nd)} {ts : List Tok} {q c : Int} (h : nestR ⟨#[40]⟩ nest X ts = .bad q c) : brackR nest X ts = .bad q c := by unfold brackR; rw [h, bind_bad]
theorem brack_ok {nest : Nat} {X : Nat → List Tok → Rs (List Nd)} {ts r : List Tok} {a : List Nd} (h : nestR ⟨#[40]⟩ nest X ts = .ok a r) : brackR nest X ts = (need ⟨#[41]⟩ r).bind fun _ r => .ok a r := by unfold brackR; rw [h, bind_ok]
theorem ent36 (caps : Array Value) (w : World) : (callFunc 43 caps).run Tryz.prog w = .ok (.enter 43 caps) w := by kernel_rfl
set_option maxHeartbeats 1000000 in
theorem f_brackets {b p : Nat} {K : Tk} (X : Nat → List Tok → Rs (List Nd)) (hX : LvOk b p K 43 X) {nest k : Nat} {v : Value} {L : List Row} {ts : List Tok} {w : World} (h : RdAt w b p K k (nest : Int) v L) (ha : Ahead K k ts) (hL : L.length ≤ k) (hn : nest ≤ 64) (hne : brackR nest X ts ≠ .out) :
    Calls Tryz.prog 113 #[.pointer (some ⟨p, 0, none⟩)] w fun e w' => PQ b p K k (nest : Int) v L (brackR nest X ts) w e w' := by
  have hne2 : nestR ⟨#[40]⟩ nest X ts ≠ .out := fun e => hne (by unfold brackR; rw [e]; rfl)
  have HN := hid (f_nested 43 X (ent36 _) hX ⟨#[40]⟩ h ha hL hn hne2)
  have HNE := hid hne2
  clear h ha hL hne hne2
  go_enter Tryz.func113, Tryz.ntmps113
  go_wp2_with fail
  refine HN.out.mono ?_
  intro e w1 h1
  cases hx : nestR ⟨#[40]⟩ nest X ts with
  | out => exact absurd hx HNE.out
  | bad q c =>
    rw [hx] at h1
    obtain ⟨rfl, f1⟩ := h1
    have HB := hid (brack_bad hx)
    have F1 := hid f1
    clear hx f1 HN
    go_wp2
    refine ⟨rfl, ?_⟩
    rw [HB.out]
    exact ⟨rfl, F1.out⟩
  | ok a r =>
    rw [hx] at h1
    obtain ⟨rfl, v1, k1, Q1, h1, hq1, ha1, hk1, a1⟩ := h1
    have HB := hid (brack_ok hx)
    have H1 := hid h1
    have HQ1 := hid hq1
    have HA1 := hid ha1
    have A1 := hid a1
    clear hx h1 hq1 ha1 a1 HN
    go_wp2_with fail
    refine (f_needs H1.out HA1.out ⟨#[41]⟩).mono ?_
    rintro e w2 (⟨hb, rfl, h2, f2⟩ | ⟨hb, rfl, g2⟩)
    · have HB2 : Hid (brackR nest X ts = .ok a r.tail) := by
        show _ = _
        rw [HB.out, need_yes hb, bind_ok]
      have H2 := hid h2
      have F2 := hid f2
      have HA2 := hid (HA1.out.next (mean_next hb))
      clear hb h2 f2
      go_wp2
      go_end0
      rw [HB2.out]
      exact ⟨rfl, v1, k1 + 1, Q1, H2.out, HQ1.out, HA2.out, by omega, A1.out.trans (.me F2.out)⟩
    · have HB2 : Hid (brackR nest X ts = .bad (hd r).2.1 (failC r)) := by
        show _ = _
        rw [HB.out, need_no hb, bind_bad]
      have F2 : Hid (Fr (Wr p v) w w2) := (A1.out.trans (.gb (v := v1) g2)).fr
      clear hb g2
      go_wp2
      refine ⟨rfl, ?_⟩
      rw [HB2.out]
      exact ⟨rfl, F2.out⟩
end Go.Proofs.YthbodkgcbfplgaaGreat

/- Package parse: call, aggregation. -/
namespace Go.Proofs.YthbodkgcbfplgaaGreat
open Go.RowKit
set_option linter.unusedVariables false
set_option linter.unusedSimpArgs false
set_option maxRecDepth 20000

abbrev nilS : Sl := (none, 0, 0)
/-- Behind brackets, a node in a box is told. -/
theorem tell_len {K : Tk} {k k' : Nat} {L Q : List Row} {a : List Nd} {ts r : List Tok} (hL : L.length ≤ k) (ha : Ahead K k' r) (hq : Q.map (·.1) = a) (h : a.length + r.length ≤ ts.length) (ha0 : Ahead K k ts) : (L ++ Q).length ≤ k' := by
  have h1 := ha.len
  have h2 := ha0.len
  have h3 : Q.length = a.length := by rw [← hq, List.length_map]
  rw [List.length_append]
  omega
theorem few_ok {x : Rs (List Nd)} {n : Nat} {a : List Nd} {r : List Tok} (h : x.few n) (e : x = .ok a r) : a.length + r.length ≤ n := by rw [e] at h; exact h
theorem bind_out {α β : Type} {x : Rs α} {f : α → List Tok → Rs β} (h : x.bind f ≠ .out) : x ≠ .out := fun e => h (by rw [e]; rfl)
set_option maxHeartbeats 2000000 in
theorem f_call {b p : Nat} {K : Tk} (X : Nat → List Tok → Rs (List Nd)) (hX : LvOk b p K 43 X) (hF : ∀ n us, us.length < 5000 → (X n us).few us.length) {nest k : Nat} {v : Value} {L : List Row} {ts : List Tok} {w : World} (h : RdAt w b p K k (nest : Int) v L) (ha : Ahead K k ts) (hL : L.length ≤ k) (hn : nest ≤ 64) (h0 : numIn funcsR (hd ts) ≠ 0) (hne : brackR nest X ts.tail ≠ .out) :
    Calls Tryz.prog 115 #[.pointer (some ⟨p, 0, none⟩)] w fun e w' => PQ b p K k (nest : Int) v L ((brackR nest X ts.tail).bind fun a r => .ok (a ++ [callN (numIn funcsR (hd ts))]) r) w e w' := by
  have H := hid h
  have HA := hid ha
  have HX := hid hX
  have HL := hid hL
  have HNE := hid hne
  have HA2 := hid (ha.next (numIn_next h0))
  have hk := ha.lt
  have hs := ha.small
  have HFW := hid (brackR_few (nest := nest) (ts := ts.tail) hF (by have := take_ahead HA2.out; omega))
  obtain ⟨N, eN⟩ : ∃ N, numIn funcsR (hd ts) = N := ⟨_, rfl⟩
  have EN := hid eN
  rw [eN]
  clear h ha hX hL hne h0 hF eN
  go_enter Tryz.func115, Tryz.ntmps115
  go_wp2_with fail
  refine (f_funcs _).mono ?_
  rintro e w1 ⟨a1, c1, rfl, hr1, g1⟩
  have H1 := hid (H.out.grown g1)
  have HR1 := hid hr1
  have G1 := hid g1
  clear hr1 g1
  go_wp2_with fail
  refine (f_here H1.out HA.out).mono ?_
  rintro e w2 ⟨rfl, g2⟩
  have H2 := hid (H1.out.grown g2)
  have HR2 := hid (HR1.out.grown g2 (by simp))
  have G2 : Hid (w.grownBy w2 none) := G1.out.trans g2
  clear g2 G1 H1 HR1
  go_wp2_with fail
  refine (f_numIn a1 c1 funcsR (hd ts) w2 HR2.out (by decide)).mono ?_
  rintro e w3 ⟨rfl, g3⟩
  rw [EN.out]
  have G3 : Hid (w.grownBy w3 none) := G2.out.trans g3
  have HN1 := hid (NAt.made H.out (H2.out.grown g3) (.of G3.out) (callN N) nilS nilS (SOwn.nil _ _ _) (SOwn.nil _ _ _))
  have c1' := HN1.out.rd.cells.2.1
  have u1 := HN1.out.rd.free 1
  have hst := HN1.out.rd.step (World.grownBy.refl _ _)
  have HN2 := hid (HN1.out.step hst.1 hst.2)
  have HB := hid (f_brackets X HX.out HN2.out.rd HA2.out (by have := HL.out; omega) hn HNE.out)
  obtain ⟨NB, eNB⟩ : ∃ NB, NB = w3.heap.size := ⟨_, rfl⟩
  have hpb : p ≠ w3.heap.size := by have := H.out.lt; have := G3.out.size; omega
  clear g3 hst G2 H2 HR2
  unfold callN ndA slV at c1' u1 HN2 HB
  go_wp2_with fail
  refine HB.out.mono ?_
  intro e w5 h5
  cases hx : brackR nest X ts.tail with
  | out => exact absurd hx HNE.out
  | bad q c =>
    rw [hx] at h5
    obtain ⟨rfl, f5⟩ := h5
    have HXE := hid hx
    have F5 := hid (HN2.out.adv.fr.trans f5 (fun j hj e => by
      rcases e with e | e
      · exact .inl e
      · rcases HN2.out.adv.new j e with e2 | e2
        · exact .inr e2
        · omega))
    clear hx f5 HB
    go_wp2
    refine ⟨rfl, ?_⟩
    rw [HXE.out, bind_bad]
    exact ⟨rfl, F5.out⟩
  | ok a r =>
    rw [hx] at h5
    obtain ⟨rfl, v5, k5, Q5, h5, hq5, ha5, hk5, a5⟩ := h5
    have HXE := hid hx
    have HN5 := hid (NAt.go (x := callN N) (m := nilS) (n := nilS) HN2.out h5 a5)
    have HQ5 := hid hq5
    have HA5 := hid ha5
    have hlen : (L ++ Q5).length ≤ k5 := tell_len (ts := ts.tail) (k := k + 1) (by have := HL.out; omega) ha5 hq5 (few_mono HFW.out (by omega) |> fun hf => few_ok hf hx) HA2.out
    have hbig : (L ++ Q5).length ≤ 1000000 := by have := HA5.out.len; have := HA5.out.small; omega
    have HT := hid (f_tellN HN5.out hbig)
    obtain ⟨n0, n1, n2, n3, n4, n5, n6, n7, n8, n9⟩ := HN5.out.cells
    unfold callN ndA slV at *
    clear hx h5 hq5 ha5 a5 HB c1' u1 hlen hbig
    go_wp2_with fail
    refine HT.out.mono ?_
    rintro e w6 ⟨rfl, v6, h6, a6⟩
    have H6 := hid h6
    have A6 := hid a6
    clear h6 a6 HT n0 n1 n2 n3 n4 n5 n6 n7 n8 n9
    go_wp2
    go_end0
    rw [HXE.out, bind_ok]
    refine ⟨rfl, v6, k5, Q5 ++ [_], by rw [← List.append_assoc]; exact H6.out, app_one HQ5.out, HA5.out, by omega, A6.out⟩
end Go.Proofs.YthbodkgcbfplgaaGreat

/- Package parse: aggregation. -/
namespace Go.Proofs.YthbodkgcbfplgaaGreat
open Go.RowKit
set_option linter.unusedVariables false
set_option linter.unusedSimpArgs false
set_option maxRecDepth 20000

theorem num_two (w : World) (x y : Int) : SRd numE (w.alloc (.cells #[.int .i64 x, .int .i64 y] 3)) (some ⟨w.heap.size, 0, none⟩) [x, y] := num_lit w [x, y]
set_option maxHeartbeats 4000000 in
theorem f_agg {b p : Nat} {K : Tk} (X : Nat → List Tok → Rs (List Nd)) (hX : LvOk b p K 43 X) (hF : ∀ n us, us.length < 5000 → (X n us).few us.length) {nest k : Nat} {v : Value} {L : List Row} {ts : List Tok} {w : World} (h : RdAt w b p K k (nest : Int) v L) (ha : Ahead K k ts) (hL : L.length ≤ k) (hn : nest ≤ 64) (h0 : numIn aggsR (hd ts) ≠ 0) (hne : ((groupR 5000 [1, 2] ts.tail).bind fun g r => (brackR nest X r).bind fun a r => .ok (a ++ [aggN (numIn aggsR (hd ts)) g.1 g.2]) r) ≠ .out) :
    Calls Tryz.prog 117 #[.pointer (some ⟨p, 0, none⟩)] w fun e w' => PQ b p K k (nest : Int) v L ((groupR 5000 [1, 2] ts.tail).bind fun g r => (brackR nest X r).bind fun a r => .ok (a ++ [aggN (numIn aggsR (hd ts)) g.1 g.2]) r) w e w' := by
  have H := hid h
  have HA := hid ha
  have HX := hid hX
  have HL := hid hL
  have HFF := hid hF
  have HA2 := hid (ha.next (numIn_next h0))
  have hk := ha.lt
  have hs := ha.small
  obtain ⟨N, eN⟩ : ∃ N, numIn aggsR (hd ts) = N := ⟨_, rfl⟩
  have EN := hid eN
  rw [eN] at hne ⊢
  obtain ⟨R, eR⟩ : ∃ R, ((groupR 5000 [1, 2] ts.tail).bind fun g r => (brackR nest X r).bind fun a r => .ok (a ++ [aggN N g.1 g.2]) r) = R := ⟨_, rfl⟩
  rw [eR] at hne ⊢
  have ER := hid eR
  have HNE := hid hne
  clear h ha hX hL hne h0 hF eN eR
  go_enter Tryz.func117, Tryz.ntmps117
  go_wp2_with fail
  refine (f_aggs _).mono ?_
  rintro e w1 ⟨a1, c1, rfl, hr1, g1⟩
  have H1 := hid (H.out.grown g1)
  have HR1 := hid hr1
  have G1 := hid g1
  clear hr1 g1
  go_wp2_with fail
  refine (f_here H1.out HA.out).mono ?_
  rintro e w2 ⟨rfl, g2⟩
  have H2 := hid (H1.out.grown g2)
  have HR2 := hid (HR1.out.grown g2 (by simp))
  have G2 : Hid (w.grownBy w2 none) := G1.out.trans g2
  clear g2 G1 H1 HR1
  go_wp2_with fail
  refine (f_numIn a1 c1 aggsR (hd ts) w2 HR2.out (by decide)).mono ?_
  rintro e w3 ⟨rfl, g3⟩
  rw [EN.out]
  have G3 : Hid (w.grownBy w3 none) := G2.out.trans g3
  have HN1 := hid (NAt.made H.out (H2.out.grown g3) (.of G3.out) (aggN N 0 []) nilS nilS (SOwn.nil _ _ _) (SOwn.nil _ _ _))
  have c1' := HN1.out.rd.cells.2.1
  have u1 := HN1.out.rd.free 1
  have hst := HN1.out.rd.step (World.grownBy.refl _ _)
  have HN2 := hid (HN1.out.step hst.1 hst.2)
  obtain ⟨NB, eNB⟩ : ∃ NB, NB = w3.heap.size := ⟨_, rfl⟩
  have hpb : p ≠ w3.heap.size := by have := H.out.lt; have := G3.out.size; omega
  have hsz : w.heap.size ≤ w3.heap.size := G3.out.size
  clear g3 hst G2 H2 HR2
  unfold aggN ndA slV at c1' u1 HN2
  go_upto_region 2 with fail
  have HN3 := hid (HN2.out.grown (World.grownBy_alloc _ (.cells #[.int .i64 1, .int .i64 2] 3) none))
  have HGR := hid (f_group HN3.out.rd HA2.out _ 2 [1, 2] (num_two _ 1 2) (by decide) (by decide))
  generalize hW : ((w3.alloc (.cells #[.int .i64 5, .int .i64 N, .string ⟨#[]⟩, .slice none 0 0, .int .i64 0, .int .i64 0, .int .i64 0, .slice none 0 0, .bool false, .int .i64 1] 37)).setCell ⟨p, 1, none⟩ (.int .i64 ((k : Int) + 1))) = W2 at *
  clear hW
  go_wp2_with fail
  refine HGR.out.mono ?_
  intro e w5 h5
  cases hg : groupR 5000 [1, 2] ts.tail with
  | out => rw [hg] at h5; exact h5.elim
  | bad q c =>
    rw [hg] at h5
    obtain ⟨rfl, f5⟩ := h5
    have ER2 : Hid (R = .bad q c) := by
      have := ER.out
      rw [hg, bind_bad] at this
      exact this.symm
    have F5 := hid (HN3.out.adv.fr.trans f5 (fun j hj e => .inl e))
    clear hg f5 HGR
    go_wp2
    refine ⟨rfl, ?_⟩
    rw [ER2.out]
    exact ⟨rfl, F5.out⟩
  | ok g r =>
    rw [hg] at h5
    obtain ⟨sl, rfl, ho5, k5, h5, ha5, hk5, f5⟩ := h5
    obtain ⟨g1, ns⟩ := g
    have ER2 : Hid (((brackR nest X r).bind fun a r => .ok (a ++ [aggN N g1 ns]) r) = R) := by
      have := ER.out
      rw [hg, bind_ok] at this
      exact this
    have HN5 := hid (HN3.out.step h5 f5)
    have HA5 := hid ha5
    have hlt5 := ha5.lt
    have hlen5 := (groupR_fine (f := 5000) (may := [1, 2]) (ts := ts.tail) (by have := take_ahead HA2.out; omega))
    have HB2 := hid (HN5.out.group g1 sl ns (SOwn.base ho5 (by have := HN3.out.adv.fr.size; omega)) (fun j hj e => by
      have h1 := (SOwn.block ho5 j hj).1
      have h2 := (SOwn.block HN3.out.rd.nds.own j e).2
      omega))
    obtain ⟨n0, n1, n2, n3, n4, n5, n6, n7, n8, n9⟩ := HN5.out.cells
    have z6 := free_row HN5.out.row 6
    have z7 := free_row HN5.out.row 7
    have hne3 : brackR nest X r ≠ .out := bind_out (by rw [ER2.out]; exact HNE.out)
    have HNE3 := hid hne3
    have HB := hid (f_brackets X HX.out HB2.out.rd HA5.out (by have := HL.out; omega) hn hne3)
    have HFW := hid (brackR_few (nest := nest) (ts := r) HFF.out (by have := take_ahead HA5.out; omega))
    obtain ⟨x1, x2, x3⟩ := sl
    simp only [slV] at HB2 HB ⊢
    clear hg h5 ho5 ha5 f5 HGR n0 n1 n2 n3 n4 n5 n8 n9 hne3 hlen5
    go_wp2_with fail
    refine HB.out.mono ?_
    intro e w6 h6
    cases hx : brackR nest X r with
    | out => exact absurd hx HNE3.out
    | bad q c =>
      rw [hx] at h6
      obtain ⟨rfl, f6⟩ := h6
      have ER3 : Hid (R = .bad q c) := by
        have := ER2.out
        rw [hx, bind_bad] at this
        exact this.symm
      have F6 := hid (HB2.out.adv.fr.trans f6 (fun j hj e => by
        rcases e with e | e
        · exact .inl e
        · rcases HB2.out.adv.new j e with e2 | e2
          · exact .inr e2
          · omega))
      clear hx f6 HB
      go_wp2
      refine ⟨rfl, ?_⟩
      rw [ER3.out]
      exact ⟨rfl, F6.out⟩
    | ok a r7 =>
      rw [hx] at h6
      obtain ⟨rfl, v7, k7, Q7, h7, hq7, ha7, hk7, a7⟩ := h6
      have ER3 : Hid (.ok (a ++ [aggN N g1 ns]) r7 = R) := by
        have := ER2.out
        rw [hx, bind_ok] at this
        exact this
      have HN7 := hid (HB2.out.go h7 a7)
      have HQ7 := hid hq7
      have HA7 := hid ha7
      have hlen : (L ++ Q7).length ≤ k7 := tell_len (ts := r) (k := k5) (by have := HL.out; omega) ha7 hq7 (few_mono HFW.out (by omega) |> fun hf => few_ok hf hx) HA5.out
      have hbig : (L ++ Q7).length ≤ 1000000 := by have := HA7.out.len; have := HA7.out.small; omega
      have HT := hid (f_tellN HN7.out hbig)
      obtain ⟨n0, n1, n2, n3, n4, n5, n6', n7', n8, n9⟩ := HN7.out.cells
      simp only [aggN, ndA, slV] at HT n0 n1 n2 n3 n4 n5 n6' n7' n8 n9
      clear hx h7 hq7 ha7 a7 HB hlen hbig
      go_wp2_with fail
      refine HT.out.mono ?_
      rintro e w8 ⟨rfl, v8, h8, a8⟩
      have H8 := hid h8
      have A8 := hid a8
      clear h8 a8 HT n0 n1 n2 n3 n4 n5 n6' n7' n8 n9
      go_wp2
      go_end0
      rw [← ER3.out]
      exact ⟨rfl, v8, k7, Q7 ++ [_], by rw [← List.append_assoc]; exact H8.out, app_one HQ7.out, HA7.out, by omega, A8.out⟩
end Go.Proofs.YthbodkgcbfplgaaGreat

