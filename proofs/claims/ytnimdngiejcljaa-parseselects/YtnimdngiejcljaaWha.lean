/- ParseBins: what its walk asks of Parse and of append. -/
import Derived.Test.YtnimdngiejcljaaWg
import Derived.Test.YtnimdngiejcljaaVf
namespace Go.Proofs.Ytnimdngiejcljaa
open Go.RowKit
set_option linter.unusedVariables false
set_option linter.unusedSimpArgs false
set_option maxRecDepth 20000

/-- What Parse answers where it answers nodes: a list that may be copied. -/
def InOut (ns : List Nd) (n : Nat) (w : World) (e : Ending) (w' : World) : Prop := ∃ a c Q, e = .returned (.tuple #[.slice a n c, .int .i64 0, .int .i64 0]) ∧ Hid (NsIn w' a c Q) ∧ Hid (Q.map (·.1) = ns) ∧ w.grownBy w' none
theorem parse_in {s : ByteArray} {ns : List Nd} {n : Nat} (h : parseR s = .ok ns) (hn : ns.length = n) (w : World) : Calls Try.prog 8 #[.string s] w fun e w' => InOut ns n w e w' := (f_parse s w).mono fun e w' h2 => by
  have hs := parse_small h
  have hz := (parse_size h).2
  rw [h] at h2
  obtain ⟨v, Q, rfl, hnd, hq, hg⟩ := h2
  obtain ⟨a, n2, c, rfl⟩ : ∃ a n c, v = .slice a n c := by
    rcases hnd.own.2 with ⟨h', _⟩ | ⟨g, cap, cur, h', _⟩
    · exact ⟨_, _, _, h'⟩
    · exact ⟨_, _, _, h'⟩
  have hl : Q.length = ns.length := by rw [← hq, List.length_map]
  obtain ⟨h1, rfl⟩ := hnd.rds
  refine ⟨a, c, Q, ?_, hnd.nsIn (fun q hq2 => hs _ (by rw [← hq]; exact List.mem_map_of_mem hq2)) (by omega), hq, hg⟩
  rw [hl, hn]
theorem step_append_w {α : Type} {E : Elem α} {P : Program} {t e : TypeId} {bytes : Nat} (T : ElemOf E P t e bytes) {w : World} {ops : Array Oper} {o : Oper} {a : Act} {K : Act → World → Prop} {Q : Exit → Act → World → Prop} {EE : Prop} (hw : Region.wanted o (yielded ops a.tmps) = true) (s x : Operand)
    (ho : o.op = .call { callee := .builtin .append, args := #[s, x], argTypes := #[t, t] }) (base : Nat) (v : Value) (n : Nat) (xs : List α) (hs : a.eval s = v) (hown : SOwn E e w base v n xs)
    (ad : Addr) (zs : List α) (m cap : Nat) (hx : a.eval x = .slice (some ad) m cap) (hm : zs.length = m) (hr : SRd E w (some ad) zs) (hlen : (n + m) * bytes ≤ 140737488355328) (hmax : n + m ≤ maxLen) (hb : base ≤ w.heap.size)
    (h : ∀ v' w', SOwn E e w' base v' (n + m) (xs ++ zs) → w.grownBy w' v.ownBlock → K (a.put o.dst v') w') :
    if Region.wanted o (yielded ops a.tmps) = true then Oper.wp P o a w K Q else EE := by
  obtain ⟨i0, z, hi, hz0, hz1, hz2, hz3⟩ := T.info
  subst hm
  rw [if_pos hw]
  refine wp_append_own w s x t ho base e i0 z E.size bytes T.under hi hz0 hz1 hz2 hz3 E.pos v n (E.flat xs) hs hown ad zs.length cap (E.flat zs) hx (E.flat_len zs) hr.news (E.flat_one zs) hmax hlen hb ?_
  intro v' w' hown' hg _
  rw [← E.flat_app] at hown'
  exact h v' w' hown' hg
theorem c_copy2 {W0 : World} {a : Option Addr} {c : Nat} {Q : List Row} {n : Nat} (h : NsIn W0 a c Q) (hn : Q.length = n) (V : World) (hV : W0.grownBy V none) : Calls Try.prog 15 #[.slice a n c] V fun e w' => ∃ a1 c1 L, e = .returned (.slice a1 n c1) ∧ Hid (NsMk W0 w' (.slice a1 n c1) L) ∧ Hid (L.map (·.1) = Q.map (·.1)) ∧ Hid (V.grownBy w' none) ∧ Hid (∀ j, Value.ownBlock (.slice a1 n c1) = some j → V.heap.size ≤ j) := by
  subst hn
  exact (f_copyN a c Q V (h.grown hV)).mono fun e w' ⟨a1, c1, L, he, hn, hl, hg⟩ => ⟨a1, c1, L, he, hn.nsMk hV hg, hl, hg, fun j hj => (SOwn.block hn.own j hj).1⟩
theorem parse_some {s : ByteArray} {ns : List Nd} (h : parseR s = .ok ns) : 0 < ns.length := by
  obtain ⟨ts, e, _⟩ := parseR_inv h
  have ht := parse_total e
  rw [h] at ht
  cases ns with
  | nil => exact absurd ht.1 (by show (0 : Int) ≠ 1; decide)
  | cons x r => simp
theorem bare_rd (W : World) (x : Nd) (hm : x.mat = []) (hn : x.names = []) : NdRd W (x, (none, 0, 0), (none, 0, 0)) :=
  ⟨.inl hm, by rw [hm]; rfl, .inl hn, by rw [hn]; rfl, by rw [hm]; show (0 : Nat) ≤ _; omega, by rw [hn]; show (0 : Nat) ≤ _; omega⟩
end Go.Proofs.Ytnimdngiejcljaa
