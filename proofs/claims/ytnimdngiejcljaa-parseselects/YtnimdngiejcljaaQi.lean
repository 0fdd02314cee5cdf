/- Package parse: Parse. -/
import Derived.Test.YtnimdngiejcljaaQh
import Derived.Test.YtnimdngiejcljaaZd
namespace Go.Proofs.Ytnimdngiejcljaa
open Go.RowKit
set_option linter.unusedVariables false
set_option linter.unusedSimpArgs false
set_option maxRecDepth 20000

/-- What Parse answers. -/
def PrOut (b p : Nat) (R : Pr) (w : World) (e : Ending) (w' : World) : Prop :=
  match R with
  | .ok ns => ∃ v' Q, e = .returned (.tuple #[v', .int .i64 0, .int .i64 0]) ∧ NdAt w' b v' Q ∧ Q.map (·.1) = ns ∧ Fr (Me p) w w'
  | .bad q c => e = .returned (.tuple #[.slice none 0 0, .int .i64 q, .int .i64 c]) ∧ Fr (Me p) w w'
theorem NdAt.other {w w' : World} {b c d : Nat} {v : Value} {L : List Row} {x y : Array Value} (h : NdAt w b v L) (hf : Fr (fun j => j = c ∨ j = d) w w') (hc : w.heap[c]? = some (.cells x 3 (0, 0))) (hd : w.heap[d]? = some (.cells y 23 (0, 0))) : NdAt w' b v L := by
  have apart : ∀ {α : Type} {E : Elem α} {e : TypeId} {base n : Nat} {u : Value} {l : List α}, e ≠ 3 → e ≠ 23 → SOwn E e w base u n l → SOwn E e w' base u n l := fun h3 h23 ho => sown_same ho (fun j hj hl => hf.block j hl (fun e => by
    obtain ⟨cur, hcur⟩ := sown_blk ho hj
    rcases e with e | e
    · subst e; rw [hc] at hcur; cases hcur; exact h3 rfl
    · subst e; rw [hd] at hcur; cases hcur; exact h23 rfl))
  exact ⟨apart (by decide) (by decide) h.own, fun q hq => apart (by decide) (by decide) (h.mat q hq), fun q hq => apart (by decide) (by decide) (h.nam q hq), h.apm, h.apn⟩
theorem NdAt.base {w : World} {b b' : Nat} {v : Value} {L : List Row} (h : NdAt w b v L) (hb : b' ≤ b) : NdAt w b' v L :=
  ⟨SOwn.base h.own hb, fun q hq => SOwn.base (h.mat q hq) hb, fun q hq => SOwn.base (h.nam q hq) hb, h.apm, h.apn⟩
set_option maxHeartbeats 4000000 in
theorem f_caught {b p : Nat} (R : Pr) (w : World) (hq : Calls Try.prog 20 #[.pointer (some ⟨p, 0, none⟩)] ((w.alloc (.cells #[.int .i64 0] 3)).alloc (.cells #[.int .i64 0] 23)) fun e w' => QrOut b p R ((w.alloc (.cells #[.int .i64 0] 3)).alloc (.cells #[.int .i64 0] 23)) e w') (hp : p < w.heap.size) (hb : b ≤ w.heap.size) :
    Calls Try.prog 19 #[.func (.func 20) #[.pointer (some ⟨p, 0, none⟩)] #[]] w fun e w' => PrOut b p R w e w' := by
  have hmf : ∀ (fn : Fn) (first cap : Array Value) (w : World), (Instr.makeFunc fn first cap).run Try.prog w = .ok (.func fn first cap) w := fun _ _ _ _ => rfl
  have HQ := hid hq
  have g1 := World.grownBy_alloc w (.cells #[.int .i64 0] 3) none
  have g2 := World.grownBy_alloc (w.alloc (.cells #[.int .i64 0] 3)) (.cells #[.int .i64 0] 23) none
  have HG := hid (g1.trans g2)
  have HC : Hid (((w.alloc (.cells #[.int .i64 0] 3)).alloc (.cells #[.int .i64 0] 23)).heap[w.heap.size]? = some (.cells #[.int .i64 0] 3 (0, 0))) := (g2.block _ (by rw [size_alloc]; omega) (by simp)).trans (heap_alloc_new w _)
  have HD : Hid (((w.alloc (.cells #[.int .i64 0] 3)).alloc (.cells #[.int .i64 0] 23)).heap[w.heap.size + 1]? = some (.cells #[.int .i64 0] 23 (0, 0))) := by
    have := heap_alloc_new (w.alloc (.cells #[.int .i64 0] 3)) (.cells #[.int .i64 0] 23)
    rw [size_alloc] at this
    exact this
  have HP := hid hp
  have HBB := hid hb
  clear g1 g2 hq
  go_enter_defers Try.func19, Try.ntmps19
  go_wp2_with fail
  generalize hW : ((w.alloc (.cells #[.int .i64 0] 3)).alloc (.cells #[.int .i64 0] 23)) = W at *
  clear hW
  refine HQ.out.mono ?_
  intro e w1 h1
  cases R with
  | ok ns =>
    obtain ⟨v1, Q1, rfl, hn, hq1, f1⟩ := h1
    have HN := hid hn
    have HQ1 := hid hq1
    have HF := hid f1
    have C1 := hid ((f1.block _ (Array.getElem?_eq_some_iff.1 HC.out).1 (fun e => by change w.heap.size = p at e; omega)).trans HC.out)
    have D1 := hid ((f1.block _ (Array.getElem?_eq_some_iff.1 HD.out).1 (fun e => by change w.heap.size + 1 = p at e; omega)).trans HD.out)
    have c0 := one_cell C1.out
    have d0 := one_cell D1.out
    have c1 := free_row C1.out 0
    have d1 := free_row D1.out 0
    clear hn hq1 f1 HQ
    go_wp2
    have hFcd : Fr (fun j => j = w.heap.size ∨ j = w.heap.size + 1) w1 ((w1.setCell ⟨w.heap.size, 0, none⟩ (.int .i64 0)).setCell ⟨w.heap.size + 1, 0, none⟩ (.int .i64 0)) := ((fr_set w.heap.size 0 w1 (.int .i64 0)).mono (S' := fun j => j = w.heap.size ∨ j = w.heap.size + 1) (fun _ _ e => .inl e)).trans (fr_set (w.heap.size + 1) 0 _ _) (fun _ _ e => .inr e)
    have hcs : ((w1.setCell ⟨w.heap.size, 0, none⟩ (.int .i64 0)).setCell ⟨w.heap.size + 1, 0, none⟩ (.int .i64 0)).cell? ⟨w.heap.size, 0, none⟩ = some (.int .i64 0) := by
      have : ((w1.setCell ⟨w.heap.size, 0, none⟩ (.int .i64 0)).setCell ⟨w.heap.size + 1, 0, none⟩ (.int .i64 0)).heap[w.heap.size]? = _ := (set_other (by omega)).trans (one_set C1.out _)
      exact one_cell this
    have hds : ((w1.setCell ⟨w.heap.size, 0, none⟩ (.int .i64 0)).setCell ⟨w.heap.size + 1, 0, none⟩ (.int .i64 0)).cell? ⟨w.heap.size + 1, 0, none⟩ = some (.int .i64 0) := by
      have h1 : (w1.setCell ⟨w.heap.size, 0, none⟩ (.int .i64 0)).heap[w.heap.size + 1]? = _ := (set_other (by omega)).trans D1.out
      exact one_cell (one_set h1 _)
    have HNO := hid (HN.out.other hFcd C1.out D1.out)
    have HFO : Hid (Fr (Me p) w ((w1.setCell ⟨w.heap.size, 0, none⟩ (.int .i64 0)).setCell ⟨w.heap.size + 1, 0, none⟩ (.int .i64 0))) := ((Fr.of (S := Me p) HG.out).trans HF.out (fun _ _ e => e)).trans hFcd (fun j hj e => by omega)
    generalize hW5 : ((w1.setCell ⟨w.heap.size, 0, none⟩ (.int .i64 0)).setCell ⟨w.heap.size + 1, 0, none⟩ (.int .i64 0)) = W5 at hcs hds HNO HFO ⊢
    clear hW5 hFcd c0 d0 c1 d1
    refine leaves_cons (f := 35) (args := #[.pointer (some ⟨w.heap.size, 0, none⟩), .pointer (some ⟨w.heap.size + 1, 0, none⟩)]) (by simp) (by simp [go_sem]) ?_
    refine (c_idle _ _ _).mono ?_
    rintro e u' w'' ⟨rfl, rfl, rfl⟩
    simp [Go.Leaves, settle, results, Try.results19, go_sem, hcs, hds]
    exact ⟨v1, Q1, rfl, HNO.out, HQ1.out, HFO.out⟩
  | bad q c =>
    obtain ⟨rfl, f1⟩ := h1
    have HF := hid f1
    have C1 := hid ((f1.block _ (Array.getElem?_eq_some_iff.1 HC.out).1 (fun e => by change w.heap.size = p at e; omega)).trans HC.out)
    have D1 := hid ((f1.block _ (Array.getElem?_eq_some_iff.1 HD.out).1 (fun e => by change w.heap.size + 1 = p at e; omega)).trans HD.out)
    clear f1 HQ
    unfold flt
    go_wp2
    refine leaves_cons (f := 35) (args := #[.pointer (some ⟨w.heap.size, 0, none⟩), .pointer (some ⟨w.heap.size + 1, 0, none⟩)]) (by simp) (by simp [go_sem]) ?_
    refine (c_catch w.heap.size (w.heap.size + 1) q c _ C1.out D1.out (by omega)).mono ?_
    rintro e u' w'' ⟨rfl, rfl, hcs, hds, hf⟩
    have HFO : Hid (Fr (Me p) w w'') := ((Fr.of (S := Me p) HG.out).trans HF.out (fun _ _ e => e)).trans hf (fun j hj e => by omega)
    clear hf
    simp [Go.Leaves, settle, results, Try.results19, go_sem, hcs, hds]
    exact ⟨rfl, HFO.out⟩
/-- What Parse answers. -/
def PaOut (R : Pr) (w : World) (e : Ending) (w' : World) : Prop :=
  match R with
  | .ok ns => ∃ v' Q, e = .returned (.tuple #[v', .int .i64 0, .int .i64 0]) ∧ NdAt w' w.heap.size v' Q ∧ Q.map (·.1) = ns ∧ w.grownBy w' none
  | .bad q c => e = .returned (.tuple #[.slice none 0 0, .int .i64 q, .int .i64 c]) ∧ w.grownBy w' none
set_option maxHeartbeats 4000000 in
theorem f_parse (s : ByteArray) (w : World) : Calls Try.prog 8 #[.string s] w fun e w' => PaOut (parseR s) w e w' := by
  have HL := hid (f_lex s w)
  have hmf : ∀ (fn : Fn) (first cap : Array Value) (w : World), (Instr.makeFunc fn first cap).run Try.prog w = .ok (.func fn first cap) w := fun _ _ _ _ => rfl
  unfold parseR
  cases hs : lexR s with
  | bad p c =>
    rw [hs] at HL
    have hc := (lexR_bad hs).1
    have q0 : (c != 0) = true := by simpa using hc
    clear hs hc
    go_enter Try.func8, Try.ntmps8
    go_wp2_with fail
    refine HL.out.mono ?_
    rintro e w1 ⟨rfl, g1⟩
    have G1 := hid g1
    clear g1 HL
    go_wp2
    go_ret3
    exact ⟨rfl, G1.out⟩
  | ok ts =>
    rw [hs] at HL
    have he := lexR_end hs
    have HEN := hid he
    clear hs
    go_enter Try.func8, Try.ntmps8
    go_wp2_with fail
    refine HL.out.mono ?_
    intro e w1 h1
    obtain ⟨g, c, rfl, ho, g1⟩ := lx_slice h1 he.1.ne
    have HO := hid ho
    have G1 := hid g1
    have gb := SOwn.block ho g rfl
    clear h1 ho g1 HL he
    have HRD : Hid (RdAt (w1.alloc (.cells #[.slice (some ⟨g, 0, none⟩) ts.length c, .int .i64 0, .int .i64 0, .slice none 0 0] 48)) (w1.heap.size + 1) w1.heap.size ⟨g, c, ts⟩ 0 0 (.slice none 0 0) []) := by
      have ga := World.grownBy_alloc w1 (.cells #[.slice (some ⟨g, 0, none⟩) ts.length c, .int .i64 0, .int .i64 0, .slice none 0 0] 48) none
      exact ⟨by omega, by show g < _; omega, by show g ≠ _; omega, by rw [size_alloc]; omega, heap_alloc_new _ _, (SOwn.rd HO.out).grown ga (by simp), NdAt.nil _ _⟩
    have HAH : Hid (Ahead ⟨g, c, ts⟩ 0 ts) := ⟨rfl, HEN.out.1, HEN.out.2⟩
    generalize hW : (w1.alloc (.cells #[.slice (some ⟨g, 0, none⟩) ts.length c, .int .i64 0, .int .i64 0, .slice none 0 0] 48)) = W at HRD
    have HCA := hid (f_caught (b := w1.heap.size + 1) (p := w1.heap.size) (parseT ts) W (f_query ((HRD.out.grown (World.grownBy_alloc W _ none)).grown (World.grownBy_alloc _ _ none)) HAH.out) HRD.out.lt HRD.out.hb)
    have HGW : Hid (w.grownBy W none) := by show World.grownBy _ _ _; rw [← hW]; exact G1.out.trans (World.grownBy_alloc _ _ none)
    have HSZ : Hid (w.heap.size ≤ w1.heap.size) := G1.out.size
    have HW := hid hW
    clear hW
    obtain ⟨R, eR⟩ : ∃ R, parseT ts = R := ⟨_, rfl⟩
    have ER := hid eR
    rw [eR] at HCA
    clear eR
    go_wp2_with fail
    rw [HW.out]
    refine HCA.out.mono ?_
    intro e w2 h2
    cases R with
    | ok ns =>
      obtain ⟨v2, Q2, rfl, hn, hq, hf⟩ := h2
      have HN := hid (hn.base (b' := w.heap.size) (by have := HSZ.out; omega))
      have HQ := hid hq
      have HG2 := hid (((Fr.of (S := Me w1.heap.size) HGW.out).trans hf (fun _ _ e => e)).grown (fun k hk e => by change k = w1.heap.size at e; have := HSZ.out; omega))
      clear hn hq hf HCA
      go_wp2
      go_ret3
      show PaOut (parseT ts) _ _ _
      rw [ER.out]
      exact ⟨v2, Q2, rfl, HN.out, HQ.out, HG2.out⟩
    | bad q c9 =>
      obtain ⟨rfl, hf⟩ := h2
      have HG2 := hid (((Fr.of (S := Me w1.heap.size) HGW.out).trans hf (fun _ _ e => e)).grown (fun k hk e => by change k = w1.heap.size at e; have := HSZ.out; omega))
      clear hf HCA
      go_wp2
      go_ret3
      show PaOut (parseT ts) _ _ _
      rw [ER.out]
      exact ⟨rfl, HG2.out⟩
end Go.Proofs.Ytnimdngiejcljaa
