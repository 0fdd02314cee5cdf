/- Several texts in one: Qf, Qg, Qh, Qi. -/
import Derived.Test.YtbhffjeoakalbaaGreatDoorNm
import Derived.Test.YtbhffjeoakalbaaGreatDoorNh
import Derived.Deep.RegionHeld3
/- Cut, of a log over a disk that may be armed. -/
namespace Go.Proofs.YtbhffjeoakalbaaGreatDoor
open Go.RowKit Go.Maps Go.Sort
set_option linter.unusedVariables false
set_option maxRecDepth 20000

/-- Behind a Cut: the disk. -/
structure Cd (W w' : World) (d mb n' : Nat) (y : DSt) (B' : Nat → Prop) : Prop where
  disk : DS w' W.heap.size d mb n' y B'
  from_ : W.grownBy w' none
  low : ∀ k, B' k → W.heap.size ≤ k
  ltB : ∀ k, B' k → k < w'.heap.size
theorem cut_cd {W w w' : World} {d mb n : Nat} {x y : DSt} {p : Nat} {Ls : Sg} {safe : Nat} {A B : Nat → Prop} (h : Sb W w d mb n x p Ls safe A B) (hc : CutEnd w W.heap.size d mb (n + 2) y A B w') : ∃ n' B', n' ≤ n + 2 ∧ Cd W w' d mb n' y B' := by
  obtain ⟨n', B', h1, h2, h3, h4, h5⟩ := hc
  exact ⟨n', B', h1, h2, h3.from_ h.from_ h.low, fun k hk => h3.low h.from_ h.low k (.inr hk), h5⟩
theorem cpEmpty {l : List ByteArray} : (if cpName dirX none = (⟨#[]⟩ : ByteArray) then [] else [cpName dirX none]) ++ l = l := by
  rw [if_pos (show cpName dirX none = (⟨#[]⟩ : ByteArray) from rfl), List.nil_append]
theorem sb_cut {W w : World} {d mb n : Nat} {x : DSt} {p : Nat} {Ls : Sg} {safe : Nat} {A B : Nat → Prop} (h : Sb W w d mb n x p Ls safe A B) (hsy : AllSy x.V dirX Ls) (ka : Option Addr) (kn kc : Nat) (ts : List Sl) (recs : List (List Int)) (hw : x.wn + Ls.length ≤ 999999900) (hop : openN none Ls < 99999998) (hn : n < 1048576) (hsg : Ls.length ≤ 4194304) (hk : KeepIs w ka ts recs) (hkn : recs.length = kn) (hk4 : kn ≤ 4194304) (hlen : (logB frameR recs).length ≤ 4194304) (hr : ∀ r ∈ recs, r.length ≤ 65536) :
    Calls Tryz.prog 23 #[.pointer (some ⟨p, 0, none⟩), .slice ka kn kc] w fun e w' => ∃ n' y B', n' ≤ n + 2 ∧ Cd W w' d mb n' y B' ∧ y.wn ≤ x.wn + 3 + Ls.length ∧ 0 ≤ y.wn ∧
      ((e = .returned (.int .i64 0) ∧ y.off = false ∧ y.ok ∧ ∀ keep, OldLog (lostV keep y.V) dirX (openN none Ls, recs) []) ∨ (e = .returned (.int .i64 60) ∧ (∃ V, y = ⟨true, false, 0, 0, y.wn, V⟩) ∧ CutV y.V dirX Ls recs)) := by
  have hfar := h.far
  have hw0 := h.ok.1.1
  have hnew := h.log.noNew
  have hcpn : nameB (cpN dirX (openN none Ls)) = true := cp_name dirX_ok _
  have hsg' : (Ls.map Prod.fst).length ≤ 4194304 := by rw [List.length_map]; exact hsg
  have hs8 : ∀ k ∈ Ls.map Prod.fst, k < 100000000 := h.log.folder.segr.2
  have hcp : (cpName dirX none).size ≤ 64 := show (0 : Nat) ≤ 64 by omega
  have lost : ∀ (y : DSt) (hl : LostCut y x dirX Ls recs) (e : Ending) (w' : World), e = .returned (.int .i64 60) ∧ CutEnd w W.heap.size d mb (n + 2) y A B w' → ∃ n' y B', n' ≤ n + 2 ∧ Cd W w' d mb n' y B' ∧ y.wn ≤ x.wn + 3 + Ls.length ∧ 0 ≤ y.wn ∧ ((e = .returned (.int .i64 0) ∧ y.off = false ∧ y.ok ∧ ∀ keep, OldLog (lostV keep y.V) dirX (openN none Ls, recs) []) ∨ (e = .returned (.int .i64 60) ∧ (∃ V, y = ⟨true, false, 0, 0, y.wn, V⟩) ∧ CutV y.V dirX Ls recs)) := by
    rintro y ⟨V, wn, rfl, l1, l2, l3⟩ e w' ⟨rfl, hc⟩
    obtain ⟨n', B', h1, h2⟩ := cut_cd h hc
    exact ⟨n', _, B', h1, h2, l2, by dsimp only; omega, .inr ⟨rfl, ⟨V, rfl⟩, l3⟩⟩
  have putP : ∀ y, LostCut y x dirX Ls recs → (∀ W4 fv, w.grownBy W4 none → AppsTo W4 W.heap.size d mb n x B (newN dirX) fv (logB frameR recs) → ∀ w1, W4.grownBy w1 none → Calls Tryz.prog 99 #[.pointer (some ⟨p, 0, none⟩), .string (cpN dirX (openN none Ls)), fv] w1 fun e w' => e = .panicked (thrown 60) ∧ ∃ n' B', n' ≤ n + 2 ∧ LogAt w' W.heap.size d mb n' y p dirX (cpName dirX none) (Ls.map Prod.fst) (openN none Ls) A B' ∧ Step2 w1 w' A B A B') → Calls Tryz.prog 23 #[.pointer (some ⟨p, 0, none⟩), .slice ka kn kc] w fun e w' => ∃ n' y B', n' ≤ n + 2 ∧ Cd W w' d mb n' y B' ∧ y.wn ≤ x.wn + 3 + Ls.length ∧ 0 ≤ y.wn ∧ ((e = .returned (.int .i64 0) ∧ y.off = false ∧ y.ok ∧ ∀ keep, OldLog (lostV keep y.V) dirX (openN none Ls, recs) []) ∨ (e = .returned (.int .i64 60) ∧ (∃ V, y = ⟨true, false, 0, 0, y.wn, V⟩) ∧ CutV y.V dirX Ls recs)) := fun y hl hp =>
    (w_cutCQ W.heap.size d mb n x y p dirX (cpName dirX none) (Ls.map Prod.fst) (openN none Ls) A B ka kn kc ts recs w dirX_ok h.at_ h.ok hn hnew (fun W4 fv hg hap => w_cutPP W.heap.size d mb n x p dirX (cpName dirX none) (Ls.map Prod.fst) (openN none Ls) A B fv W4 dirX_ok (hfar.1.grown hg) (h.at_.grown hg) hop y (hp W4 fv hg hap)) hk hkn hk4 hlen h.from_.size).mono (lost y hl)
  cases cut_case h.log hsy dirX_ok h.on h.ok hw hr hop with
  | p1 y ey hl => exact putP y hl (fun W4 fv hg hap w1 hg1 => w_putP1 W.heap.size d mb n x p dirX (cpName dirX none) (cpN dirX (openN none Ls)) (Ls.map Prod.fst) (openN none Ls) A B fv (logB frameR recs) w1 dirX_ok (h.at_.grown (hg.trans hg1)) (fun w2 hg2 => hap w2 (hg1.trans hg2)) h.ok hn hcpn y ey)
  | p2 x1 ex1 hok1 y ey hl => exact putP y hl (fun W4 fv hg hap w1 hg1 => w_putP2 W.heap.size d mb n x p dirX (cpName dirX none) (cpN dirX (openN none Ls)) (Ls.map Prod.fst) (openN none Ls) A B fv (logB frameR recs) w1 dirX_ok (h.at_.grown (hg.trans hg1)) (fun w2 hg2 => hap w2 (hg1.trans hg2)) h.ok hn hcpn x1 ex1 hok1 y ey)
  | p3 x1 ex1 hok1 x2 ex2 hok2 y ey hl => exact putP y hl (fun W4 fv hg hap w1 hg1 => w_putP3 W.heap.size d mb n x p dirX (cpName dirX none) (cpN dirX (openN none Ls)) (Ls.map Prod.fst) (openN none Ls) A B fv (logB frameR recs) w1 dirX_ok (h.at_.grown (hg.trans hg1)) (fun w2 hg2 => hap w2 (hg1.trans hg2)) h.ok hn hcpn x1 ex1 hok1 x2 ex2 hok2 y ey)
  | del x1 ex1 hok1 x2 ex2 hok2 x3 ex3 j kj hj hdel hok3 y ey hl =>
    refine (w_cutCQ W.heap.size d mb n x y p dirX (cpName dirX none) (Ls.map Prod.fst) (openN none Ls) A B ka kn kc ts recs w dirX_ok h.at_ h.ok hn hnew (fun W4 fv hg hap => ?_) hk hkn hk4 hlen h.from_.size).mono (lost y hl)
    exact w_cutPD W.heap.size d mb n x p dirX (cpName dirX none) (Ls.map Prod.fst) (openN none Ls) A B fv W4 dirX_ok (hfar.1.grown hg) hfar.2 (h.at_.grown hg) hop x3 (fun w1 hg1 => w_putG W.heap.size d mb n x p dirX (cpName dirX none) (cpN dirX (openN none Ls)) (Ls.map Prod.fst) (openN none Ls) A B fv (logB frameR recs) w1 dirX_ok (h.at_.grown (hg.trans hg1)) (fun w2 hg2 => hap w2 (hg1.trans hg2)) h.ok hn hcpn x1 ex1 hok1 x2 ex2 hok2 x3 ex3) hsg' hs8 hcp j kj hj (by rw [cpEmpty]; exact hdel) y (by rw [cpEmpty]; exact ey) (by rw [cpEmpty]; exact hok3) (seg_name dirX_ok kj) (Nat.le_trans h.from_.size hg.size)
  | done x1 ex1 hok1 x2 ex2 hok2 x3 ex3 hdel hon hok hwn hl =>
    refine (w_cutCG W.heap.size d mb n x (delAll x3 ((Ls.map Prod.fst).map (segN dirX))) p dirX (cpName dirX none) (Ls.map Prod.fst) (openN none Ls) A B ka kn kc ts recs w dirX_ok h.at_ h.ok hn hnew (fun W4 fv hg hap => ?_) hk hkn hk4 hlen h.from_.size).mono ?_
    · exact w_cutG W.heap.size d mb n x p dirX (cpName dirX none) (Ls.map Prod.fst) (openN none Ls) A B fv W4 dirX_ok (hfar.1.grown hg) hfar.2 (h.at_.grown hg) hop x3 _ (by rw [cpEmpty]) (fun w1 hg1 => w_putG W.heap.size d mb n x p dirX (cpName dirX none) (cpN dirX (openN none Ls)) (Ls.map Prod.fst) (openN none Ls) A B fv (logB frameR recs) w1 dirX_ok (h.at_.grown (hg.trans hg1)) (fun w2 hg2 => hap w2 (hg1.trans hg2)) h.ok hn hcpn x1 ex1 hok1 x2 ex2 hok2 x3 ex3) hsg' hs8 hcp (by rw [cpEmpty]; exact hdel) (Nat.le_trans h.from_.size hg.size)
    · rintro e w' ⟨rfl, hc⟩
      obtain ⟨n', B', h1, h2⟩ := cut_cd h hc
      exact ⟨n', _, B', h1, h2, hwn.2, by omega, .inl ⟨rfl, hon, hok, hl⟩⟩
end Go.Proofs.YtbhffjeoakalbaaGreatDoor

/- A log whose slice of numbers is the empty end of another one: append. -/
namespace Go.Proofs.YtbhffjeoakalbaaGreatDoor
open Go.RowKit Go.Maps Go.Sort
set_option linter.unusedVariables false
set_option maxRecDepth 20000

/-- An empty slice of numbers that may be appended to. -/
def TailOk (w : World) (a : Option Addr) (c : Nat) : Prop := (∀ y, a = some y → y.spot = none ∧ ∃ cur, w.heap[y.block]? = some (.cells cur 3 (0, 0)) ∧ y.off + c ≤ cur.size) ∧ (a = none → c = 0) ∧ c ≤ 9223372036854775807
theorem TailOk.kept {w w' : World} {a : Option Addr} {c : Nat} (h : TailOk w a c) (hb : ∀ y, a = some y → w'.heap[y.block]? = w.heap[y.block]?) : TailOk w' a c :=
  ⟨fun y hy => ⟨(h.1 y hy).1, (h.1 y hy).2.elim fun cur hc => ⟨cur, by rw [hb y hy]; exact hc.1, hc.2⟩⟩, h.2⟩
theorem step_append_tail {ops : Array Oper} {o : Oper} {a : Act} {w : World} {K : Act → World → Prop} {Q : Exit → Act → World → Prop} {E : Prop} (hgd : o.guard = none) (s x : Operand)
    (ho : o.op = .call { callee := .builtin .append, args := #[s, x], argTypes := #[75, 75] }) (a0 : Option Addr) (c : Nat) (hs : a.eval s = .slice a0 0 c) (ht : TailOk w a0 c)
    (ad : Addr) (k : Int) (hx : a.eval x = .slice (some ad) 1 1) (hr : SRd intE w (some ad) [k])
    (h : ∀ a' c' w', SRd intE w' a' [k] → w.grownBy w' (a0.map (·.block)) → (∀ y, a' = some y → (a0.map (·.block) = some y.block ∨ w.heap.size ≤ y.block) ∧ y.block < w'.heap.size) → (a' = none → c' = 0) → K (a.put o.dst (.slice a' 1 c')) w') : if Region.wanted o (yielded ops a.tmps) = true then Oper.wp Tryz.prog o a w K Q else E := by
  have hw : Region.wanted o (yielded ops a.tmps) = true := by simp [Region.wanted, hgd]
  rw [if_pos hw]
  obtain ⟨i0, z, hi, hz0, hz1, hz2, hz3⟩ := intET.info
  have hone : ∀ u ∈ intE.flat [k], u.oneCell' = true := intE.flat_one [k]
  have done : ∀ v' w', (Builtin.append_ #[75, 75] o.type #[.slice a0 0 c, .slice (some ad) 1 1]).run Tryz.prog w = .ok v' w' → (∃ a' c', v' = .slice a' 1 c' ∧ SRd intE w' a' [k] ∧ w.grownBy w' (a0.map (·.block)) ∧ (∀ y, a' = some y → (a0.map (·.block) = some y.block ∨ w.heap.size ≤ y.block) ∧ y.block < w'.heap.size) ∧ (a' = none → c' = 0)) → Oper.wp Tryz.prog o a w K Q := by
    rintro v' w' hrun ⟨a', c', rfl, g1, g2, g3, g4⟩
    unfold Oper.wp
    simp [execOp, ho, resolve, invoke, builtin, hs, hx, hrun, Result.andThen]
    exact h a' c' w' g1 g2 g3 g4
  have own : ∀ v' w' base, SOwn intE 3 w' base v' 1 [k] → w.grownBy w' none → w.heap.size ≤ base ∨ base = 0 ∧ a0 = none → (∀ g, v'.ownBlock = some g → w.heap.size ≤ g) → ∃ a' c', v' = .slice a' 1 c' ∧ SRd intE w' a' [k] ∧ w.grownBy w' (a0.map (·.block)) ∧ (∀ y, a' = some y → (a0.map (·.block) = some y.block ∨ w.heap.size ≤ y.block) ∧ y.block < w'.heap.size) ∧ (a' = none → c' = 0) := by
    intro v' w' base hown hg _ hge
    obtain ⟨a', c', rfl⟩ : ∃ a' c', v' = .slice a' 1 c' := by
      rcases hown.2 with ⟨h', h0⟩ | ⟨g, cap, cur, h', _⟩
      · cases h0
      · exact ⟨_, _, h'⟩
    refine ⟨a', c', rfl, SOwn.rd hown, gb_any hg _, fun y hy => ?_, fun e => (sown_cap hown).2 e⟩
    subst hy
    exact ⟨.inr (hge y.block rfl), (hown.block y.block rfl).2⟩
  cases a0 with
  | none =>
    have hc0 := ht.2.1 rfl
    subst hc0
    obtain ⟨v', w', hrun, hown', hg, _, hwh⟩ := run_append_own_at (P := Tryz.prog) w 0 75 o.type 3 i0 z intE.size 8 intET.under hi hz0 hz1 hz2 hz3 intE.pos (.slice none 0 0) 0 [] (World.ownsRow_nil w 0 3 intE.size) ad 1 1 (intE.flat [k]) (intE.flat_len [k]) hr.news hone (by unfold maxLen; omega) (by omega) (Nat.zero_le _)
    refine done v' w' hrun (own v' w' 0 (by have h9 := hown'; simp only [Nat.zero_add, List.nil_append] at h9; exact h9) hg (.inr ⟨rfl, rfl⟩) (fun g hgg => ?_))
    rcases hwh with e | e
    · rw [e] at hgg; cases hgg
    · rw [e] at hgg; exact Nat.le_of_eq (Option.some.inj hgg)
  | some y0 =>
    obtain ⟨hsp, cur, hcur, hle⟩ := ht.1 y0 rfl
    obtain ⟨b, off, sp⟩ := y0
    dsimp only at hsp hcur hle
    subst hsp
    by_cases hroom : 1 ≤ c
    · have hlt : off < cur.size := by omega
      have hcell : ∀ j, j < (intE.flat [k]).length → (w.cell? ⟨b, off + 0 * i0.size + j, none⟩).isSome = true := fun j hj => by
        have hj0 : j = 0 := by simp [intE, Elem.flat] at hj; exact hj
        subst hj0
        unfold World.cell?
        simp only [Nat.zero_mul, Nat.add_zero, hcur]
        simp [hlt]
      have hfr : ∀ j, j < (intE.flat [k]).length → w.frozen? ⟨b, off + 0 * i0.size + j, none⟩ = false := fun j hj => by
        unfold World.frozen?
        simp only [hcur]
        simp
      have hrun := run_append_room_cells (P := Tryz.prog) w 75 o.type 3 i0 intET.under hi b off 0 c ad 1 1 (intE.flat [k]) (by rw [hz1]; exact intE.flat_len [k]) hr.news hone (by omega) hcell hfr
      have hwe : w.setCells b (off + 0 * i0.size) (intE.flat [k]) = w.setCell ⟨b, off, none⟩ (.int .i64 k) := by
        rw [Nat.zero_mul, Nat.add_zero]
        rfl
      rw [hwe, Nat.zero_add] at hrun
      refine done _ _ hrun ⟨_, _, rfl, .inr ⟨b, off, rfl, fun j v hj => ?_⟩, gb_set rfl, fun y hy => ?_, fun e => nomatch e⟩
      · have hj0 : j = 0 := by
          have := (List.getElem?_eq_some_iff.1 hj).1
          simp [intE, Elem.flat] at this
          exact this
        subst hj0
        have hv : v = .int .i64 k := by
          simp [intE, Elem.flat] at hj
          exact hj.symm
        subst hv
        have hsome : (w.cell? ⟨b, off, none⟩).isSome = true := by have := hcell 0 (by simp [intE, Elem.flat]); simpa using this
        exact World.cell?_setCell_same' w _ _ hsome
      · cases hy
        refine ⟨.inl rfl, ?_⟩
        have h8 : b < w.heap.size := (Array.getElem?_eq_some_iff.1 hcur).1
        simpa [World.setCell] using h8
    · have hc0 : c = 0 := by omega
      subst hc0
      obtain ⟨v', w', hrun, hown', hg⟩ := run_append_arg_grows (P := Tryz.prog) w 75 o.type 3 i0 z intE.size 8 intET.under hi hz0 hz1 hz2 hz3 intE.pos ⟨b, off, none⟩ 0 0 [] rfl (fun j u hj => by cases hj) ad 1 1 (intE.flat [k]) (intE.flat_len [k]) hr.news (by omega) (by unfold maxLen; omega) (by omega)
      have hso : SOwn intE 3 w' w.heap.size v' 1 [k] := by have h9 := hown'; simp only [Nat.zero_add, List.nil_append] at h9; exact h9
      refine done v' w' hrun (own v' w' w.heap.size hso hg (.inl (Nat.le_refl _)) (fun g hgg => ?_))
      exact (hso.block g hgg).1
end Go.Proofs.YtbhffjeoakalbaaGreatDoor

/- A log whose slice of numbers may be the empty end of another one: roll, write. -/
namespace Go.Proofs.YtbhffjeoakalbaaGreatDoor
open Go.RowKit Go.Maps Go.Sort
set_option linter.unusedVariables false
set_option maxRecDepth 20000

/-- A log's struct in block p, read alone; with no segments it may still be appended to. -/
def WalR (w : World) (p d : Nat) (dir cp : ByteArray) (segs : List Nat) (op : Nat) (A : Nat → Prop) : Prop := ∃ a c, WRow w p d dir cp (.slice a segs.length c) (op : Int) ∧ (SRd intE w a (nI segs) ∧ (segs = [] → TailOk w a c)) ∧ A p ∧ (∀ y, a = some y → A y.block ∧ y.block ≠ p)
structure LogR (w : World) (base d mb n : Nat) (x : DSt) (p : Nat) (dir cp : ByteArray) (segs : List Nat) (op : Nat) (A B : Nat → Prop) : Prop where
  disk : DS w base d mb n x B
  wal : WalR w p d dir cp segs op A
  apart : ∀ k, A k → ¬ B k
  ltB : ∀ k, B k → k < w.heap.size
  ltA : ∀ k, A k → k < w.heap.size
theorem srd_keptE {w w' : World} {X : Nat → Prop} {a : Option Addr} {l : List Int} (h : SRd intE w a l) (hk : Kept w w' X) (hb : ∀ y, a = some y → y.block < w.heap.size ∧ ¬ X y.block) : SRd intE w' a l := by
  rcases h with h | ⟨b, off, e, h⟩
  · exact .inl h
  · refine .inr ⟨b, off, e, fun j v hj => ?_⟩
    exact cell_kept hk (hb _ e).1 (hb _ e).2 (h j v hj)
theorem tail_kept {w w' : World} {X : Nat → Prop} {a : Option Addr} {l : List Int} {c : Nat} {P : Prop} (h : SRd intE w a l ∧ (P → TailOk w a c)) (hk : Kept w w' X) (hb : ∀ y, a = some y → y.block < w.heap.size ∧ ¬ X y.block) : SRd intE w' a l ∧ (P → TailOk w' a c) :=
  ⟨srd_keptE h.1 hk hb, fun hp => (h.2 hp).kept (fun y hy => hk.block _ (hb y hy).1 (hb y hy).2)⟩
theorem WalR.kept {w w' : World} {p d : Nat} {dir cp : ByteArray} {segs : List Nat} {op : Nat} {A X : Nat → Prop} (h : WalR w p d dir cp segs op A) (hlt : ∀ k, A k → k < w.heap.size) (hg : Kept w w' X) (hX : ∀ k, A k → ¬ X k) : WalR w' p d dir cp segs op A := by
  obtain ⟨a, c, h1, h2, h3, h4⟩ := h
  exact ⟨a, c, h1.of_block (hg.block p h1.lt (hX p h3)), tail_kept h2 hg (fun y hy => ⟨hlt _ (h4 y hy).1, hX _ (h4 y hy).1⟩), h3, h4⟩
theorem TailOk.grown {w w' : World} {a : Option Addr} {c : Nat} (h : TailOk w a c) (hg : w.grownBy w' none) : TailOk w' a c :=
  h.kept (fun y hy => by obtain ⟨_, cur, h1, _⟩ := h.1 y hy; exact hg.block _ (Array.getElem?_eq_some_iff.1 h1).1 (by simp))
theorem LogR.grown {w w' : World} {base d mb n : Nat} {x : DSt} {p : Nat} {dir cp : ByteArray} {segs : List Nat} {op : Nat} {A B : Nat → Prop} (h : LogR w base d mb n x p dir cp segs op A B) (hg : w.grownBy w' none) : LogR w' base d mb n x p dir cp segs op A B :=
  ⟨DV.kept h.disk hg, h.wal.kept h.ltA (Kept.of hg (X := fun _ => False) (fun k hk => by cases hk)) (fun _ _ h => h), h.apart, fun k hk => Nat.lt_of_lt_of_le (h.ltB k hk) hg.size, fun k hk => Nat.lt_of_lt_of_le (h.ltA k hk) hg.size⟩
theorem LogR.write {w w' : World} {base d mb n n' : Nat} {x x' : DSt} {p : Nat} {dir cp : ByteArray} {segs : List Nat} {op : Nat} {A B B' : Nat → Prop} (h : LogR w base d mb n x p dir cp segs op A B) (hd : DS w' base d mb n' x' B') (hs : Step w w' B B') :
    ∃ B'', LogR w' base d mb n' x' p dir cp segs op A B'' ∧ Step2 w w' A B A B'' := by
  refine ⟨fun k => B' k ∧ k < w'.heap.size, ⟨hd.bound, h.wal.kept h.ltA hs.1 (fun k ha hb => h.apart k ha hb), fun k ha hb => ?_, fun k hb => hb.2, fun k ha => Nat.lt_of_lt_of_le (h.ltA k ha) hs.1.size⟩, ⟨hs.1.mono (fun k _ hb => .inr hb), fun k hk hb => hs.2 k hk hb.1, fun k _ ha => ha⟩⟩
  exact h.apart k ha (hs.2 k (h.ltA k ha) hb.1)
theorem LogR.setOpen {w : World} {base d mb n : Nat} {x : DSt} {p : Nat} {dir cp : ByteArray} {segs : List Nat} {op : Nat} {A B : Nat → Prop} (h : LogR w base d mb n x p dir cp segs op A B) (op' : Nat) (u : Int) (hu : u = (op' : Int)) :
    LogR (w.setCell ⟨p, 4, none⟩ (.int .i64 u)) base d mb n x p dir cp segs op' A B ∧ Step2 w (w.setCell ⟨p, 4, none⟩ (.int .i64 u)) A B A B := by
  subst hu
  have hg : w.grownBy (w.setCell ⟨p, 4, none⟩ (.int .i64 (op' : Int))) (some p) := gb_set rfl
  obtain ⟨a, c, h1, h2, h3, h4⟩ := h.wal
  have hk : Kept w (w.setCell ⟨p, 4, none⟩ (.int .i64 (op' : Int))) (fun k => k = p) := Kept.of hg (fun k hk => by cases hk; rfl)
  refine ⟨⟨h.disk.others hk (fun k hb e => by subst e; exact h.apart _ h3 hb), ⟨a, c, (h1.set 4 (.int .i64 (op' : Int))).congr (five rfl rfl rfl rfl rfl), tail_kept h2 hk (fun y hy => ⟨h.ltA _ (h4 y hy).1, (h4 y hy).2⟩), h3, h4⟩, h.apart, fun k hb => Nat.lt_of_lt_of_le (h.ltB k hb) hg.size, fun k ha => Nat.lt_of_lt_of_le (h.ltA k ha) hg.size⟩, ⟨hk.mono (fun k _ e => by subst e; exact .inl h3), fun k _ hb => hb, fun k _ ha => ha⟩⟩
set_option maxHeartbeats 8000000 in
theorem w_rollR (base d mb n : Nat) (x : DSt) (p : Nat) (dir cp : ByteArray) (segs : List Nat) (op : Nat) (A B : Nat → Prop) (w : World) (hdir : dirB dir = true) (ht : Tab w) (h : LogR w base d mb n x p dir cp segs op A B) (hon : x.off = false) (hset : x.set = false) (hok : x.ok) (hop : op < 99999999) :
    Calls Tryz.prog 48 #[.pointer (some ⟨p, 0, none⟩)] w fun e w' => e = .returned (.tuple #[]) ∧ ∃ n' B', n' ≤ n ∧ LogR w' base d mb n' (rollX x dir op).1 p dir cp segs (rollX x dir op).2 A B' ∧ Step2 w w' A B A B' := by
  have hds : dir.size ≤ 32 := by simp only [dirB, Bool.and_eq_true, decide_eq_true_eq] at hdir; exact hdir.2
  have HL : Hid (LogR w base d mb n x p dir cp segs op A B) := h
  have HT : Hid (Tab w) := ht
  have hnm := seg_name hdir op
  obtain ⟨a, c, hW, _⟩ := h.wal
  obtain ⟨c0, c1, c2, c3, c4⟩ := hW.cells
  have HW : Hid (WRow w p d dir cp (.slice a segs.length c) (op : Int)) := hW
  have HGD : Hid (w.grownBy w.drew none) := gb_drew (World.grownBy.refl _ _)
  have HSG : Hid (Calls Tryz.prog 54 #[.pointer (some ⟨p, 0, none⟩), .int .i64 (op : Int)] w.drew fun e w' => e = .returned (.string (segN dir op)) ∧ w.drew.grownBy w' none) := w_segment p d dir cp _ _ op (by omega) _ (by omega) (ht.grown HGD.out) (hW.kept HGD.out (by simp))
  have HRD : Hid (∀ w1, w.grownBy w1 none → Calls Tryz.prog 78 #[.pointer (some ⟨d, 0, none⟩), .string (segN dir op)] w1 fun e w' => ∃ a c, e = .returned (.tuple #[.slice a (x.read (segN dir op)).1.length c, .int .i64 (x.read (segN dir op)).2]) ∧ SOwn byteE 5 w' w1.heap.size (.slice a (x.read (segN dir op)).1.length c) (x.read (segN dir op)).1.length (x.read (segN dir op)).1 ∧ (∀ z ∈ (x.read (segN dir op)).1, 0 ≤ z ∧ z ≤ 255) ∧ (x.read (segN dir op)).1.length ≤ 4194304 ∧ w1.grownBy w' none) := fun w1 hg => x_read base d mb n x B (segN dir op) w1 (DV.kept h.disk hg) hnm
  clear h hW c1 c2 c3
  go_enter Tryz.func48, Tryz.ntmps48
  go_upto_region 0 with fail
  go_cut [2, 3] from 4 (fun t2 t3 wc => ∃ a c, t2 = .slice a (x.read (segN dir op)).1.length c ∧ t3 = .int .i64 (x.read (segN dir op)).2 ∧ w.grownBy wc none)
  case first =>
    go_region_held3 (fun W => W.cell? ⟨p, 0, none⟩ = some (.pointer (some ⟨d, 0, none⟩)) ∧ W.cell? ⟨p, 4, none⟩ = some (.int .i64 (op : Int))) (go_keep) (first
      | (go_at_call 54; refine HSG.out.mono ?_; rintro e w1 ⟨rfl, hg1⟩; have HG1 : Hid (w.grownBy w1 none) := HGD.out.trans hg1; have c0' := (HW.out.kept HG1.out (by simp)).cells.1; have c4' := (HW.out.kept HG1.out (by simp)).cells.2.2.2.2; clear hg1)
      | (go_at_call 78; refine (HRD.out _ HG1.out).mono ?_; rintro e w2 ⟨a2, k2, rfl, _, _, _, hg2⟩; have HG2 : Hid (w.grownBy w2 none) := HG1.out.trans hg2; have c0'' := (HW.out.kept HG2.out (by simp)).cells.1; have c4'' := (HW.out.kept HG2.out (by simp)).cells.2.2.2.2; clear hg2))
    all_goals (go_wp2; go_meet)
    all_goals exact ⟨a2, k2, rfl, rfl, HG2.out⟩
  case rest =>
    obtain ⟨a2, k2, rfl, rfl, hgc⟩ := hcut
    rename World => w0
    have hLc := HL.out.grown hgc
    have HGc : Hid (w.grownBy w0 none) := hgc
    have HLc : Hid (LogR w0 base d mb n x p dir cp segs op A B) := hLc
    have HTc : Hid (Tab w0) := HT.out.grown hgc
    have HD0 := fun w => w_done0 w
    cases hV : x.V (segN dir op) with
    | none =>
      have e1 : x.read (segN dir op) = ([], 62) := by unfold DSt.read; rw [hon, hV]; rfl
      have HX : Hid (rollX x dir op = (x, op)) := by show _ = _; unfold rollX; rw [hV]
      rw [e1]
      clear hgc hLc hV e1 HSG HRD
      go_wp2
      refine bodyPost_ret (results_none rfl _ _ _) rfl ?_
      rw [HX.out]
      exact ⟨rfl, n, B, Nat.le_refl _, HLc.out, Step2.grown A B HGc.out⟩
    | some q =>
      have e1 : x.read (segN dir op) = (q.1, 0) := by unfold DSt.read; rw [hon, hV]; rfl
      rw [e1]
      obtain ⟨L, eL⟩ : ∃ L, L = q.1.length := ⟨_, rfl⟩
      rw [← eL]
      by_cases hbig : 4096 ≤ L
      · have HX : Hid (rollX x dir op = ((x.sync (segN dir op)).2, op + 1)) := by show _ = _; unfold rollX; rw [hV]; exact if_pos (by rw [← eL]; exact hbig)
        have HS1 : Hid ((x.sync (segN dir op)).1 = 0) := by show _ = _; unfold DSt.sync; rw [hon, hV]; unfold DSt.wr; simp [hset]
        have qb : decide ((4096 : Int) ≤ (L : Int)) = true := by simp; omega
        have HSY : Hid (∀ w1, w0.grownBy w1 none → Calls Tryz.prog 53 #[.pointer (some ⟨d, 0, none⟩), .string (segN dir op)] w1 fun e w' => e = .returned (.int .i64 0) ∧ ∃ n' B', n' ≤ n ∧ LogR w' base d mb n' (x.sync (segN dir op)).2 p dir cp segs op A B' ∧ Step2 w0 w' A B A B') := fun w1 hg => by
          have h1 := HLc.out.grown hg
          refine (x_syncN base d mb n x B (segN dir op) w1 h1.disk hok hnm).mono ?_
          rintro e w' ⟨rfl, n', B', hn', hd', hst⟩
          obtain ⟨B'', h2, h3⟩ := h1.write hd' hst
          exact ⟨by rw [HS1.out], n', B'', hn', h2, (Step2.grown A B hg).trans h3⟩
        have HCELL : Hid (∀ w2, (∃ n' B', n' ≤ n ∧ LogR w2 base d mb n' (x.sync (segN dir op)).2 p dir cp segs op A B' ∧ Step2 w0 w2 A B A B') → w2.cell? ⟨p, 0, none⟩ = some (.pointer (some ⟨d, 0, none⟩)) ∧ w2.cell? ⟨p, 4, none⟩ = some (.int .i64 (op : Int))) := by
          rintro w2 ⟨n', B', _, h2, h3⟩
          obtain ⟨a2, c2, hW2, _⟩ := h2.wal
          exact ⟨hW2.cells.1, hW2.cells.2.2.2.2⟩
        obtain ⟨a3, c3, hW3, _⟩ := HLc.out.wal
        have HGD2 : Hid (w0.grownBy w0.drew none) := gb_drew (World.grownBy.refl _ _)
        have HSG2 : Hid (Calls Tryz.prog 54 #[.pointer (some ⟨p, 0, none⟩), .int .i64 (op : Int)] w0.drew fun e w' => e = .returned (.string (segN dir op)) ∧ w0.drew.grownBy w' none) := w_segment p d dir cp _ _ op (by omega) _ (by omega) (HTc.out.grown HGD2.out) (hW3.kept HGD2.out (by simp))
        have HW3 : Hid (WRow w0 p d dir cp (.slice a3 segs.length c3) (op : Int)) := hW3
        have y0 := hW3.cells.1
        have y4 := hW3.cells.2.2.2.2
        clear hgc hLc hV e1 HSG HRD eL hW3
        go_wp2_with fail
        refine (HD0 _).mono ?_
        rintro e w1 ⟨rfl, rfl⟩
        go_upto_region 4 with fail
        go_cut [] from 25 (fun wx => ∃ n' B', n' ≤ n ∧ LogR wx base d mb n' (x.sync (segN dir op)).2 p dir cp segs op A B' ∧ Step2 w0 wx A B A B')
        case first =>
          go_region_held3 (fun W => W.cell? ⟨p, 0, none⟩ = some (.pointer (some ⟨d, 0, none⟩)) ∧ W.cell? ⟨p, 4, none⟩ = some (.int .i64 (op : Int))) (go_keep) (first
            | (go_at_call 54; refine HSG2.out.mono ?_; rintro e w1 ⟨rfl, hg1⟩; have HG1 : Hid (w0.grownBy w1 none) := HGD2.out.trans hg1; have c0' := (HW3.out.kept HG1.out (by simp)).cells.1; have c4' := (HW3.out.kept HG1.out (by simp)).cells.2.2.2.2; clear hg1)
            | (go_at_call 53; refine (HSY.out _ HG1.out).mono ?_; rintro e w2 ⟨rfl, hx2⟩; have HX2 : Hid (∃ n' B', n' ≤ n ∧ LogR w2 base d mb n' (x.sync (segN dir op)).2 p dir cp segs op A B' ∧ Step2 w0 w2 A B A B') := hx2; obtain ⟨c0'', c4''⟩ := HCELL.out w2 hx2; clear hx2)
            | (go_at_call 52; refine (HD0 _).mono ?_; rintro e w3 ⟨rfl, rfl⟩))
          all_goals (go_wp2; go_meet)
          all_goals exact HX2.out
        case rest =>
          obtain ⟨n', B', hn', hL', hS'⟩ := hcut
          obtain ⟨a4, c4', hW4, _⟩ := hL'.wal
          have x4 := hW4.cells.2.2.2.2
          have z4 := hW4.frozen 4
          have HFIN : Hid (LogR (wc.setCell ⟨p, 4, none⟩ (.int .i64 ((op : Int) + 1))) base d mb n' (x.sync (segN dir op)).2 p dir cp segs (op + 1) A B' ∧ Step2 wc (wc.setCell ⟨p, 4, none⟩ (.int .i64 ((op : Int) + 1))) A B' A B') := hL'.setOpen (op + 1) _ (by omega)
          have HS' : Hid (Step2 w0 wc A B A B') := hS'
          clear hL' hS' hW4
          go_wp2
          go_end0
          rw [HX.out]
          exact ⟨rfl, n', B', hn', HFIN.out.1, ((Step2.grown A B HGc.out).trans HS'.out).trans HFIN.out.2⟩
      · have HX : Hid (rollX x dir op = (x, op)) := by show _ = _; unfold rollX; rw [hV]; exact if_neg (by rw [← eL]; exact hbig)
        have qb : decide ((4096 : Int) ≤ (L : Int)) = false := by simp; omega
        clear hgc hLc hV e1 HSG HRD eL
        go_wp2_with fail
        refine (HD0 _).mono ?_
        rintro e w1 ⟨rfl, rfl⟩
        go_wp2
        go_end0
        rw [HX.out]
        exact ⟨rfl, n, B, Nat.le_refl _, HLc.out, Step2.grown A B HGc.out⟩
/-- The struct's segments were written. -/
theorem LogR.addSeg {w w2 : World} {base d mb n : Nat} {x : DSt} {p : Nat} {dir cp : ByteArray} {op c2 : Nat} {A B : Nat → Prop} {a a2 : Option Addr} {c : Nat} {o : Obj} (h : LogR w base d mb n x p dir cp [] op A B) (hW : WRow w p d dir cp (.slice a 0 c) (op : Int)) (hA : ∀ y, a = some y → A y.block ∧ y.block ≠ p) (hAp : A p) (ho2 : SRd intE w2 a2 [(op : Int)]) (hg2 : (w.drew.alloc o).grownBy w2 (a.map (·.block))) (hgg : ∀ y, a2 = some y → (a.map (·.block) = some y.block ∨ (w.drew.alloc o).heap.size ≤ y.block) ∧ y.block < w2.heap.size) :
    ∃ A', LogR (w2.setCell ⟨p, 3, none⟩ (.slice a2 1 c2)) base d mb n x p dir cp [op] op A' B ∧ Step2 w (w2.setCell ⟨p, 3, none⟩ (.slice a2 1 c2)) A B A' B := by
  obtain ⟨g, off, ea2, _⟩ := ho2.at (by simp)
  have hgg := hgg _ ea2
  dsimp only at hgg
  have hza : (w.drew.alloc o).heap.size = w.heap.size + 1 := Array.size_push _
  have hgs : w2.grownBy (w2.setCell ⟨p, 3, none⟩ (.slice a2 1 c2)) (some p) := gb_set rfl
  have hg0 : w.grownBy (w.drew.alloc o) none := (gb_drew (World.grownBy.refl w none)).trans (World.grownBy_alloc _ o none)
  have hown : ∀ k, a.map (·.block) = some k → A k ∧ k ≠ p := fun k hk => by
    cases a with
    | none => cases hk
    | some y => have e : y.block = k := Option.some.inj hk; subst e; exact hA y rfl
  have hpne : some p ≠ a.map (·.block) := fun e => (hown p e.symm).2 rfl
  have hW2 : WRow w2 p d dir cp (.slice a 0 c) (op : Int) := (hW.kept hg0 (by simp)).kept hg2 hpne
  have hgp : g ≠ p := by
    rcases hgg.1 with h1 | h1
    · exact (hown g h1).2
    · have := hW.lt; omega
  have hgl : g < w2.heap.size := hgg.2
  have hk : Kept w (w2.setCell ⟨p, 3, none⟩ (.slice a2 1 c2)) A := by
    refine ((Kept.of hg0 (fun k hk => by cases hk)).trans (Kept.of hg2 (X := A) (fun k hk => (hown k hk).1)) (fun k _ hk => hk)).trans (Kept.of hgs (X := A) (fun k hk => by cases hk; exact hAp)) (fun k _ hk => hk)
  refine ⟨fun k => A k ∨ k = g, ⟨?_, ⟨a2, c2, ?_, ⟨?_, fun e => by cases e⟩, .inl hAp, fun y hy => by rw [ea2] at hy; cases hy; exact ⟨.inr rfl, hgp⟩⟩, ?_, fun k hb => Nat.lt_of_lt_of_le (h.ltB k hb) hk.size, fun k ha => ?_⟩, ⟨hk.mono (fun k _ ha => .inl ha), fun k _ hb => hb, fun k hlt ha => ?_⟩⟩
  · exact h.disk.others hk (fun k hb ha => h.apart k ha hb)
  · exact (hW2.set 3 _).congr (five rfl rfl rfl rfl rfl)
  · exact SRd.grown ho2 hgs (fun y hy => by rw [ea2] at hy; cases hy; exact fun e => hgp (Option.some.inj e))
  · rintro k (ha | rfl) hb
    · exact h.apart k ha hb
    · rcases hgg.1 with h1 | h1
      · exact h.apart k (hown k h1).1 hb
      · have := h.ltB k hb; omega
  · rcases ha with ha | rfl
    · exact Nat.lt_of_lt_of_le (h.ltA k ha) hk.size
    · exact Nat.lt_of_lt_of_le hgl hgs.size
  · rcases ha with ha | rfl
    · exact ha
    · rcases hgg.1 with h1 | h1
      · exact (hown k h1).1
      · omega
set_option maxHeartbeats 8000000 in
theorem w_writeR (base d mb n : Nat) (x : DSt) (p : Nat) (dir cp : ByteArray) (op : Nat) (A B : Nat → Prop) (ad : Addr) (zs : List Int) (M cd : Nat) (w : World) (hdir : dirB dir = true) (ht : Tab w) (h : LogR w base d mb n x p dir cp [] op A B) (hon : x.off = false) (hset : x.set = false) (hok : x.ok) (hop : op < 99999999) (hn : n < 1048576) (hr : SRd byteE w (some ad) zs) (hM : zs.length = M) (hby : ∀ z ∈ zs, 0 ≤ z ∧ z ≤ 255) (hlen : (oldV x.V (segN dir op)).1.length + M ≤ 4194304) (hb : base ≤ w.heap.size) (had : ¬ B ad.block) (hadl : ad.block < w.heap.size) :
    Calls Tryz.prog 49 #[.pointer (some ⟨p, 0, none⟩), .slice (some ad) M cd] w fun e w' => e = .returned (.tuple #[]) ∧ ∃ n' A' B', n' ≤ n + 1 ∧ LogR w' base d mb n' (x.append (segN dir op) zs).2 p dir cp ([op]) op A' B' ∧ Step2 w w' A B A' B' := by
  have hds : dir.size ≤ 32 := by simp only [dirB, Bool.and_eq_true, decide_eq_true_eq] at hdir; exact hdir.2
  have HL : Hid (LogR w base d mb n x p dir cp [] op A B) := h
  have hnm := seg_name hdir op
  obtain ⟨a, c, hW, _⟩ := h.wal
  obtain ⟨c0, c1, c2, c3, c4⟩ := hW.cells
  have HW : Hid (WRow w p d dir cp (.slice a 0 c) (op : Int)) := hW
  have HGD : Hid (w.grownBy w.drew none) := gb_drew (World.grownBy.refl _ _)
  have HSG : Hid (Calls Tryz.prog 54 #[.pointer (some ⟨p, 0, none⟩), .int .i64 (op : Int)] w.drew fun e w' => e = .returned (.string (segN dir op)) ∧ w.drew.grownBy w' none) := w_segment p d dir cp _ _ op (by omega) _ (by omega) (ht.grown HGD.out) (hW.kept HGD.out (by simp))
  have HA1 : Hid ((x.append (segN dir op) zs).1 = 0) := by show _ = _; unfold DSt.append; rw [hon]; unfold DSt.wr; simp [hset]
  have hBd : B d := by obtain ⟨F, G, _, _, hb⟩ := h.disk; exact hb d (.inl rfl)
  have hBm : B mb := by obtain ⟨F, G, _, _, hb⟩ := h.disk; exact hb mb (.inr (.inl rfl))
  have HAP : Hid (∀ w1, w.grownBy w1 none → Calls Tryz.prog 27 #[.pointer (some ⟨d, 0, none⟩), .string (segN dir op), .slice (some ad) M cd] w1 fun e w' => e = .returned (.int .i64 0) ∧ ∃ n' B', n' ≤ n + 1 ∧ LogR w' base d mb n' (x.append (segN dir op) zs).2 p dir cp [] op A B' ∧ Step2 w w' A B A B') := fun w1 hg => by
    have h1 := HL.out.grown hg
    refine (x_append base d mb n x B (segN dir op) ad zs M cd w1 h1.disk hok hnm hn (hr.grown hg (by simp)) hM hby hlen (Nat.le_trans hb hg.size) (fun e => had (e ▸ hBm)) (fun e => had (e ▸ hBd))).mono ?_
    rintro e w' ⟨rfl, n', B', hn', hd', hst⟩
    obtain ⟨B'', h2, h3⟩ := h1.write hd' hst
    exact ⟨by rw [HA1.out], n', B'', hn', h2, (Step2.grown A B hg).trans h3⟩
  have HCELL : Hid (∀ w2, (∃ n' B', n' ≤ n + 1 ∧ LogR w2 base d mb n' (x.append (segN dir op) zs).2 p dir cp [] op A B' ∧ Step2 w w2 A B A B') → w2.cell? ⟨p, 0, none⟩ = some (.pointer (some ⟨d, 0, none⟩)) ∧ w2.cell? ⟨p, 4, none⟩ = some (.int .i64 (op : Int))) := by
    rintro w2 ⟨n', B', _, h2, h3⟩
    obtain ⟨a2, c2, hW2, _⟩ := h2.wal
    exact ⟨hW2.cells.1, hW2.cells.2.2.2.2⟩
  clear h hW c1 c2 c3 hr hby hlen had hadl hBd hBm hM
  go_enter Tryz.func49, Tryz.ntmps49
  go_upto_region 0 with fail
  go_cut [4] from 5 (fun t4 wc => t4 = .int .i64 0 ∧ ∃ n' B', n' ≤ n + 1 ∧ LogR wc base d mb n' (x.append (segN dir op) zs).2 p dir cp [] op A B' ∧ Step2 w wc A B A B')
  case first =>
    go_region_held3 (fun W => W.cell? ⟨p, 0, none⟩ = some (.pointer (some ⟨d, 0, none⟩)) ∧ W.cell? ⟨p, 4, none⟩ = some (.int .i64 (op : Int))) (go_keep) (first
      | (go_at_call 54; refine HSG.out.mono ?_; rintro e w1 ⟨rfl, hg1⟩; have HG1 : Hid (w.grownBy w1 none) := HGD.out.trans hg1; have c0' := (HW.out.kept HG1.out (by simp)).cells.1; have c4' := (HW.out.kept HG1.out (by simp)).cells.2.2.2.2; clear hg1)
      | (go_at_call 27; refine (HAP.out _ HG1.out).mono ?_; rintro e w2 ⟨rfl, hx2⟩; have HX2 : Hid (∃ n' B', n' ≤ n + 1 ∧ LogR w2 base d mb n' (x.append (segN dir op) zs).2 p dir cp [] op A B' ∧ Step2 w w2 A B A B') := hx2; obtain ⟨c0'', c4''⟩ := HCELL.out w2 hx2; clear hx2))
    all_goals (go_wp2; go_meet)
    all_goals exact ⟨rfl, HX2.out⟩
  case rest =>
    obtain ⟨rfl, n', B', hn', hL', hS'⟩ := hcut
    have HL' : Hid (LogR wc base d mb n' (x.append (segN dir op) zs).2 p dir cp [] op A B') := hL'
    have HS' : Hid (Step2 w wc A B A B') := hS'
    obtain ⟨a4, k4, hW4, hso4, hA4, hB4⟩ := hL'.wal
    have HD0 := fun w => w_done0 w
    have HHF : Hid (Calls Tryz.prog 50 #[.pointer (some ⟨p, 0, none⟩)] wc fun e w' => e = .returned (.bool (isOpen [] op)) ∧ ∃ k, w' = wc.drewN k) := w_hasFile p d dir cp a4 k4 [] op wc hW4 hso4.1 (by simp)
    have HW4 : Hid (WRow wc p d dir cp (.slice a4 0 k4) (op : Int)) := hW4
    have HSO4 : Hid (TailOk wc a4 k4) := hso4.2 rfl
    have HA4 : Hid (A p ∧ ∀ y, a4 = some y → A y.block ∧ y.block ≠ p) := ⟨hA4, hB4⟩
    clear hL' hS' hW4 hso4 hA4 hB4 HSG HAP
    go_wp2_with fail
    refine HHF.out.mono ?_
    rintro e w5 ⟨rfl, kq, rfl⟩
    obtain ⟨wk, ewk⟩ : ∃ wk, wk = wc.drewN kq := ⟨_, rfl⟩
    have hgk : wc.grownBy wk none := by rw [ewk]; exact gb_drewN wc kq
    have HLk : Hid (LogR wk base d mb n' (x.append (segN dir op) zs).2 p dir cp [] op A B') := HL'.out.grown hgk
    have HSk : Hid (Step2 w wk A B A B') := HS'.out.trans (Step2.grown A B' hgk)
    have HWk : Hid (WRow wk p d dir cp (.slice a4 0 k4) (op : Int)) := HW4.out.kept hgk (by simp)
    have HSOk : Hid (TailOk wk a4 k4) := TailOk.grown HSO4.out hgk
    rw [← ewk]
    clear ewk hgk HHF HL' HS' HW4 HSO4
    have ho : isOpen [] op = false := rfl
    rw [ho]
    have hWd : WRow (wk.alloc (.cells #[.int .i64 (op : Int)] 3)).drew p d dir cp (.slice a4 0 k4) (op : Int) := (HWk.out.alloc _).drew
    have x3 := HWk.out.cells.2.2.2.1
    have x4 := HWk.out.cells.2.2.2.2
    have y3 : (wk.alloc (.cells #[.int .i64 (op : Int)] 3)).cell? ⟨p, 3, none⟩ = some (.slice a4 0 k4) := hWd.cells.2.2.2.1
    have y4 : (wk.alloc (.cells #[.int .i64 (op : Int)] 3)).cell? ⟨p, 4, none⟩ = some (.int .i64 (op : Int)) := hWd.cells.2.2.2.2
    have HWd : Hid (WRow (wk.alloc (.cells #[.int .i64 (op : Int)] 3)).drew p d dir cp (.slice a4 0 k4) (op : Int)) := hWd
    have HOW : Hid (TailOk (wk.alloc (.cells #[.int .i64 (op : Int)] 3)).drew a4 k4) := TailOk.grown HSOk.out (gb_drew (World.grownBy_alloc wk _ none))
    have HPN : Hid (some p ≠ a4.map (·.block)) := by
      cases a4 with
      | none => exact (by simp : some p ≠ none)
      | some y => exact fun e => (HA4.out.2 y rfl).2 (Option.some.inj e).symm
    have HIL : Hid (SRd intE (wk.alloc (.cells #[.int .i64 (op : Int)] 3)).drew (some ⟨wk.heap.size, 0, none⟩) [(op : Int)]) := ilit wk.drew [(op : Int)]
    clear hWd ho
    have HSTEP : Hid (∀ a3 c3 w3, SRd intE w3 a3 [(op : Int)] → (wk.alloc (.cells #[.int .i64 (op : Int)] 3)).drew.grownBy w3 (a4.map (·.block)) → (∀ y, a3 = some y → (a4.map (·.block) = some y.block ∨ (wk.alloc (.cells #[.int .i64 (op : Int)] 3)).drew.heap.size ≤ y.block) ∧ y.block < w3.heap.size) → w3.cell? ⟨p, 3, none⟩ = some (.slice a4 0 k4) ∧ w3.frozen? ⟨p, 3, none⟩ = false ∧ ∃ A', LogR (w3.setCell ⟨p, 3, none⟩ (.slice a3 1 c3)) base d mb n' (x.append (segN dir op) zs).2 p dir cp [op] op A' B' ∧ Step2 wk (w3.setCell ⟨p, 3, none⟩ (.slice a3 1 c3)) A B' A' B') := by
      intro a3 c3 w3 ho3 hg3 hgg
      have hW3 := HWd.out.kept hg3 HPN.out
      exact ⟨hW3.cells.2.2.2.1, hW3.frozen 3, LogR.addSeg HLk.out HWk.out HA4.out.2 HA4.out.1 ho3 hg3 hgg⟩
    go_wp2_with fail
    go_region_law (refine step_append_tail rfl (.tmp 28) (.tmp 33) rfl a4 k4 (by simp [Act.eval]) HOW.out ⟨wk.heap.size, 0, none⟩ (op : Int) (by simp [Act.eval]) HIL.out ?_; intro a3 c3 w3 ho3 hg3 hgg hn3; obtain ⟨s3, z3, hx3⟩ := HSTEP.out a3 c3 w3 ho3 hg3 hgg; have HX3 : Hid (∃ A', LogR (w3.setCell ⟨p, 3, none⟩ (.slice a3 1 c3)) base d mb n' (x.append (segN dir op) zs).2 p dir cp [op] op A' B' ∧ Step2 wk (w3.setCell ⟨p, 3, none⟩ (.slice a3 1 c3)) A B' A' B') := hx3; clear ho3 hg3 hgg hn3 hx3)
    all_goals go_wp2_with fail
    all_goals refine (HD0 _).mono ?_
    all_goals rintro e w1 ⟨rfl, rfl⟩
    all_goals go_wp2
    all_goals go_end0
    all_goals (obtain ⟨A', h1, h2⟩ := HX3.out; exact ⟨rfl, n', A', B', hn', h1, HSk.out.trans h2⟩)
end Go.Proofs.YtbhffjeoakalbaaGreatDoor

/- A log whose slice of numbers may be the empty end of another one: Append, Sync. -/
namespace Go.Proofs.YtbhffjeoakalbaaGreatDoor
open Go.RowKit Go.Maps Go.Sort
set_option linter.unusedVariables false
set_option maxRecDepth 20000

set_option maxHeartbeats 8000000 in
theorem w_append1R (base d mb n : Nat) (x : DSt) (p q r : Nat) (dir cp : ByteArray) (op : Nat) (A B : Nat → Prop) (ad : Addr) (zs : List Int) (M cd : Nat) (w : World) (hdir : dirB dir = true) (ht : Tab w) (hf : Far A B) (h : LogR w base d mb n x p dir cp [] op A B) (hon : x.off = false) (hset : x.set = false) (hok : x.ok) (hw : x.wn ≤ 999999990) (hop : op < 99999998) (hn : n < 1048576) (hq : w.cell? ⟨q, 0, none⟩ = some (.pointer (some ⟨p, 0, none⟩))) (hqA : ¬ A q ∧ ¬ B q) (hrc : w.cell? ⟨r, 0, none⟩ = some (.slice (some ad) M cd)) (hrA : ¬ A r ∧ ¬ B r) (hr : SRd byteE w (some ad) (frameR zs)) (hM : (frameR zs).length = M) (hM0 : M ≠ 0) (hby : ∀ z ∈ frameR zs, 0 ≤ z ∧ z ≤ 255) (hlen : (oldV (rollX x dir op).1.V (segN dir (rollX x dir op).2)).1.length + M ≤ 4194304) (hb : base ≤ w.heap.size) (had : ¬ A ad.block ∧ ¬ B ad.block) (hadl : ad.block < w.heap.size) :
    Calls Tryz.prog 47 #[.pointer (some ⟨q, 0, none⟩), .pointer (some ⟨r, 0, none⟩)] w fun e w' => e = .returned (.tuple #[]) ∧ ∃ n' A' B', n' ≤ n + 1 ∧ LogR w' base d mb n' (appX x dir op zs) p dir cp [(rollX x dir op).2] (rollX x dir op).2 A' B' ∧ Step2 w w' A B A' B' := by
  have HRL : Hid (Calls Tryz.prog 48 #[.pointer (some ⟨p, 0, none⟩)] w fun e w' => e = .returned (.tuple #[]) ∧ ∃ n' B', n' ≤ n ∧ LogR w' base d mb n' (rollX x dir op).1 p dir cp [] (rollX x dir op).2 A B' ∧ Step2 w w' A B A B') := w_rollR base d mb n x p dir cp [] op A B w hdir ht h hon hset hok (by omega)
  have hrx := rollX_on x dir op hon hset hok hw
  have hql : q < w.heap.size := cell_lt hq
  have hrl : r < w.heap.size := cell_lt hrc
  clear h
  go_enter Tryz.func47, Tryz.ntmps47
  go_wp2_with fail
  refine HRL.out.mono ?_
  rintro e w1 ⟨rfl, n1, B1, hn1, hL1, hS1⟩
  have ht1 := ht.step hS1 hf
  have q1 : w1.cell? ⟨q, 0, none⟩ = some (.pointer (some ⟨p, 0, none⟩)) := cell_kept hS1.kept hql (fun h => h.elim hqA.1 hqA.2) hq
  have r1 : w1.cell? ⟨r, 0, none⟩ = some (.slice (some ad) M cd) := cell_kept hS1.kept hrl (fun h => h.elim hrA.1 hrA.2) hrc
  have HWR : Hid (Calls Tryz.prog 49 #[.pointer (some ⟨p, 0, none⟩), .slice (some ad) M cd] w1 fun e w' => e = .returned (.tuple #[]) ∧ ∃ n' A' B', n' ≤ n1 + 1 ∧ LogR w' base d mb n' (appX x dir op zs) p dir cp [(rollX x dir op).2] (rollX x dir op).2 A' B' ∧ Step2 w1 w' A B1 A' B') := w_writeR base d mb n1 (rollX x dir op).1 p dir cp (rollX x dir op).2 A B1 ad (frameR zs) M cd w1 hdir ht1.1 hL1 hrx.1 hrx.2.1 hrx.2.2.1 (by have := hrx.2.2.2.2.2; omega) (by omega) (srd_kept hr hS1.kept hadl (fun h => h.elim had.1 had.2)) hM hby hlen (Nat.le_trans hb hS1.kept.size) (fun h => had.2 (hS1.oldB _ hadl h)) (Nat.lt_of_lt_of_le hadl hS1.kept.size)
  have HS1 : Hid (Step2 w w1 A B A B1) := hS1
  clear hS1 hL1 ht1 HRL hq hrc
  go_wp2_with fail
  refine HWR.out.mono ?_
  rintro e w2 ⟨rfl, n2, A2, B2, hn2, hL2, hS2⟩
  have HR2 : Hid (n2 ≤ n + 1 ∧ LogR w2 base d mb n2 (appX x dir op zs) p dir cp [(rollX x dir op).2] (rollX x dir op).2 A2 B2 ∧ Step2 w w2 A B A2 B2) := ⟨by omega, hL2, HS1.out.trans hS2⟩
  clear hn2 hL2 hS2 HWR
  go_wp2
  go_end0
  exact ⟨rfl, n2, A2, B2, HR2.out⟩
theorem LogR.cell37 {w : World} {base d mb n : Nat} {x : DSt} {p : Nat} {dir cp : ByteArray} {segs : List Nat} {op s : Nat} {A B : Nat → Prop} {u : Value} (h : LogR w base d mb n x p dir cp segs op A B) (hA : ¬ A s) (hB : ¬ B s) : LogR (w.setCell ⟨s, 0, none⟩ u) base d mb n x p dir cp segs op A B ∧ w.grownBy (w.setCell ⟨s, 0, none⟩ u) (some s) := by
  have hg : w.grownBy (w.setCell ⟨s, 0, none⟩ u) (some s) := gb_set rfl
  have hk : Kept w (w.setCell ⟨s, 0, none⟩ u) (fun k => k = s) := Kept.of hg (fun k hk => by cases hk; rfl)
  exact ⟨⟨h.disk.others hk (fun k hb e => hB (e ▸ hb)), h.wal.kept h.ltA hk (fun k ha e => hA (e ▸ ha)), h.apart, fun k hb => Nat.lt_of_lt_of_le (h.ltB k hb) hg.size, fun k ha => Nat.lt_of_lt_of_le (h.ltA k ha) hg.size⟩, hg⟩
/-- What Append leaves. -/
def AppOutR (w : World) (base d mb n : Nat) (x : DSt) (p : Nat) (dir cp : ByteArray) (op : Nat) (A B : Nat → Prop) (rec : List Int) (e : Ending) (w' : World) : Prop := e = .returned (.int .i64 0) ∧ ∃ n' A' B', n' ≤ n + 1 ∧ LogR w' base d mb n' (appX x dir op rec) p dir cp [(rollX x dir op).2] (rollX x dir op).2 A' B' ∧ Step2 w w' A B A' B'
set_option maxHeartbeats 8000000 in
theorem w_appendR (base d mb n : Nat) (x : DSt) (p : Nat) (dir cp : ByteArray) (op : Nat) (A B : Nat → Prop) (a : Option Addr) (zs : List Int) (L cap : Nat) (w : World) (hdir : dirB dir = true) (ht : Tab w) (hf : Far A B) (h : LogR w base d mb n x p dir cp [] op A B) (hon : x.off = false) (hset : x.set = false) (hok : x.ok) (hw : x.wn ≤ 999999990) (hop : op < 99999998) (hn : n < 1048576) (hr : Rd w a zs) (hL : zs.length = L) (hnil : a = none → cap = 0) (hz : L ≤ 65536) (hlen : (oldV (rollX x dir op).1.V (segN dir (rollX x dir op).2)).1.length + (frameR zs).length ≤ 4194304) (hb : base ≤ w.heap.size) :
    Calls Tryz.prog 17 #[.pointer (some ⟨p, 0, none⟩), .slice a L cap] w (AppOutR w base d mb n x p dir cp op A B zs) := by
  have hfl : flist zs = frameR zs := by unfold flist; rw [if_neg (by omega)]
  have hfc : fcode zs = 0 := by unfold fcode; rw [if_neg (by omega)]
  have hgq : w.grownBy (w.alloc (.cells #[.pointer (some ⟨p, 0, none⟩)] 36)) none := World.grownBy_alloc w _ none
  have HFR : Hid (Calls Tryz.prog 25 #[.slice a L cap] (w.alloc (.cells #[.pointer (some ⟨p, 0, none⟩)] 36)) fun e w' => ∃ v N c, e = .returned (.tuple #[.slice v N c, .int .i64 0]) ∧ Out (w.alloc (.cells #[.pointer (some ⟨p, 0, none⟩)] 36)) w' v N c (frameR zs) ∧ (w.alloc (.cells #[.pointer (some ⟨p, 0, none⟩)] 36)).grownBy w' none) := f_frame a zs L cap (frameR zs) 0 _ (hr.grown hgq (by simp)) hL hnil (by omega) hfl hfc
  have HL : Hid (LogR w base d mb n x p dir cp [] op A B) := h
  have HT : Hid (Tab w) := ht
  have HGQ : Hid (w.grownBy (w.alloc (.cells #[.pointer (some ⟨p, 0, none⟩)] 36)) none) := hgq
  have hmf : ∀ (fn : Fn) (first cap : Array Value) (w : World), (Instr.makeFunc fn first cap).run Tryz.prog w = .ok (.func fn first cap) w := fun _ _ _ _ => rfl
  have hs1 : ∀ (w : World) o, (w.alloc o).heap.size = w.heap.size + 1 := fun w o => Array.size_push _
  clear h ht hgq hr hfl hfc
  go_enter Tryz.func17, Tryz.ntmps17
  go_wp2_with fail
  refine HFR.out.mono ?_
  rintro e w1 ⟨fv, FN, fc, rfl, hout, hg1⟩
  obtain ⟨ad, rfl⟩ : ∃ ad, fv = some ad := by
    cases fv with
    | some ad => exact ⟨ad, rfl⟩
    | none =>
      exfalso
      have h1 := hout.1
      have h2 := framing.pos zs
      have h3 := hout.2.2.1 rfl
      have h4 := hout.2.2.2.1
      omega
  go_wp2_with fail
  obtain ⟨W3, eW3⟩ : ∃ W3, W3 = w1.alloc (.cells #[.slice (some ad) FN fc] 27) := ⟨_, rfl⟩
  obtain ⟨W4, eW4⟩ : ∃ W4, W4 = W3.alloc (.cells #[.int .i64 0] 37) := ⟨_, rfl⟩
  have hz0 : (w.alloc (.cells #[.pointer (some ⟨p, 0, none⟩)] 36)).heap.size = w.heap.size + 1 := hs1 _ _
  have hz1 := hg1.size
  rw [hz0] at hz1
  have hz3 : W3.heap.size = w1.heap.size + 1 := by rw [eW3, hs1]
  have hz4 : W4.heap.size = w1.heap.size + 2 := by rw [eW4, hs1, hz3]
  have hg13 : w1.grownBy W4 none := by rw [eW4, eW3]; exact (World.grownBy_alloc w1 _ none).trans (World.grownBy_alloc _ _ none)
  have hgw4 : w.grownBy W4 none := (HGQ.out.trans hg1).trans hg13
  have hq4 : W4.rowIs w.heap.size 36 1 (fun _ => .pointer (some ⟨p, 0, none⟩)) := (row1 w (.pointer (some ⟨p, 0, none⟩)) 36).of_block ((hg1.trans hg13).block _ (by rw [hz0]; omega) (by simp))
  have hr4 : W4.rowIs w1.heap.size 27 1 (fun _ => .slice (some ad) FN fc) := by
    rw [eW4, eW3]
    exact (row1 w1 (.slice (some ad) FN fc) 27).alloc _
  have hs4 : W4.rowIs (w1.heap.size + 1) 37 1 (fun _ => .int .i64 0) := by
    have := row1 W3 (.int .i64 0) 37
    rw [hz3] at this
    rw [eW4]
    exact this
  have hL4 := HL.out.grown hgw4
  have hold : ∀ k, w.heap.size ≤ k → ¬ A k ∧ ¬ B k := fun k hk => ⟨fun ha => by have := HL.out.ltA k ha; omega, fun hb => by have := HL.out.ltB k hb; omega⟩
  have had : w.heap.size ≤ ad.block := by have := hout.2.2.2.2 ad rfl; rw [hz0] at this; omega
  have hfne : frameR zs ≠ [] := by have h2 := framing.pos zs; intro e; rw [e] at h2; simp at h2
  have hadl : ad.block < w1.heap.size := rd_lt hout.2.1 hfne
  have hpos := framing.pos zs
  have HC := w_caught47 #[.pointer (some ⟨w.heap.size, 0, none⟩), .pointer (some ⟨w1.heap.size, 0, none⟩)] (fun w2 => ∃ n' A' B', n' ≤ n + 1 ∧ LogR w2 base d mb n' (appX x dir op zs) p dir cp [(rollX x dir op).2] (rollX x dir op).2 A' B' ∧ Step2 W4 w2 A B A' B') W3 (by
    rw [← eW4, hz3]
    refine (w_append1R base d mb n x p w.heap.size w1.heap.size dir cp op A B ad zs FN fc W4 hdir (HT.out.grown hgw4) hf hL4 hon hset hok hw hop hn (hq4.cell (i := 0) (by omega)) (hold _ (Nat.le_refl _)) (hr4.cell (i := 0) (by omega)) (hold _ (by omega)) (rd_srd (hout.2.1.grown hg13 (by simp))) hout.1 (by have := hout.1; omega) hout.2.1.2 (by have := hout.1; omega) (Nat.le_trans hb hgw4.size) (hold _ had) (Nat.lt_of_lt_of_le hadl hg13.size)).mono ?_
    rintro e w2 ⟨rfl, n', A', B', h1, h2, h3⟩
    refine ⟨rfl, ⟨n', A', B', h1, h2, h3⟩, ?_⟩
    have hs5 := hs4.of_block (h3.kept.block _ hs4.lt (fun h => h.elim (hold _ (by omega)).1 (hold _ (by omega)).2))
    exact ⟨hs5.cell (i := 0) (by omega), hs5.frozen 0⟩)
  rw [hz3] at HC
  have HC : Hid (Calls Tryz.prog 43 #[.func (.func 47) #[] #[.pointer (some ⟨w.heap.size, 0, none⟩), .pointer (some ⟨w1.heap.size, 0, none⟩)]] W3 fun e w' => e = .returned (.int .i64 0) ∧ ∃ w2, (∃ n' A' B', n' ≤ n + 1 ∧ LogR w2 base d mb n' (appX x dir op zs) p dir cp [(rollX x dir op).2] (rollX x dir op).2 A' B' ∧ Step2 W4 w2 A B A' B') ∧ w' = w2.setCell ⟨w1.heap.size + 1, 0, none⟩ (.int .i64 0)) := HC
  have HFIN : Hid (∀ w2, (∃ n' A' B', n' ≤ n + 1 ∧ LogR w2 base d mb n' (appX x dir op zs) p dir cp [(rollX x dir op).2] (rollX x dir op).2 A' B' ∧ Step2 W4 w2 A B A' B') → AppOutR w base d mb n x p dir cp op A B zs (.returned (.int .i64 0)) (w2.setCell ⟨w1.heap.size + 1, 0, none⟩ (.int .i64 0))) := by
    rintro w2 ⟨n', A', B', h1, h2, h3⟩
    refine ⟨rfl, n', A', B', h1, (h2.cell37 (fun ha => (hold _ (by omega)).1 (h3.oldA _ (by rw [hz4]; omega) ha)) (fun hb => (hold _ (by omega)).2 (h3.oldB _ (by rw [hz4]; omega) hb))).1, ((Step2.grown A B hgw4).trans h3).cell (by omega)⟩
  rw [← eW3]
  clear hz0 hz1 hz3 hz4 hg13 hgw4 hq4 hr4 hs4 hL4 hold had hfne hadl eW3 eW4 hout hg1 hpos HFR
  refine HC.out.mono ?_
  rintro e w3 ⟨rfl, w2, hx, rfl⟩
  have HX : Hid (AppOutR w base d mb n x p dir cp op A B zs (.returned (.int .i64 0)) (w2.setCell ⟨w1.heap.size + 1, 0, none⟩ (.int .i64 0))) := HFIN.out w2 hx
  clear hx HC HFIN
  go_wp2
  go_ret
  exact HX.out
set_option maxHeartbeats 8000000 in
theorem w_sync1R (base d mb n : Nat) (x : DSt) (p q : Nat) (dir cp : ByteArray) (segs : List Nat) (op : Nat) (A B : Nat → Prop) (w : World) (hdir : dirB dir = true) (ht : Tab w) (h : LogR w base d mb n x p dir cp segs op A B) (hok : x.ok) (hop : op < 99999999) (hs0 : (x.sync (segN dir op)).1 = 0) (hq : w.rowIs q 36 1 (fun _ => .pointer (some ⟨p, 0, none⟩))) (hqA : ¬ A q ∧ ¬ B q) :
    Calls Tryz.prog 51 #[.pointer (some ⟨q, 0, none⟩)] w fun e w' => e = .returned (.tuple #[]) ∧ ∃ n' B', n' ≤ n ∧ LogR w' base d mb n' (x.sync (segN dir op)).2 p dir cp segs op A B' ∧ Step2 w w' A B A B' := by
  have hds : dir.size ≤ 32 := by simp only [dirB, Bool.and_eq_true, decide_eq_true_eq] at hdir; exact hdir.2
  have hnm := seg_name hdir op
  have HL : Hid (LogR w base d mb n x p dir cp segs op A B) := h
  obtain ⟨a, c, hW, _⟩ := h.wal
  have HW : Hid (WRow w p d dir cp (.slice a segs.length c) (op : Int)) := hW
  have HQ : Hid (w.rowIs q 36 1 (fun _ => .pointer (some ⟨p, 0, none⟩))) := hq
  have HS0 : Hid ((x.sync (segN dir op)).1 = 0) := hs0
  have c0 := hW.cells.1
  have c4 := hW.cells.2.2.2.2
  have cq : w.cell? ⟨q, 0, none⟩ = some (.pointer (some ⟨p, 0, none⟩)) := hq.cell (i := 0) (by omega)
  have HD0 := fun w => w_done0 w
  have HGD : Hid (w.grownBy w.drew none) := gb_drew (World.grownBy.refl _ _)
  have HSG : Hid (Calls Tryz.prog 54 #[.pointer (some ⟨p, 0, none⟩), .int .i64 (op : Int)] w.drew fun e w' => e = .returned (.string (segN dir op)) ∧ w.drew.grownBy w' none) := w_segment p d dir cp _ _ op (by omega) _ (by omega) (ht.grown HGD.out) (hW.kept HGD.out (by simp))
  have HSY : Hid (∀ w1, w.grownBy w1 none → Calls Tryz.prog 53 #[.pointer (some ⟨d, 0, none⟩), .string (segN dir op)] w1 fun e w' => e = .returned (.int .i64 0) ∧ ∃ n' B', n' ≤ n ∧ LogR w' base d mb n' (x.sync (segN dir op)).2 p dir cp segs op A B' ∧ Step2 w w' A B A B') := fun w1 hg => by
    have h1 := HL.out.grown hg
    refine (x_syncN base d mb n x B (segN dir op) w1 h1.disk hok hnm).mono ?_
    rintro e w' ⟨rfl, n', B', hn', hd', hst⟩
    obtain ⟨B'', h2, h3⟩ := h1.write hd' hst
    exact ⟨by rw [HS0.out], n', B'', hn', h2, (Step2.grown A B hg).trans h3⟩
  have HCELL : Hid (∀ w2, (∃ n' B', n' ≤ n ∧ LogR w2 base d mb n' (x.sync (segN dir op)).2 p dir cp segs op A B' ∧ Step2 w w2 A B A B') → w2.cell? ⟨p, 0, none⟩ = some (.pointer (some ⟨d, 0, none⟩)) ∧ w2.cell? ⟨p, 4, none⟩ = some (.int .i64 (op : Int)) ∧ w2.cell? ⟨q, 0, none⟩ = some (.pointer (some ⟨p, 0, none⟩))) := by
    rintro w2 ⟨n', B', _, h2, h3⟩
    obtain ⟨a2, c2, hW2, _⟩ := h2.wal
    exact ⟨hW2.cells.1, hW2.cells.2.2.2.2, cell_kept h3.kept HQ.out.lt (fun h => h.elim hqA.1 hqA.2) cq⟩
  clear h hW hq hs0
  go_enter Tryz.func51, Tryz.ntmps51
  go_wp2_with fail
  go_region_held3 (fun W => W.cell? ⟨q, 0, none⟩ = some (.pointer (some ⟨p, 0, none⟩)) ∧ W.cell? ⟨p, 0, none⟩ = some (.pointer (some ⟨d, 0, none⟩)) ∧ W.cell? ⟨p, 4, none⟩ = some (.int .i64 (op : Int))) (go_keep) (first
    | (go_at_call 54; refine HSG.out.mono ?_; rintro e w1 ⟨rfl, hg1⟩; have HG1 : Hid (w.grownBy w1 none) := HGD.out.trans hg1; have c0' := (HW.out.kept HG1.out (by simp)).cells.1; have c4' := (HW.out.kept HG1.out (by simp)).cells.2.2.2.2; have cq' : w1.cell? ⟨q, 0, none⟩ = some (.pointer (some ⟨p, 0, none⟩)) := HG1.out.cell cq (by simp); clear hg1)
    | (go_at_call 53; refine (HSY.out _ HG1.out).mono ?_; rintro e w2 ⟨rfl, hx2⟩; have HX2 : Hid (∃ n' B', n' ≤ n ∧ LogR w2 base d mb n' (x.sync (segN dir op)).2 p dir cp segs op A B' ∧ Step2 w w2 A B A B') := hx2; obtain ⟨c0'', c4'', cq''⟩ := HCELL.out w2 hx2; clear hx2)
    | (go_at_call 52; refine (HD0 _).mono ?_; rintro e w3 ⟨rfl, rfl⟩))
  all_goals go_wp2
  all_goals go_end0
  all_goals exact ⟨rfl, HX2.out⟩
def SyncOutR (w : World) (base d mb n : Nat) (x : DSt) (p : Nat) (dir cp : ByteArray) (segs : List Nat) (op : Nat) (A B : Nat → Prop) (e : Ending) (w' : World) : Prop := e = .returned (.int .i64 0) ∧ ∃ n' B', n' ≤ n ∧ LogR w' base d mb n' (syncX x dir segs op) p dir cp segs op A B' ∧ Step2 w w' A B A B'
set_option maxHeartbeats 8000000 in
theorem w_syncR (base d mb n : Nat) (x : DSt) (p : Nat) (dir cp : ByteArray) (segs : List Nat) (op : Nat) (A B : Nat → Prop) (w : World) (hdir : dirB dir = true) (ht : Tab w) (h : LogR w base d mb n x p dir cp segs op A B) (hok : x.ok) (hop : op < 99999999) (hsg : segs.length ≤ 4194304) (hs0 : isOpen segs op = true → (x.sync (segN dir op)).1 = 0) :
    Calls Tryz.prog 19 #[.pointer (some ⟨p, 0, none⟩)] w (SyncOutR w base d mb n x p dir cp segs op A B) := by
  have hg0 : w.grownBy (w.alloc (.cells #[.pointer (some ⟨p, 0, none⟩)] 36)) none := World.grownBy_alloc w _ none
  have hL0 := h.grown hg0
  have HL : Hid (LogR w base d mb n x p dir cp segs op A B) := h
  have HT : Hid (Tab w) := ht
  have HS0 : Hid (isOpen segs op = true → (x.sync (segN dir op)).1 = 0) := hs0
  have HG0 : Hid (w.grownBy (w.alloc (.cells #[.pointer (some ⟨p, 0, none⟩)] 36)) none) := hg0
  obtain ⟨a, c, hW, hso, _⟩ := hL0.wal
  have HHF : Hid (Calls Tryz.prog 50 #[.pointer (some ⟨p, 0, none⟩)] (w.alloc (.cells #[.pointer (some ⟨p, 0, none⟩)] 36)) fun e w' => e = .returned (.bool (isOpen segs op)) ∧ ∃ k, w' = (w.alloc (.cells #[.pointer (some ⟨p, 0, none⟩)] 36)).drewN k) := w_hasFile p d dir cp a c segs op _ hW hso.1 (by omega)
  have hmf : ∀ (fn : Fn) (first cap : Array Value) (w : World), (Instr.makeFunc fn first cap).run Tryz.prog w = .ok (.func fn first cap) w := fun _ _ _ _ => rfl
  have hs1 : ∀ (w : World) o, (w.alloc o).heap.size = w.heap.size + 1 := fun w o => Array.size_push _
  clear h ht hg0 hL0 hW hso hs0
  go_enter Tryz.func19, Tryz.ntmps19
  go_wp2_with fail
  refine HHF.out.mono ?_
  rintro e w1 ⟨rfl, kq, rfl⟩
  obtain ⟨W3, eW3⟩ : ∃ W3, W3 = (w.alloc (.cells #[.pointer (some ⟨p, 0, none⟩)] 36)).drewN kq := ⟨_, rfl⟩
  have hg3 : w.grownBy W3 none := by rw [eW3]; exact gb_drewR HG0.out kq
  rw [← eW3]
  cases ho : isOpen segs op with
  | false =>
    have HX : Hid (SyncOutR w base d mb n x p dir cp segs op A B (.returned (.int .i64 0)) W3) := by
      refine ⟨rfl, n, B, Nat.le_refl _, ?_, Step2.grown A B hg3⟩
      unfold syncX
      rw [if_neg (by rw [ho]; simp)]
      exact HL.out.grown hg3
    clear hg3 eW3 HHF
    go_wp2
    go_ret
    exact HX.out
  | true =>
    obtain ⟨W4, eW4⟩ : ∃ W4, W4 = W3.alloc (.cells #[.int .i64 0] 37) := ⟨_, rfl⟩
    have hz3 : W3.heap.size = w.heap.size + 1 := by rw [eW3]; exact hs1 _ _
    have hz4 : W4.heap.size = w.heap.size + 2 := by rw [eW4, hs1, hz3]
    have hgw4 : w.grownBy W4 none := by rw [eW4]; exact hg3.trans (World.grownBy_alloc _ _ none)
    have hq4 : W4.rowIs w.heap.size 36 1 (fun _ => .pointer (some ⟨p, 0, none⟩)) := by
      rw [eW4, eW3]
      exact World.rowIs.alloc (w := (w.alloc (.cells #[.pointer (some ⟨p, 0, none⟩)] 36)).drewN kq) ((row1 w (.pointer (some ⟨p, 0, none⟩)) 36).of_block rfl) _
    have hs4 : W4.rowIs (w.heap.size + 1) 37 1 (fun _ => .int .i64 0) := by
      have := row1 W3 (.int .i64 0) 37
      rw [hz3] at this
      rw [eW4]
      exact this
    have hold : ∀ k, w.heap.size ≤ k → ¬ A k ∧ ¬ B k := fun k hk => ⟨fun ha => by have := HL.out.ltA k ha; omega, fun hb => by have := HL.out.ltB k hb; omega⟩
    have HC := w_caught51 #[.pointer (some ⟨w.heap.size, 0, none⟩)] (fun w2 => ∃ n' B', n' ≤ n ∧ LogR w2 base d mb n' (x.sync (segN dir op)).2 p dir cp segs op A B' ∧ Step2 W4 w2 A B A B') W3 (by
      rw [← eW4, hz3]
      refine (w_sync1R base d mb n x p w.heap.size dir cp segs op A B W4 hdir (HT.out.grown hgw4) (HL.out.grown hgw4) hok hop (HS0.out ho) hq4 (hold _ (Nat.le_refl _))).mono ?_
      rintro e w2 ⟨rfl, n', B', h1, h2, h3⟩
      refine ⟨rfl, ⟨n', B', h1, h2, h3⟩, ?_⟩
      have hs5 := hs4.of_block (h3.kept.block _ hs4.lt (fun h => h.elim (hold _ (by omega)).1 (hold _ (by omega)).2))
      exact ⟨hs5.cell (i := 0) (by omega), hs5.frozen 0⟩)
    rw [hz3] at HC
    have HC : Hid (Calls Tryz.prog 43 #[.func (.func 51) #[] #[.pointer (some ⟨w.heap.size, 0, none⟩)]] W3 fun e w' => e = .returned (.int .i64 0) ∧ ∃ w2, (∃ n' B', n' ≤ n ∧ LogR w2 base d mb n' (x.sync (segN dir op)).2 p dir cp segs op A B' ∧ Step2 W4 w2 A B A B') ∧ w' = w2.setCell ⟨w.heap.size + 1, 0, none⟩ (.int .i64 0)) := HC
    have HFIN : Hid (∀ w2, (∃ n' B', n' ≤ n ∧ LogR w2 base d mb n' (x.sync (segN dir op)).2 p dir cp segs op A B' ∧ Step2 W4 w2 A B A B') → SyncOutR w base d mb n x p dir cp segs op A B (.returned (.int .i64 0)) (w2.setCell ⟨w.heap.size + 1, 0, none⟩ (.int .i64 0))) := by
      rintro w2 ⟨n', B', h1, h2, h3⟩
      refine ⟨rfl, n', B', h1, ?_, ((Step2.grown A B hgw4).trans h3).cell (by omega)⟩
      unfold syncX
      rw [if_pos ho]
      exact (h2.cell37 (hold _ (by omega)).1 (fun hb => (hold _ (by omega)).2 (h3.oldB _ (by rw [hz4]; omega) hb))).1
    clear hz3 hz4 hgw4 hq4 hs4 hold eW3 eW4 hg3 HHF
    go_wp2_with fail
    refine HC.out.mono ?_
    rintro e w3 ⟨rfl, w2, hx, rfl⟩
    have HX : Hid (SyncOutR w base d mb n x p dir cp segs op A B (.returned (.int .i64 0)) (w2.setCell ⟨w.heap.size + 1, 0, none⟩ (.int .i64 0))) := HFIN.out w2 hx
    clear hx HC HFIN
    go_wp2
    go_ret
    exact HX.out
end Go.Proofs.YtbhffjeoakalbaaGreatDoor

