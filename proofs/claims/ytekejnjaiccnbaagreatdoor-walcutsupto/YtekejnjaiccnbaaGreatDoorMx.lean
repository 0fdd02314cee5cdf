/- Several texts in one: Wq, Wu. -/
import Derived.Test.YtekejnjaiccnbaaGreatDoorMw
import Derived.Deep.CutRange
/- Package wal: cut. -/
namespace Go.Proofs.YtekejnjaiccnbaaGreatDoor
open Go.RowKit Go.Maps Go.Sort
set_option linter.unusedVariables false
set_option maxRecDepth 20000

/-- Deleted, one behind the other. -/
def delAll (x : DSt) : List ByteArray → DSt
  | [] => x
  | s :: l => delAll (x.delete s).2 l
theorem delAll_snoc (x : DSt) (s : ByteArray) : ∀ l, delAll x (l ++ [s]) = ((delAll x l).delete s).2 := by
  intro l
  induction l generalizing x with
  | nil => rfl
  | cons t l ih => exact ih _
/-- What cut makes of the disk. -/
def cutX (x : DSt) (dir cp : ByteArray) (segs : List Nat) (op : Nat) (zs : List Int) : DSt := delAll (putX x dir (cpN dir op) zs) ((if cp = ⟨#[]⟩ then [] else [cp]) ++ segs.map (segN dir))
/-- In the midst of cut's deletions: the disk, and what is left of the struct's segments. -/
structure CutAt (w w' : World) (base d mb n : Nat) (x : DSt) (p : Nat) (dir cp : ByteArray) (left : List Nat) (op : Nat) (A B B' : Nat → Prop) (a : Option Addr) (c : Nat) : Prop where
  disk : DS w' base d mb n x B'
  row : WRow w' p d dir cp (.slice a left.length c) (op : Int) ∧ SRd intE w' a (nI left) ∧ left.length ≤ c ∧ ∀ y, a = some y → A y.block ∧ y.block ≠ p ∧ y.block < w'.heap.size ∧ y.spot = none
  apart : ∀ k, A k → ¬ B' k
  step : Step2 w w' A B A B'
  ltB : ∀ k, B' k → k < w'.heap.size
  ltA : ∀ k, A k → k < w'.heap.size
  own : A p
theorem LogAt.cutAt {w0 w : World} {base d mb n : Nat} {x : DSt} {p : Nat} {dir cp : ByteArray} {segs : List Nat} {op : Nat} {A B0 B : Nat → Prop} (h : LogAt w base d mb n x p dir cp segs op A B) (hs : Step2 w0 w A B0 A B) : ∃ a c, CutAt w0 w base d mb n x p dir cp segs op A B0 B a c := by
  obtain ⟨a, c, h1, h2, h3, h4⟩ := h.wal
  refine ⟨a, c, h.disk, ⟨h1, h2.rd, (sown_cap h2).1, fun y hy => ?_⟩, h.apart, hs, h.ltB, h.ltA, h3⟩
  subst hy
  obtain ⟨g, cap, e, _, hlt, _⟩ := h2.some (by simp)
  have e' : y = ⟨g, 0, none⟩ := by injection e with e; exact Option.some.inj e
  refine ⟨(h4 y rfl).1, (h4 y rfl).2, ?_, ?_⟩
  · rw [e']; exact hlt
  · rw [e']
theorem CutAt.grown {w0 w w' : World} {base d mb n : Nat} {x : DSt} {p : Nat} {dir cp : ByteArray} {left : List Nat} {op : Nat} {A B0 B : Nat → Prop} {a : Option Addr} {c : Nat} (h : CutAt w0 w base d mb n x p dir cp left op A B0 B a c) (hg : w.grownBy w' none) : CutAt w0 w' base d mb n x p dir cp left op A B0 B a c := by
  obtain ⟨h1, h2, h3, h4⟩ := h.row
  exact ⟨DV.kept h.disk hg, ⟨h1.kept hg (by simp), h2.grown hg (by simp), h3, fun y hy => ⟨(h4 y hy).1, (h4 y hy).2.1, Nat.lt_of_lt_of_le (h4 y hy).2.2.1 hg.size, (h4 y hy).2.2.2⟩⟩, h.apart, h.step.trans (Step2.grown A B hg), fun k hk => Nat.lt_of_lt_of_le (h.ltB k hk) hg.size, fun k hk => Nat.lt_of_lt_of_le (h.ltA k hk) hg.size, h.own⟩
theorem srd_keptI {w w' : World} {X : Nat → Prop} {a : Option Addr} {l : List Int} (h : SRd intE w a l) (hk : Kept w w' X) (hb : ∀ y, a = some y → y.block < w.heap.size ∧ ¬ X y.block) : SRd intE w' a l := by
  rcases h with h | ⟨b, off, e, h⟩
  · exact .inl h
  · refine .inr ⟨b, off, e, fun j v hj => ?_⟩
    exact cell_kept hk (hb _ e).1 (hb _ e).2 (h j v hj)
theorem CutAt.write {w0 w w' : World} {base d mb n n' : Nat} {x x' : DSt} {p : Nat} {dir cp : ByteArray} {left : List Nat} {op : Nat} {A B0 B B' : Nat → Prop} {a : Option Addr} {c : Nat} (h : CutAt w0 w base d mb n x p dir cp left op A B0 B a c) (hd : DS w' base d mb n' x' B') (hs : Step w w' B B') : ∃ B'', CutAt w0 w' base d mb n' x' p dir cp left op A B0 B'' a c := by
  obtain ⟨h1, h2, h3, h4⟩ := h.row
  have hX : ∀ k, A k → ¬ B k := h.apart
  refine ⟨fun k => B' k ∧ k < w'.heap.size, hd.bound, ⟨h1.of_block (hs.1.block p h1.lt (hX p h.own)), srd_keptI h2 hs.1 (fun y hy => ⟨(h4 y hy).2.2.1, hX _ (h4 y hy).1⟩), h3, fun y hy => ⟨(h4 y hy).1, (h4 y hy).2.1, Nat.lt_of_lt_of_le (h4 y hy).2.2.1 hs.1.size, (h4 y hy).2.2.2⟩⟩, fun k ha hb => h.apart k ha (hs.2 k (h.ltA k ha) hb.1), h.step.trans ⟨hs.1.mono (fun k _ hb => .inr hb), fun k hk hb => hs.2 k hk hb.1, fun k _ ha => ha⟩, fun k hb => hb.2, fun k ha => Nat.lt_of_lt_of_le (h.ltA k ha) hs.1.size, h.own⟩
/-- A cell of the struct is written. -/
theorem CutAt.set {w0 w : World} {base d mb n : Nat} {x : DSt} {p : Nat} {dir cp cp' : ByteArray} {left left' : List Nat} {op op' : Nat} {A B0 B : Nat → Prop} {i : Nat} {u : Value} {a a' : Option Addr} {c c' : Nat} (h : CutAt w0 w base d mb n x p dir cp left op A B0 B a c) (hW : WRow (w.setCell ⟨p, i, none⟩ u) p d dir cp' (.slice a' left'.length c') (op' : Int)) (hr : SRd intE w a' (nI left')) (hc : left'.length ≤ c') (ha : ∀ y, a' = some y → A y.block ∧ y.block ≠ p ∧ y.block < w.heap.size ∧ y.spot = none) : CutAt w0 (w.setCell ⟨p, i, none⟩ u) base d mb n x p dir cp' left' op' A B0 B a' c' := by
  have hg : w.grownBy (w.setCell ⟨p, i, none⟩ u) (some p) := gb_set rfl
  have hk : Kept w (w.setCell ⟨p, i, none⟩ u) (fun k => k = p) := Kept.of hg (fun k hk => by cases hk; rfl)
  exact ⟨h.disk.others hk (fun k hb e => by subst e; exact h.apart _ h.own hb), ⟨hW, hr.grown hg (fun y hy e => (ha y hy).2.1 (Option.some.inj e)), hc, fun y hy => ⟨(ha y hy).1, (ha y hy).2.1, Nat.lt_of_lt_of_le (ha y hy).2.2.1 hg.size, (ha y hy).2.2.2⟩⟩, h.apart, h.step.trans ⟨hk.mono (fun k _ e => by subst e; exact .inl h.own), fun k _ hb => hb, fun k _ ha => ha⟩, fun k hb => Nat.lt_of_lt_of_le (h.ltB k hb) hg.size, fun k ha => Nat.lt_of_lt_of_le (h.ltA k ha) hg.size, h.own⟩
theorem tail75n (w : World) (b off M C : Nat) (h : M + 1 ≤ C) : (Instr.slice 75 (.slice (some ⟨b, off, none⟩) (M + 1) C) (some (.int .i64 1)) none none).run Tryz.prog w = .ok (.slice (some (if C = 1 then ⟨b, off, none⟩ else ⟨b, off + 1, none⟩)) M (C - 1)) w := by
  rw [run_slice_l w 75 _ (M + 1) C (by rw [elem75]; exact Tryz.underlying75) .i64 1 (by omega) (by omega), elem75, Tryz.sizeOf3]
  by_cases hC : C = 1
  · subst hC
    simp [sliced, Result.andThen]
  · simp [sliced, Result.andThen, Addr.add, hC]
theorem srd_tail {w : World} {b off : Nat} {k : Int} {l : List Int} (h : SRd intE w (some ⟨b, off, none⟩) (k :: l)) (C : Nat) (hC : l.length + 1 ≤ C) : SRd intE w (some (if C = 1 then ⟨b, off, none⟩ else ⟨b, off + 1, none⟩)) l := by
  cases l with
  | nil => exact .inl rfl
  | cons z l =>
    rw [if_neg (by simp at hC; omega)]
    rcases h with h | ⟨b', off', e, h⟩
    · cases h
    · cases e
      refine .inr ⟨b, off + 1, rfl, fun j v hj => ?_⟩
      have := h (j + 1) v (by simpa [Elem.flat, intE] using hj)
      rw [show off + 1 + j = off + (j + 1) by omega]
      exact this
end Go.Proofs.YtekejnjaiccnbaaGreatDoor

/- Package wal: cut, done wholly. -/
namespace Go.Proofs.YtekejnjaiccnbaaGreatDoor
open Go.RowKit Go.Maps Go.Sort
set_option linter.unusedVariables false
set_option maxRecDepth 20000

/-- Each of these files is there when it is to be deleted. -/
def DelOk : DSt → List ByteArray → Prop
  | _, [] => True
  | x, s :: l => (x.delete s).1 = 0 ∧ x.ok ∧ nameB s = true ∧ DelOk (x.delete s).2 l
theorem DelOk.app : ∀ (l r : List ByteArray) (x : DSt), DelOk x (l ++ r) → DelOk (delAll x l) r
  | [], _, _, h => h
  | _ :: l, r, _, h => DelOk.app l r _ h.2.2.2
theorem delAll_app (x : DSt) : ∀ l r, delAll x (l ++ r) = delAll (delAll x l) r := by
  intro l r
  induction l generalizing x with
  | nil => rfl
  | cons t l ih => exact ih _
def leftN (w : World) (p : Nat) : Nat := match w.cell? ⟨p, 3, none⟩ with
  | some (.slice _ n _) => n
  | _ => 0
theorem CutAt.left {w0 w : World} {base d mb n : Nat} {x : DSt} {p : Nat} {dir cp : ByteArray} {left : List Nat} {op : Nat} {A B0 B : Nat → Prop} {a : Option Addr} {c : Nat} (h : CutAt w0 w base d mb n x p dir cp left op A B0 B a c) : leftN w p = left.length := by
  obtain ⟨h1, _⟩ := h.row
  unfold leftN
  rw [h1.cells.2.2.2.1]
/-- One deletion. -/
theorem CutAt.del {w0 w : World} {base d mb n : Nat} {x : DSt} {p : Nat} {dir cp : ByteArray} {left : List Nat} {op : Nat} {A B0 B : Nat → Prop} {s : ByteArray} {a : Option Addr} {c : Nat} (h : CutAt w0 w base d mb n x p dir cp left op A B0 B a c) (hok : x.ok) (hnm : nameB s = true) (h0 : (x.delete s).1 = 0) :
    Calls Tryz.prog 91 #[.pointer (some ⟨d, 0, none⟩), .string s] w fun e w' => e = .returned (.int .i64 0) ∧ ∃ n' B', n' ≤ n ∧ CutAt w0 w' base d mb n' (x.delete s).2 p dir cp left op A B0 B' a c := by
  refine (x_deleteN base d mb n x B s w h.disk hok hnm).mono ?_
  rintro e w' ⟨rfl, n', B', hn', hd', hst⟩
  obtain ⟨B'', h2⟩ := h.write hd' hst
  exact ⟨by rw [h0], n', B'', hn', h2⟩
/-- The loop of cut: all segments go. -/
def CutEnd (w : World) (base d mb n : Nat) (x : DSt) (A B : Nat → Prop) (w' : World) : Prop := ∃ n' B', n' ≤ n ∧ DS w' base d mb n' x B' ∧ Step2 w w' A B A B' ∧ (∀ k, A k → ¬ B' k) ∧ (∀ k, B' k → k < w'.heap.size)
set_option maxHeartbeats 8000000 in
theorem w_cut (base d mb n : Nat) (x : DSt) (p : Nat) (dir cp : ByteArray) (segs : List Nat) (op : Nat) (A B : Nat → Prop) (ad : Addr) (zs : List Int) (M cd : Nat) (w : World) (hdir : dirB dir = true) (ht : Tab w) (hf : Far A B) (h : LogAt w base d mb n x p dir cp segs op A B) (hc : x.Calm) (hw : x.wn ≤ 999999980) (hop : op < 99999998) (hn : n < 1048574) (hnew : x.V (newN dir) = none) (hsg : segs.length ≤ 4194304) (hs8 : ∀ k ∈ segs, k < 100000000) (hcp : cp.size ≤ 64) (hdel : DelOk (putX x dir (cpN dir op) zs) ((if cp = ⟨#[]⟩ then [] else [cp]) ++ segs.map (segN dir))) (hr : SRd byteE w (some ad) zs) (hM : zs.length = M) (hby : ∀ z ∈ zs, 0 ≤ z ∧ z ≤ 255) (hlen : M ≤ 4194304) (hb : base ≤ w.heap.size) (had : ¬ B ad.block) :
    Calls Tryz.prog 58 #[.pointer (some ⟨p, 0, none⟩), .slice (some ad) M cd] w fun e w' => e = .returned (.tuple #[]) ∧ CutEnd w base d mb (n + 2) (cutX x dir cp segs op zs) A B w' := by
  have hds : dir.size ≤ 32 := by simp only [dirB, Bool.and_eq_true, decide_eq_true_eq] at hdir; exact hdir.2
  have HD0 := fun w => w_done0 w
  have HL : Hid (LogAt w base d mb n x p dir cp segs op A B) := h
  have HDEL : Hid (DelOk (putX x dir (cpN dir op) zs) ((if cp = ⟨#[]⟩ then [] else [cp]) ++ segs.map (segN dir))) := hdel
  have HS8 : Hid (∀ k ∈ segs, k < 100000000) := hs8
  have HT : Hid (Tab w) := ht
  have HF : Hid (Far A B) := hf
  have HDIR : Hid (dirB dir = true) := hdir
  obtain ⟨a, c, hW, _⟩ := h.wal
  have c4 := hW.cells.2.2.2.2
  have HCN : Hid (Calls Tryz.prog 99 #[.pointer (some ⟨p, 0, none⟩), .int .i64 (op : Int)] w fun e w' => e = .returned (.string (cpN dir op)) ∧ w.grownBy w' none) := w_cpoint p d dir cp _ _ op (by omega) w (by omega) ht hW
  have HPT : Hid (∀ w1, w.grownBy w1 none → Calls Tryz.prog 100 #[.pointer (some ⟨p, 0, none⟩), .string (cpN dir op), .slice (some ad) M cd] w1 fun e w' => e = .returned (.tuple #[]) ∧ ∃ n' B', n' ≤ n + 2 ∧ LogAt w' base d mb n' (putX x dir (cpN dir op) zs) p dir cp segs op A B' ∧ Step2 w w' A B A B') := fun w1 hg => by
    refine (w_put base d mb n x p dir cp (cpN dir op) segs op A B ad zs M cd w1 hdir (HL.out.grown hg) hc hw hn hnew (cp_name hdir op) (hr.grown hg (by simp)) hM hby hlen (Nat.le_trans hb hg.size) had).mono ?_
    rintro e w' ⟨rfl, n', B', h1, h2, h3⟩
    exact ⟨rfl, n', B', h1, h2, (Step2.grown A B hg).trans h3⟩
  clear h hW hdel hs8 hr hby had ht hf hdir hM hnew
  go_enter Tryz.func58, Tryz.ntmps58
  go_wp2_with fail
  refine HCN.out.mono ?_
  rintro e w1 ⟨rfl, hg1⟩
  go_wp2_with fail
  refine (HPT.out _ hg1).mono ?_
  rintro e w2 ⟨rfl, n2, B2, hn2, hL2, hS2⟩
  obtain ⟨a2, k2, hW2, _⟩ := hL2.wal
  have y4 := hW2.cells.2.2.2.2
  have z4 := hW2.frozen 4
  have hSO := hL2.setOpen (op + 1) ((op : Int) + 1) (by omega)
  obtain ⟨aa, ac, hC3⟩ := hSO.1.cutAt (hS2.trans hSO.2)
  have HC3 : Hid (CutAt w (w2.setCell ⟨p, 4, none⟩ (.int .i64 ((op : Int) + 1))) base d mb n2 (putX x dir (cpN dir op) zs) p dir cp segs (op + 1) A B B2 aa ac) := hC3
  obtain ⟨a3, k3, hW3, _⟩ := hSO.1.wal
  have y2 := hW3.cells.2.2.1
  clear hg1 hL2 hS2 hW2 hSO hW3 HCN HPT hC3
  go_upto_if 26 with fail
  go_cut [] from 5 (fun wc => ∃ n4 B4, n4 ≤ n + 2 ∧ CutAt w wc base d mb n4 (delAll (putX x dir (cpN dir op) zs) (if cp = ⟨#[]⟩ then [] else [cp])) p dir cp segs (op + 1) A B B4 aa ac)
  case first =>
    by_cases hcp0 : cp = ⟨#[]⟩
    · have q0 : cp.toList.isEmpty = true := by rw [str_none, hcp0]; rfl
      rw [q0, Bool.not_true]
      go_wp2_with fail
      go_meet
      exact ⟨n2, B2, hn2, by rw [if_pos hcp0]; exact HC3.out⟩
    · have q0 : cp.toList.isEmpty = false := by rw [str_none]; simp [hcp0]
      have hd := HDEL.out
      rw [if_neg hcp0] at hd
      obtain ⟨d1, d2, d3, _⟩ := hd
      have HDL : Hid (Calls Tryz.prog 91 #[.pointer (some ⟨d, 0, none⟩), .string cp] (w2.setCell ⟨p, 4, none⟩ (.int .i64 ((op : Int) + 1))).drew fun e w' => e = .returned (.int .i64 0) ∧ ∃ n' B', n' ≤ n2 ∧ CutAt w w' base d mb n' ((putX x dir (cpN dir op) zs).delete cp).2 p dir cp segs (op + 1) A B B' aa ac) := (HC3.out.grown (gb_drew (World.grownBy.refl _ _))).del d2 d3 d1
      obtain ⟨hW5, _⟩ := HC3.out.row
      have x0 := hW5.cells.1
      have x2 := hW5.cells.2.2.1
      have HX : Hid (delAll (putX x dir (cpN dir op) zs) [cp] = ((putX x dir (cpN dir op) zs).delete cp).2) := rfl
      rw [q0, Bool.not_false]
      clear d1 d2 d3 hW5
      go_wp2_with fail
      go_region_held3 (fun W => W.cell? ⟨p, 0, none⟩ = some (.pointer (some ⟨d, 0, none⟩)) ∧ W.cell? ⟨p, 2, none⟩ = some (.string cp)) (go_keep) (first
        | (go_at_call 91; refine HDL.out.mono ?_; rintro e w5 ⟨rfl, n5, B5, hn5, hC5⟩; have HC5 : Hid (CutAt w w5 base d mb n5 ((putX x dir (cpN dir op) zs).delete cp).2 p dir cp segs (op + 1) A B B5 aa ac) := hC5; obtain ⟨hW6, _⟩ := hC5.row; have x0' := hW6.cells.1; have x2' := hW6.cells.2.2.1; clear hC5 hW6)
        | (go_at_call 52; refine (HD0 _).mono ?_; rintro e w6 ⟨rfl, rfl⟩))
      all_goals (go_wp2_with fail; go_meet)
      all_goals exact ⟨n5, B5, by omega, by rw [if_neg hcp0, HX.out]; exact HC5.out⟩
  case rest =>
    obtain ⟨n4, B4, hn4, hC4⟩ := hcut
    obtain ⟨hW5, hr5, hc5, ha5⟩ := hC4.row
    have x2 := hW5.cells.2.2.1
    have z2 := hW5.frozen 2
    have HC5 : Hid (CutAt w (wc.setCell ⟨p, 2, none⟩ (.string (cpN dir op))) base d mb n4 (delAll (putX x dir (cpN dir op) zs) (if cp = ⟨#[]⟩ then [] else [cp])) p dir (cpN dir op) segs (op + 1) A B B4 aa ac) := hC4.set ((hW5.set 2 _).congr (five rfl rfl rfl rfl rfl)) hr5 hc5 ha5
    have HDEL2 : Hid (DelOk (delAll (putX x dir (cpN dir op) zs) (if cp = ⟨#[]⟩ then [] else [cp])) (segs.map (segN dir))) := DelOk.app _ _ _ HDEL.out
    have HCX : Hid (cutX x dir cp segs op zs = delAll (delAll (putX x dir (cpN dir op) zs) (if cp = ⟨#[]⟩ then [] else [cp])) (segs.map (segN dir))) := by
      show _ = _
      unfold cutX
      exact delAll_app _ _ _
    obtain ⟨X, eX⟩ : ∃ X, X = delAll (putX x dir (cpN dir op) zs) (if cp = ⟨#[]⟩ then [] else [cp]) := ⟨_, rfl⟩
    rw [← eX] at HC5 HDEL2 HCX
    clear hC4 hW5 hr5 hc5 ha5 eX HDEL HC3
    go_wp2_with fail
    go_loopw [41] (fun t41 wr => ∃ i n6 B6 a6 k6, i ≤ segs.length ∧ n6 ≤ n + 2 ∧ CutAt w wr base d mb n6 (delAll X ((segs.take i).map (segN dir))) p dir (cpN dir op) (segs.drop i) (op + 1) A B B6 a6 k6) (fun _ wr => leftN wr p)
    case atStart => exact ⟨0, n4, B4, aa, ac, Nat.zero_le _, hn4, by simpa [delAll] using HC5.out⟩
    case round =>
      obtain ⟨i, n6, B6, a6, k6, hi, hn6, hC6⟩ := hrel
      have HC6 : Hid (CutAt w wr base d mb n6 (delAll X ((segs.take i).map (segN dir))) p dir (cpN dir op) (segs.drop i) (op + 1) A B B6 a6 k6) := hC6
      obtain ⟨hW6, hr6, hc6, ha6⟩ := hC6.row
      have x3 := hW6.cells.2.2.2.1
      clear HC5
      by_cases hlt : i < segs.length
      · obtain ⟨k, hk⟩ : ∃ k, segs[i]? = some k := ⟨_, List.getElem?_eq_getElem hlt⟩
        have hdrop : segs.drop i = k :: segs.drop (i + 1) := by
          rw [List.drop_eq_getElem_cons hlt]
          congr 1
          rw [List.getElem?_eq_getElem hlt] at hk
          exact Option.some.inj hk
        have htk : (segs.take (i + 1)).map (segN dir) = (segs.take i).map (segN dir) ++ [segN dir k] := by rw [List.take_add_one, hk]; simp
        have HTK : Hid (delAll X ((segs.take (i + 1)).map (segN dir)) = ((delAll X ((segs.take i).map (segN dir))).delete (segN dir k)).2) := by show _ = _; rw [htk, delAll_snoc]
        have hdo : DelOk (delAll X ((segs.take i).map (segN dir))) ((segs.drop i).map (segN dir)) := by
          refine DelOk.app _ _ _ ?_
          rw [← List.map_append, List.take_append_drop]
          exact HDEL2.out
        rw [hdrop] at hdo
        obtain ⟨d1, d2, d3, _⟩ := hdo
        have hk8 := HS8.out k (List.mem_of_getElem? hk)
        obtain ⟨R, eR⟩ : ∃ R, R = (segs.drop (i + 1)).length := ⟨_, rfl⟩
        have hlen6 : (segs.drop i).length = R + 1 := by rw [hdrop, eR]; rfl
        obtain ⟨b, off, rfl, hcell⟩ := nI_cell hr6 (l := segs.drop i) (i := 0) (k := k) (by rw [hdrop]; rfl)
        rw [hlen6] at x3 hc6
        have hR : R ≤ 4194304 := by rw [eR, List.length_drop]; omega
        have hsl : ∀ W : World, (Instr.slice 75 (.slice (some ⟨b, off, none⟩) (R + 1) k6) (some (.int .i64 1)) none none).run Tryz.prog W = .ok (.slice (some (if k6 = 1 then ⟨b, off, none⟩ else ⟨b, off + 1, none⟩)) R (k6 - 1)) W := fun W => tail75n W b off R k6 hc6
        have HTr := (HT.out.step HC6.out.step HF.out).1
        have HGD : Hid (wr.grownBy wr.drew none) := gb_drew (World.grownBy.refl _ _)
        have HSG : Hid (Calls Tryz.prog 54 #[.pointer (some ⟨p, 0, none⟩), .int .i64 (k : Int)] wr.drew fun e w' => e = .returned (.string (segN dir k)) ∧ wr.drew.grownBy w' none) := w_segment p d dir (cpN dir op) _ _ k hk8 _ (by omega) (HTr.grown HGD.out) (hW6.kept HGD.out (by simp))
        have HDL : Hid (∀ w1, wr.grownBy w1 none → Calls Tryz.prog 91 #[.pointer (some ⟨d, 0, none⟩), .string (segN dir k)] w1 fun e w' => e = .returned (.int .i64 0) ∧ ∃ n' B', n' ≤ n6 ∧ CutAt w w' base d mb n' (delAll X ((segs.take (i + 1)).map (segN dir))) p dir (cpN dir op) (segs.drop i) (op + 1) A B B' (some ⟨b, off, none⟩) k6) := fun w1 hg => by
          rw [HTK.out]
          exact (HC6.out.grown hg).del d2 d3 d1
        have x0 := hW6.cells.1
        have HW6 : Hid (WRow wr p d dir (cpN dir op) (.slice (some ⟨b, off, none⟩) (segs.drop i).length k6) ((op + 1 : Nat) : Int)) := hW6
        have hdl : segs.drop i = k :: segs.drop (i + 1) := hdrop
        have HX3 : Hid (∀ w5 n5 B5, CutAt w w5 base d mb n5 (delAll X ((segs.take (i + 1)).map (segN dir))) p dir (cpN dir op) (segs.drop i) (op + 1) A B B5 (some ⟨b, off, none⟩) k6 → w5.cell? ⟨p, 0, none⟩ = some (.pointer (some ⟨d, 0, none⟩)) ∧ w5.cell? ⟨p, 3, none⟩ = some (.slice (some ⟨b, off, none⟩) (R + 1) k6) ∧ w5.cell? ⟨b, off, none⟩ = some (.int .i64 (k : Int)) ∧ w5.frozen? ⟨p, 3, none⟩ = false) := fun w5 n5 B5 h5 => by
          obtain ⟨hW7, hr7, hc7, ha7⟩ := h5.row
          obtain ⟨b', off', e', hcell'⟩ := nI_cell hr7 (l := segs.drop i) (i := 0) (k := k) (by rw [hdl]; rfl)
          cases e'
          simp only [Nat.add_zero] at hcell'
          rw [← hlen6]
          exact ⟨hW7.cells.1, hW7.cells.2.2.2.1, hcell', hW7.frozen 3⟩
        have HFIN : Hid (∀ w5 n5 B5, CutAt w w5 base d mb n5 (delAll X ((segs.take (i + 1)).map (segN dir))) p dir (cpN dir op) (segs.drop i) (op + 1) A B B5 (some ⟨b, off, none⟩) k6 → CutAt w (w5.setCell ⟨p, 3, none⟩ (.slice (some (if k6 = 1 then ⟨b, off, none⟩ else ⟨b, off + 1, none⟩)) R (k6 - 1))) base d mb n5 (delAll X ((segs.take (i + 1)).map (segN dir))) p dir (cpN dir op) (segs.drop (i + 1)) (op + 1) A B B5 (some (if k6 = 1 then ⟨b, off, none⟩ else ⟨b, off + 1, none⟩)) (k6 - 1)) := fun w5 n5 B5 h5 => by
          obtain ⟨hW7, hr7, hc7, ha7⟩ := h5.row
          have hr8 : SRd intE w5 (some ⟨b, off, none⟩) ((k : Int) :: nI (segs.drop (i + 1))) := by
            have e : nI (segs.drop i) = (k : Int) :: nI (segs.drop (i + 1)) := by rw [hdl]; rfl
            rw [← e]
            exact hr7
          refine h5.set ?_ (srd_tail hr8 k6 (by rw [nI_len, ← eR]; exact hc6)) (by rw [← eR]; omega) (fun y hy => ?_)
          · have := hW7.set 3 (.slice (some (if k6 = 1 then ⟨b, off, none⟩ else ⟨b, off + 1, none⟩)) R (k6 - 1))
            rw [← eR]
            exact this.congr (five rfl rfl rfl rfl rfl)
          · have h9 := ha7 ⟨b, off, none⟩ rfl
            have e := Option.some.inj hy
            subst e
            split
            · exact h9
            · exact ⟨h9.1, h9.2.1, h9.2.2.1, rfl⟩
        have HLF : Hid (leftN wr p = R + 1) := by show _ = _; rw [HC6.out.left, hlen6]
        have HERR : Hid (R = (segs.drop (i + 1)).length) := eR
        simp only [Nat.add_zero] at hcell
        clear hC6 hW6 hr6 ha6 hk hdrop hdl htk d1 d2 d3 hk8 HTr eR hlen6 HTK
        go_wp2_with fail
        go_region_held3 (fun W => W.cell? ⟨p, 0, none⟩ = some (.pointer (some ⟨d, 0, none⟩)) ∧ W.cell? ⟨p, 3, none⟩ = some (.slice (some ⟨b, off, none⟩) (R + 1) k6) ∧ W.cell? ⟨b, off, none⟩ = some (.int .i64 (k : Int))) (go_keep) (first
          | (go_at_call 54; refine HSG.out.mono ?_; rintro e w1 ⟨rfl, hg1⟩; have HG1 : Hid (wr.grownBy w1 none) := HGD.out.trans hg1; have x0' : w1.cell? ⟨p, 0, none⟩ = some (.pointer (some ⟨d, 0, none⟩)) := HG1.out.cell x0 (by simp); have x3' : w1.cell? ⟨p, 3, none⟩ = some (.slice (some ⟨b, off, none⟩) (R + 1) k6) := HG1.out.cell x3 (by simp); have xc' : w1.cell? ⟨b, off, none⟩ = some (.int .i64 (k : Int)) := HG1.out.cell hcell (by simp); clear hg1)
          | (go_at_call 91; refine (HDL.out _ HG1.out).mono ?_; rintro e w5 ⟨rfl, n5, B5, hn5, hC5⟩; have HC5 : Hid (CutAt w w5 base d mb n5 (delAll X ((segs.take (i + 1)).map (segN dir))) p dir (cpN dir op) (segs.drop i) (op + 1) A B B5 (some ⟨b, off, none⟩) k6) := hC5; obtain ⟨x0'', x3'', xc'', z3''⟩ := HX3.out _ _ _ hC5; clear hC5)
          | (go_at_call 52; refine (HD0 _).mono ?_; rintro e w6 ⟨rfl, rfl⟩))
        go_wp2
        go_roundw
        case rel => exact ⟨i + 1, n5, B5, _, _, by omega, by omega, HFIN.out _ _ _ HC5.out⟩
        case measure =>
          rw [(HFIN.out _ _ _ HC5.out).left, HLF.out, ← HERR.out]
          omega
      · have hii : i = segs.length := by omega
        have hl0 : (segs.drop i).length = 0 := by rw [List.length_drop]; omega
        rw [hl0] at x3
        have HFIN : Hid (CutEnd w base d mb (n + 2) (cutX x dir cp segs op zs) A B wr) := by
          refine ⟨n6, B6, hn6, ?_, HC6.out.step, HC6.out.apart, HC6.out.ltB⟩
          rw [HCX.out]
          have := HC6.out.disk
          rw [hii, List.take_length] at this
          exact this
        clear hC6 hW6 hr6 hc6 ha6 hii hl0
        go_wp2
        go_end0
        exact ⟨rfl, HFIN.out⟩
end Go.Proofs.YtekejnjaiccnbaaGreatDoor

