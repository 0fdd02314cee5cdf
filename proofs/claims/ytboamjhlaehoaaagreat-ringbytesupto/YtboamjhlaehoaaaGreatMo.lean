/- Several texts in one: Sc, Sd, Se. -/
import Derived.Test.YtboamjhlaehoaaaGreatMn
/- Rings: package reader. -/
namespace Go.Proofs.YtboamjhlaehoaaaGreat
open Go.RowKit
set_option linter.unusedVariables false
set_option maxRecDepth 20000

theorem gb_weak {w w' : World} {row : Option Nat} (h : w.grownBy w' none) : w.grownBy w' row := ⟨h.os, h.tape, h.output, h.size, fun k hk _ => h.block k hk (by simp)⟩
/-- Where a reader stands. -/
structure RAt (w : World) (B : Nat) (a : Option Addr) (L c : Nat) (zs : List Int) (p : Int) (bad : Bool) : Prop where
  box : w.heap[B]? = some (.cells #[.slice a L c, .int .i64 p, .bool bad] 137 (0, 0))
  rd : Rd w a zs
  len : zs.length = L
  cap : L ≤ c
  small : (L : Int) ≤ 140737488355000
  off : ∀ x, a = some x → Typed w x.block 5
/-- One number: what it is, where the reader then stands. -/
def nxt (zs : List Int) (s : Int × Bool) : Int × Int × Bool :=
  if s.2 then (0, s.1, true) else if (uintR zs s.1).2.2 = 0 then ((uintR zs s.1).1, (uintR zs s.1).2.1, false) else (0, s.1, true)
theorem RAt.lt {w : World} {B : Nat} {a : Option Addr} {L c : Nat} {zs : List Int} {p : Int} {bad : Bool} (h : RAt w B a L c zs p bad) : B < w.heap.size := (Array.getElem?_eq_some_iff.1 h.box).1
theorem RAt.ne {w : World} {B : Nat} {a : Option Addr} {L c : Nat} {zs : List Int} {p : Int} {bad : Bool} (h : RAt w B a L c zs p bad) : ∀ x, a = some x → x.block ≠ B := fun x hx => Typed.ne (h.off x hx) ⟨_, h.box⟩ (by decide)
theorem RAt.grown {w w' : World} {row : Option Nat} {B : Nat} {a : Option Addr} {L c : Nat} {zs : List Int} {p : Int} {bad : Bool} (h : RAt w B a L c zs p bad) (hg : w.grownBy w' row) (hr : ∀ k, row = some k → k ≠ B ∧ ¬ Typed w k 5) : RAt w' B a L c zs p bad := by
  refine ⟨by rw [hg.block B h.lt (fun e => (hr B e.symm).1 rfl)]; exact h.box, h.rd.grown hg (fun x hx e => (hr x.block e.symm).2 (h.off x hx)), h.len, h.cap, h.small, fun x hx => ?_⟩
  have hl := typed_lt (h.off x hx)
  obtain ⟨cs, hcs⟩ := h.off x hx
  exact ⟨cs, by rw [hg.block x.block hl (fun e => (hr x.block e.symm).2 ⟨cs, hcs⟩)]; exact hcs⟩
theorem RAt.bad {w : World} {B : Nat} {a : Option Addr} {L c : Nat} {zs : List Int} {p : Int} {b : Bool} (h : RAt w B a L c zs p b) : RAt (w.setCell ⟨B, 2, none⟩ (.bool true)) B a L c zs p true ∧ w.grownBy (w.setCell ⟨B, 2, none⟩ (.bool true)) (some B) := by
  have hg : w.grownBy (w.setCell ⟨B, 2, none⟩ (.bool true)) (some B) := gb_set rfl
  refine ⟨⟨set3 h.box _, h.rd.grown hg (fun x hx e => h.ne x hx (Option.some.inj e)), h.len, h.cap, h.small, fun x hx => ?_⟩, hg⟩
  obtain ⟨cs, hcs⟩ := h.off x hx
  exact ⟨cs, by rw [set_other _ (h.ne x hx)]; exact hcs⟩
theorem RAt.to {w : World} {B : Nat} {a : Option Addr} {L c : Nat} {zs : List Int} {p q : Int} {b : Bool} (h : RAt w B a L c zs p b) : RAt (w.setCell ⟨B, 1, none⟩ (.int .i64 q)) B a L c zs q b ∧ w.grownBy (w.setCell ⟨B, 1, none⟩ (.int .i64 q)) (some B) := by
  have hg : w.grownBy (w.setCell ⟨B, 1, none⟩ (.int .i64 q)) (some B) := gb_set rfl
  refine ⟨⟨by simp [World.setCell, Array.getElem?_modify, h.box], h.rd.grown hg (fun x hx e => h.ne x hx (Option.some.inj e)), h.len, h.cap, h.small, fun x hx => ?_⟩, hg⟩
  obtain ⟨cs, hcs⟩ := h.off x hx
  exact ⟨cs, by rw [set_other _ (h.ne x hx)]; exact hcs⟩
/-- What reading one number leaves. -/
def NxOut (w : World) (B : Nat) (a : Option Addr) (L c : Nat) (zs : List Int) (r : Int × Int × Bool) (e : Ending) (w' : World) : Prop :=
  e = .returned (.int .u64 r.1) ∧ RAt w' B a L c zs r.2.1 r.2.2 ∧ w.grownBy w' (some B)
set_option maxHeartbeats 4000000 in
theorem g_next (w : World) (B : Nat) (a : Option Addr) (L c : Nat) (zs : List Int) (p : Int) (bad : Bool) (h : RAt w B a L c zs p bad) :
    Calls Tryz.prog 112 #[.pointer (some ⟨B, 0, none⟩), .func (.func 113) #[] #[]] w fun e w' => NxOut w B a L c zs (nxt zs (p, bad)) e w' := by
  obtain ⟨c0, c1, c2⟩ := cell3 h.box
  have HR : Hid (RAt w B a L c zs p bad) := h
  cases bad with
  | true =>
    have HN : Hid (nxt zs (p, true) = (0, p, true)) := by show _ = _; simp [nxt]
    clear h
    go_enter Tryz.func112, Tryz.ntmps112
    go_wp2
    go_ret
    rw [HN.out]
    exact ⟨rfl, HR.out, World.grownBy.refl _ _⟩
  | false =>
    obtain ⟨r1, r2, r3, hu⟩ : ∃ r1 r2 r3, uintR zs p = (r1, r2, r3) := ⟨_, _, _, rfl⟩
    have HC : Hid (∀ p9 : Gb w, Calls Tryz.prog 113 #[.slice a L c, .int .i64 p] p9.w' fun e w' => e = .returned (.tuple #[.int .u64 r1, .int .i64 r2, .int .i64 r3]) ∧ p9.w'.grownBy w' none) := fun p9 => f_uint a zs L c p r1 r2 r3 p9.w' (h.rd.grown p9.h (by simp)) h.len h.cap h.small hu
    have HN : Hid (nxt zs (p, false) = if r3 = 0 then (r1, r2, false) else (0, p, true)) := by show _ = _; simp [nxt, hu]
    have e0 : ∀ p9 : Gb w, p9.w'.cell? ⟨B, 0, none⟩ = some (.slice a L c) := Gb.cell c0
    have e1 : ∀ p9 : Gb w, p9.w'.cell? ⟨B, 1, none⟩ = some (.int .i64 p) := Gb.cell c1
    clear h hu
    go_enter Tryz.func112, Tryz.ntmps112
    go_wp2_with fail
    clear c0 c1 c2
    refine wp_region_gb (by kernel_rfl) (by kernel_rfl) ?_
    repeat ((with_reducible refine wpQuiet_step (fun K hK => ?_)); go_simp; first | (refine hK _ ?_; clear hK K) | (apply Exists.intro; refine ⟨fun _ => ?_, hK _ ?_⟩; (go_at_call 113; exact gb_call (HC.out _)); clear hK K))
    with_reducible refine wpQuiet_nil ?_
    rintro wq ⟨p9, hp9⟩
    have hq : w.grownBy wq none := hp9 ▸ p9.h
    clear hp9
    clear p9
    clear e0 e1
    have HQ : Hid (RAt wq B a L c zs p false) := HR.out.grown hq (by simp)
    have HGQ : Hid (w.grownBy wq none) := hq
    clear hq
    obtain ⟨d0, d1, d2⟩ := cell3 HQ.out.box
    have f1 := free_row HQ.out.box 1
    have f2 := free_row HQ.out.box 2
    by_cases h3 : r3 = 0
    · have hb : (r3 != 0) = false := by simp [h3]
      have HN2 : Hid (nxt zs (p, false) = (r1, r2, false)) := by show _ = _; rw [HN.out, if_pos h3]
      clear h3
      go_wp2
      go_ret
      rw [HN2.out]
      exact ⟨rfl, (HQ.out.to (q := r2)).1, gb_trans (gb_weak HGQ.out) (HQ.out.to (q := r2)).2 (fun k hk => .inr hk)⟩
    · have hb : (r3 != 0) = true := by simpa using h3
      have HN2 : Hid (nxt zs (p, false) = (0, p, true)) := by show _ = _; rw [HN.out, if_neg h3]
      clear h3
      go_wp2
      go_ret
      rw [HN2.out]
      exact ⟨rfl, HQ.out.bad.1, gb_trans (gb_weak HGQ.out) HQ.out.bad.2 (fun k hk => .inr hk)⟩
theorem nx_call {w : World} {B : Nat} {a : Option Addr} {L c : Nat} {zs : List Int} {r : Int × Int × Bool} {e : Ending} {w' : World} (h : NxOut w B a L c zs r e w') : e = .returned (.int .u64 r.1) ∧ Hid (RAt w' B a L c zs r.2.1 r.2.2 ∧ w.grownBy w' (some B)) := ⟨h.1, h.2⟩
set_option maxHeartbeats 2000000 in
theorem rd_number (w : World) (B : Nat) (a : Option Addr) (L c : Nat) (zs : List Int) (p : Int) (bad : Bool) (h : RAt w B a L c zs p bad) :
    Calls Tryz.prog 84 #[.pointer (some ⟨B, 0, none⟩)] w fun e w' => NxOut w B a L c zs (nxt zs (p, bad)) e w' := by
  have HC := g_next w B a L c zs p bad h
  clear h
  generalize nxt zs (p, bad) = r at HC ⊢
  go_enter Tryz.func84, Tryz.ntmps84
  go_wp2_with fail
  refine HC.mono ?_
  intro e w1 hx
  obtain ⟨rfl, H1⟩ := nx_call hx
  clear hx
  go_wp2
  go_ret
  exact ⟨rfl, H1.out.1, H1.out.2⟩
/-- One number that is at most m. -/
def upTo (zs : List Int) (m : Int) (s : Int × Bool) : Int × Int × Bool := if m < (nxt zs s).1 then (0, (nxt zs s).2.1, true) else nxt zs s
set_option maxHeartbeats 2000000 in
theorem g_upTo (w : World) (B : Nat) (a : Option Addr) (L c : Nat) (zs : List Int) (p m : Int) (bad : Bool) (h : RAt w B a L c zs p bad) :
    Calls Tryz.prog 85 #[.pointer (some ⟨B, 0, none⟩), .int .u64 m] w fun e w' => NxOut w B a L c zs (upTo zs m (p, bad)) e w' := by
  have HC := rd_number w B a L c zs p bad h
  have HU : Hid (upTo zs m (p, bad) = if m < (nxt zs (p, bad)).1 then (0, (nxt zs (p, bad)).2.1, true) else nxt zs (p, bad)) := rfl
  clear h
  generalize upTo zs m (p, bad) = u at HU ⊢
  generalize nxt zs (p, bad) = r at HC HU
  obtain ⟨x, q, b⟩ := r
  simp only at HU
  by_cases hlt : m < x
  · have HU2 : Hid (u = (0, q, true)) := by show _ = _; rw [HU.out, if_pos hlt]
    go_enter Tryz.func85, Tryz.ntmps85
    go_wp2_with fail
    refine HC.mono ?_
    intro e w1 hx
    obtain ⟨rfl, H1⟩ := nx_call hx
    clear hx
    obtain ⟨d0, d1, d2⟩ := cell3 H1.out.1.box
    have f2 := free_row H1.out.1.box 2
    go_wp2
    go_ret
    rw [HU2.out]
    exact ⟨rfl, H1.out.1.bad.1, gb_trans H1.out.2 H1.out.1.bad.2 (fun k hk => .inr hk)⟩
  · have HU2 : Hid (u = (x, q, b)) := by show _ = _; rw [HU.out, if_neg hlt]
    go_enter Tryz.func85, Tryz.ntmps85
    go_wp2_with fail
    refine HC.mono ?_
    intro e w1 hx
    obtain ⟨rfl, H1⟩ := nx_call hx
    clear hx
    go_wp2
    go_ret
    rw [HU2.out]
    exact ⟨rfl, H1.out.1, H1.out.2⟩
end Go.Proofs.YtboamjhlaehoaaaGreat

/- Rings: a reader made; whether all was read. -/
namespace Go.Proofs.YtboamjhlaehoaaaGreat
open Go.RowKit
set_option linter.unusedVariables false
set_option maxRecDepth 20000

set_option maxHeartbeats 1000000 in
theorem g_of (a : Option Addr) (zs : List Int) (L c : Nat) (w : World) (hr : Rd w a zs) (hL : zs.length = L) (hc : L ≤ c) (hs : (L : Int) ≤ 140737488355000) (ho : ∀ x, a = some x → Typed w x.block 5) :
    Calls Tryz.prog 83 #[.slice a L c] w fun e w' => e = .returned (.pointer (some ⟨w.heap.size, 0, none⟩)) ∧ RAt w' w.heap.size a L c zs 0 false ∧ w.grownBy w' none := by
  have HA : Hid (RAt (w.alloc (.cells #[.slice a L c, .int .i64 0, .bool false] 137)) w.heap.size a L c zs 0 false) := by
    have ga := World.grownBy_alloc w (.cells #[.slice a L c, .int .i64 0, .bool false] 137) none
    refine ⟨heap_alloc_new w _, hr.grown ga (by simp), hL, hc, hs, fun x hx => ?_⟩
    have hl := typed_lt (ho x hx)
    obtain ⟨cs, hcs⟩ := ho x hx
    exact ⟨cs, by rw [ga.block x.block hl (by simp)]; exact hcs⟩
  clear hr hL hc hs ho
  go_enter Tryz.func83, Tryz.ntmps83
  go_wp2
  go_ret
  exact ⟨rfl, HA.out, World.grownBy_alloc _ _ none⟩
set_option maxHeartbeats 1000000 in
theorem g_whole (w : World) (B : Nat) (a : Option Addr) (L c : Nat) (zs : List Int) (p : Int) (bad : Bool) (h : RAt w B a L c zs p bad) :
    Calls Tryz.prog 87 #[.pointer (some ⟨B, 0, none⟩)] w fun e w' => e = .returned (.bool (!bad && decide (p = (L : Int)))) ∧ ∃ n, w' = w.drewN n := by
  obtain ⟨c0, c1, c2⟩ := cell3 h.box
  clear h
  cases bad with
  | true =>
    go_enter Tryz.func87, Tryz.ntmps87
    go_wp2_with fail
    go_quiet (fail)
    go_wp2
    go_ret
    exact ⟨rfl, _, rfl⟩
  | false =>
    by_cases hp : p = (L : Int)
    · subst hp
      go_enter Tryz.func87, Tryz.ntmps87
      go_wp2_with fail
      go_quiet (fail)
      go_wp2
      go_ret
      exact ⟨by simp, _, rfl⟩
    · have hb : (p == (L : Int)) = false := by simpa using hp
      have HD : Hid (decide (p = (L : Int)) = false) := by show _ = _; simpa using hp
      clear hp
      go_enter Tryz.func87, Tryz.ntmps87
      go_wp2_with fail
      go_quiet (fail)
      go_wp2
      go_ret
      exact ⟨by rw [HD.out]; rfl, _, rfl⟩
end Go.Proofs.YtboamjhlaehoaaaGreat

/- Rings: what Decode reads, as maths. -/
namespace Go.Proofs.YtboamjhlaehoaaaGreat
open Go.RowKit
set_option linter.unusedVariables false
set_option maxRecDepth 20000

def wordsR (zs : List Int) : Nat → Int × Bool → List Int × Int × Bool
  | 0, s => ([], s)
  | k + 1, s => ((wordsR zs k s).1 ++ [(upTo zs 4294967295 (wordsR zs k s).2).1], (upTo zs 4294967295 (wordsR zs k s).2).2)
def memR (zs : List Int) (s : Int × Bool) : Mem × Int × Bool :=
  (((upTo zs 15 s).1, (upTo zs 3 (upTo zs 15 s).2).1, (wordsR zs (upTo zs 64 (upTo zs 3 (upTo zs 15 s).2).2).1.toNat (upTo zs 64 (upTo zs 3 (upTo zs 15 s).2).2).2).1),
    (wordsR zs (upTo zs 64 (upTo zs 3 (upTo zs 15 s).2).2).1.toNat (upTo zs 64 (upTo zs 3 (upTo zs 15 s).2).2).2).2)
def memsR (zs : List Int) : Nat → Int × Bool → List Mem × Int × Bool
  | 0, s => ([], s)
  | k + 1, s => ((memsR zs k s).1 ++ [(memR zs (memsR zs k s).2).1], (memR zs (memsR zs k s).2).2)
/-- Epoch, members, whether all was read and nothing was amiss. -/
def ringR (zs : List Int) : Int × List Mem × Bool :=
  ((nxt zs (0, false)).1, (memsR zs (upTo zs 16 (nxt zs (0, false)).2).1.toNat (upTo zs 16 (nxt zs (0, false)).2).2).1,
    !(memsR zs (upTo zs 16 (nxt zs (0, false)).2).1.toNat (upTo zs 16 (nxt zs (0, false)).2).2).2.2 && decide ((memsR zs (upTo zs 16 (nxt zs (0, false)).2).1.toNat (upTo zs 16 (nxt zs (0, false)).2).2).2.1 = (zs.length : Int)))
theorem wordsR_len (zs : List Int) (s : Int × Bool) : ∀ k, (wordsR zs k s).1.length = k
  | 0 => rfl
  | k + 1 => by simp [wordsR, wordsR_len zs s k]
theorem memsR_len (zs : List Int) (s : Int × Bool) : ∀ k, (memsR zs k s).1.length = k
  | 0 => rfl
  | k + 1 => by simp [memsR, memsR_len zs s k]
theorem nxt_range {zs : List Int} (hz : ∀ k, 0 ≤ zs.getD k 0 ∧ zs.getD k 0 ≤ 255) (s : Int × Bool) : 0 ≤ (nxt zs s).1 ∧ (nxt zs s).1 ≤ 18446744073709551615 := by
  unfold nxt
  split
  · exact ⟨Int.le_refl _, by show (0 : Int) ≤ _; decide⟩
  · split
    · rename_i h
      have := uintR_ok (zs := zs) (p := s.1) (r1 := (uintR zs s.1).1) (r2 := (uintR zs s.1).2.1) hz (by rw [← h])
      exact this.2.2.2
    · exact ⟨Int.le_refl _, by show (0 : Int) ≤ _; decide⟩
theorem upTo_range {zs : List Int} (hz : ∀ k, 0 ≤ zs.getD k 0 ∧ zs.getD k 0 ≤ 255) (m : Int) (hm : 0 ≤ m) (s : Int × Bool) : 0 ≤ (upTo zs m s).1 ∧ (upTo zs m s).1 ≤ m := by
  have := nxt_range hz s
  unfold upTo
  split
  · exact ⟨Int.le_refl _, hm⟩
  · omega
theorem wordsR_wf {zs : List Int} (hz : ∀ k, 0 ≤ zs.getD k 0 ∧ zs.getD k 0 ≤ 255) (s : Int × Bool) : ∀ k, ∀ t ∈ (wordsR zs k s).1, 0 ≤ t ∧ t < 4294967296
  | 0, t, h => by simp [wordsR] at h
  | k + 1, t, h => by
    simp only [wordsR, List.mem_append, List.mem_cons, List.mem_nil_iff, or_false] at h
    rcases h with h | rfl
    · exact wordsR_wf hz s k t h
    · have := upTo_range hz 4294967295 (by decide) (wordsR zs k s).2; omega
end Go.Proofs.YtboamjhlaehoaaaGreat

