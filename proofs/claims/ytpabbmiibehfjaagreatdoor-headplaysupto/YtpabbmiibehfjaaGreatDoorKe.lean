/- Several texts in one: Jk, Jl. -/
import Derived.Test.YtpabbmiibehfjaaGreatDoorJj
import Derived.Test.YtpabbmiibehfjaaGreatDoorGy
import Derived.Test.YtpabbmiibehfjaaGreatDoorGs
import Derived.Test.YtpabbmiibehfjaaGreatDoorGv
import Derived.Deep.CutRange
/- HeadPlays: a head and the document's, side by side. -/
namespace Go.Proofs.YtpabbmiibehfjaaGreatDoor
open Go.RowKit Go.Maps
set_option linter.unusedVariables false
set_option maxRecDepth 20000

def U (B R : Nat → Prop) : Nat → Prop := fun k => B k ∨ R k
/-- A head and the document's head with the same series, behind what w0 had. -/
structure Two (w0 wr : World) (hb rb lim N P : Nat) (S : List Ser) (B R : Nat → Prop) : Prop where
  gr : w0.grownBy wr none
  head : HeadAt wr w0.heap.size hb lim N P S B
  ref : RefAt wr w0.heap.size rb lim S R
  disj : ∀ k, B k → ¬ R k
theorem RefAt.blocks {w : World} {base rb lim : Nat} {S : List Ser} {R : Nat → Prop} (h : RefAt w base rb lim S R) : ∀ k, R k → base ≤ k ∧ k < w.heap.size := by
  obtain ⟨a, c, raw, h⟩ := h
  exact h.lt
section
variable {w0 wr w' w4 w5 : World} {hb rb lim N P N' P' : Nat} {S S' : List Ser} {B R B' R' : Nat → Prop}
theorem Two.lt (h : Two w0 wr hb rb lim N P S B R) : ∀ k, U B R k → w0.heap.size ≤ k ∧ k < wr.heap.size := fun k hk => by
  rcases hk with hk | hk
  · exact h.head.blocks k hk
  · exact h.ref.blocks k hk
theorem Two.grew (h : Two w0 wr hb rb lim N P S B R) (hg : wr.grownBy w' none) : Two w0 w' hb rb lim N P S B R := ⟨h.gr.trans hg, h.head.kept hg, h.ref.grown hg, h.disj⟩
theorem Two.mono (h : Two w0 wr hb rb lim N P S B R) (h1 : N ≤ N') (h2 : P ≤ P') : Two w0 wr hb rb lim N' P' S B R := ⟨h.gr, h.head.mono h1 h2, h.ref, h.disj⟩
theorem Two.fits (h : Two w0 wr hb rb lim N P S B R) (hP : P ≤ 8796093022206) : Fits S ∧ S.length ≤ lim ∧ ∀ s ∈ S, s.2.length ≤ P := by
  obtain ⟨m1, m2, n, es, a1, a2, a3, a4, a5, a6, a7⟩ := h.head
  exact ⟨⟨a4, by omega, fun s hs => Nat.le_trans (a7 s hs) hP⟩, a5, a7⟩
/-- Blocks that are none of theirs have turned. -/
theorem Two.others {X : Nat → Prop} (h : Two w0 wr hb rb lim N P S B R) (hk : Kept wr w' X) (hX : ∀ k, U B R k → ¬ X k) (h0 : ∀ k, X k → w0.heap.size ≤ k) : Two w0 w' hb rb lim N P S B R :=
  ⟨((Kept.of (X := fun k => w0.heap.size ≤ k) h.gr (by simp)).trans hk (fun k _ hx => h0 k hx)).grown (fun k hk1 h1 => by omega), h.head.others hk (fun k hb => hX k (.inl hb)), h.ref.kept hk (fun k hr => hX k (.inr hr)), h.disj⟩
/-- The head has turned. -/
theorem Two.first (h : Two w0 wr hb rb lim N P S B R) (hh : HeadAt w4 w0.heap.size hb lim N' P' S' B') (hs : Step wr w4 B B') : RefAt w4 w0.heap.size rb lim S R ∧ (∀ k, B' k → ¬ R k) ∧ w0.grownBy w4 none := by
  refine ⟨h.ref.kept hs.1 (fun k hR hB => h.disj k hB hR), fun k hb hR => ?_, ((Kept.of (X := fun k => w0.heap.size ≤ k) h.gr (by simp)).trans hs.1 (fun k _ hb => (h.head.blocks k hb).1)).grown (fun k hk h => by omega)⟩
  exact h.disj k (hs.2 k (h.ref.blocks k hR).2 hb) hR
/-- The document's has turned, too. -/
theorem Two.second (h : Two w0 wr hb rb lim N P S B R) (hh : HeadAt w4 w0.heap.size hb lim N' P' S' B') (hs : Step wr w4 B B') (hr : RefAt w5 w0.heap.size rb lim S' R') (hs2 : Step w4 w5 R R') : Two w0 w5 hb rb lim N' P' S' B' R' ∧ Step wr w5 (U B R) (U B' R') := by
  obtain ⟨f1, f2, f3⟩ := h.first hh hs
  refine ⟨⟨((Kept.of (X := fun k => w0.heap.size ≤ k) f3 (by simp)).trans hs2.1 (fun k _ hb => (f1.blocks k hb).1)).grown (fun k hk h => by omega), hh.others hs2.1 f2, hr, fun k hb hR => f2 k hb (hs2.2 k (hh.blocks k hb).2 hR)⟩, ?_, fun k hk hU => ?_⟩
  · exact (hs.1.mono (fun k _ hb => Or.inl hb)).trans hs2.1 (fun k _ hR => Or.inr hR)
  · rcases hU with hb | hR
    · exact .inl (hs.2 k hk hb)
    · exact .inr (hs2.2 k (Nat.lt_of_lt_of_le hk hs.1.size) hR)
end
theorem Step.behind {wr w5 w6 : World} {B B' X : Nat → Prop} (h : Step wr w5 B B') (hk : Kept w5 w6 X) (hX : ∀ k, X k → wr.heap.size ≤ k) : Step wr w6 B B' :=
  ⟨h.1.trans hk (fun k hlt hx => by have := hX k hx; omega), h.2⟩
theorem SerOut.bound {w : World} {X : Nat → Prop} {v : Value} {S : List Ser} (h : SerOut w X v S) : SerOut w (fun k => X k ∧ k < w.heap.size) v S := by
  obtain ⟨raw, h1, h2, h3⟩ := h
  exact ⟨raw, h1, fun k hk => ⟨h2 k hk, (SOwn.block h1 k hk).2⟩, fun i r s hr hs => by
    have k := h3 i r s hr hs
    exact ⟨k.ln, k.pn, k.lab, k.pts, fun x hx => ⟨k.lx x hx, (SOwn.block k.lab x.block (by rw [hx]; rfl)).2⟩, fun x hx => ⟨k.px x hx, (SOwn.block k.pts x.block (by rw [hx]; rfl)).2⟩⟩⟩
/-- What a call of the law's script names. -/
structure ActOk (w0 : World) (la : Option Addr) (ls : List Lab) (L lc : Nat) (ma : Option Addr) (ms : List Mt.Mat) (mn mc : Nat) : Prop where
  lab : SRd labE w0 la ls
  len : ls.length = L
  lz : L ≤ 4398046511000
  nil : la = none → lc = 0
  mat : SRd Mt.matE w0 ma ms
  mlen : ms.length = mn
  mz : mn ≤ 3518437208879
  mnil : ma = none → mc = 0
  ok : MatOk ms
  mx : Mt.Mx w0
def TellOut (w0 wr : World) (hb rb lim N P : Nat) (B R : Nat → Prop) (e : Ending) (w' : World) : Prop :=
  e = .returned (.bool true) ∧ ∃ S' B' R', Two w0 w' hb rb lim (N + 20020) (P + 1) S' B' R' ∧ Step wr w' (U B R) (U B' R')
theorem row7 {w : World} {x0 x1 x2 x3 x4 x5 x6 : Value} {t : TypeId} : (w.alloc (.cells #[x0, x1, x2, x3, x4, x5, x6] t)).cell? ⟨w.heap.size, 0, none⟩ = some x0 ∧ (w.alloc (.cells #[x0, x1, x2, x3, x4, x5, x6] t)).cell? ⟨w.heap.size, 1, none⟩ = some x1 ∧ (w.alloc (.cells #[x0, x1, x2, x3, x4, x5, x6] t)).cell? ⟨w.heap.size, 2, none⟩ = some x2 ∧ (w.alloc (.cells #[x0, x1, x2, x3, x4, x5, x6] t)).cell? ⟨w.heap.size, 3, none⟩ = some x3 ∧ (w.alloc (.cells #[x0, x1, x2, x3, x4, x5, x6] t)).cell? ⟨w.heap.size, 4, none⟩ = some x4 ∧ (w.alloc (.cells #[x0, x1, x2, x3, x4, x5, x6] t)).cell? ⟨w.heap.size, 5, none⟩ = some x5 ∧ (w.alloc (.cells #[x0, x1, x2, x3, x4, x5, x6] t)).cell? ⟨w.heap.size, 6, none⟩ = some x6 :=
  ⟨cell_of_row _ w.heap.size 0 _ t _ (heap_alloc_new w _), cell_of_row _ w.heap.size 1 _ t _ (heap_alloc_new w _), cell_of_row _ w.heap.size 2 _ t _ (heap_alloc_new w _), cell_of_row _ w.heap.size 3 _ t _ (heap_alloc_new w _), cell_of_row _ w.heap.size 4 _ t _ (heap_alloc_new w _), cell_of_row _ w.heap.size 5 _ t _ (heap_alloc_new w _), cell_of_row _ w.heap.size 6 _ t _ (heap_alloc_new w _)⟩
end Go.Proofs.YtpabbmiibehfjaaGreatDoor

/- HeadPlays: one call of the script. -/
namespace Go.Proofs.YtpabbmiibehfjaaGreatDoor
open Go.RowKit Go.Maps
set_option linter.unusedVariables false
set_option maxRecDepth 20000

theorem sel_small9 {S : List Ser} (say : List Lab → Bool) (f t : Int) (h : Fits S) : (selS say f t S).length ≤ 1024 ∧ ∀ s ∈ selS say f t S, s.1.length ≤ 16 ∧ s.2.length ≤ 8796093022206 := by
  refine ⟨Nat.le_trans (Nat.le_trans (keepS_len _ _) (List.length_filter_le _ _)) h.2.1, fun s hs => ?_⟩
  unfold selS at hs
  obtain ⟨x, hx, _, rfl⟩ := keepS_mem.1 hs
  have hm := (List.mem_filter.1 hx).1
  exact ⟨h.lab x hm, Nat.le_trans (List.length_filter_le _ _) (h.2.2 x hm)⟩
set_option maxHeartbeats 16000000 in
theorem told_walk (w0 wr : World) (hb rb lim N P : Nat) (S : List Ser) (B R : Nat → Prop) (kd : Int) (la : Option Addr) (ls : List Lab) (L lc : Nat) (T V : Int) (ma : Option Addr) (ms : List Mt.Mat) (mn mc : Nat) (f t : Int) (h : Two w0 wr hb rb lim N P S B R) (hok : ActOk w0 la ls L lc ma ms mn mc) (hP : P + 1 ≤ 8796093022205) (hN : N + 20020 < 9223372036854775807) (hf2 : f ≤ 9223372036854775807) :
    Calls Tryz.prog 10 #[.pointer (some ⟨hb, 0, none⟩), .pointer (some ⟨rb, 0, none⟩), .agg #[.int .i64 kd, .slice la L lc, .int .i64 T, .int .u64 V, .slice ma mn mc, .int .i64 f, .int .i64 t]] wr (TellOut w0 wr hb rb lim N P B R) := by
  have HT : Hid (Two w0 wr hb rb lim N P S B R) := h
  have HOK : Hid (ActOk w0 la ls L lc ma ms mn mc) := hok
  have HGA : Hid (wr.grownBy (wr.alloc (.cells #[.int .i64 kd, .slice la L lc, .int .i64 T, .int .u64 V, .slice ma mn mc, .int .i64 f, .int .i64 t] 34)) none) := World.grownBy_alloc wr _ none
  have HRA : Hid ((wr.alloc (.cells #[.int .i64 kd, .slice la L lc, .int .i64 T, .int .u64 V, .slice ma mn mc, .int .i64 f, .int .i64 t] 34)).heap[wr.heap.size]? = some (.cells #[.int .i64 kd, .slice la L lc, .int .i64 T, .int .u64 V, .slice ma mn mc, .int .i64 f, .int .i64 t] 34)) := heap_alloc_new wr _
  have HSBA : Hid ((wr.alloc (.cells #[.int .i64 kd, .slice la L lc, .int .i64 T, .int .u64 V, .slice ma mn mc, .int .i64 f, .int .i64 t] 34)).heap.size = (wr.alloc (.cells #[.int .i64 kd, .slice la L lc, .int .i64 T, .int .u64 V, .slice ma mn mc, .int .i64 f, .int .i64 t] 34)).heap.size) := rfl
  have HABW : Hid (wr.heap.size ≤ wr.heap.size) := Nat.le_refl _
  obtain ⟨d0, d1, d2, d3, d4, d5, d6⟩ := row7 (w := wr) (x0 := .int .i64 kd) (x1 := .slice la L lc) (x2 := .int .i64 T) (x3 := .int .u64 V) (x4 := .slice ma mn mc) (x5 := .int .i64 f) (x6 := .int .i64 t) (t := 34)
  clear h hok
  go_enter Tryz.func10, Tryz.ntmps10
  go_upto_region 1 with fail
  generalize wr.alloc (.cells #[.int .i64 kd, .slice la L lc, .int .i64 T, .int .u64 V, .slice ma mn mc, .int .i64 f, .int .i64 t] 34) = W at HGA HRA HSBA d0 d1 d2 d3 d4 d5 d6 ⊢
  obtain ⟨ab, eab⟩ : ∃ ab, ab = wr.heap.size := ⟨_, rfl⟩
  rw [← eab] at HRA HABW d0 d1 d2 d3 d4 d5 d6 ⊢
  have HABW' : Hid (wr.heap.size ≤ ab) := by rw [eab]; exact Nat.le_refl _
  clear eab HABW
  have HABW : Hid (wr.heap.size ≤ ab) := HABW'.out
  clear HABW'
  by_cases k0 : kd = 0
  · subst k0
    have HGS : Hid (W.grownBy (W.alloc (.cells #[.slice la L lc, .int .i64 T, .int .u64 V] 31)) none) := World.grownBy_alloc W _ none
    have HRS : Hid ((W.alloc (.cells #[.slice la L lc, .int .i64 T, .int .u64 V] 31)).heap[W.heap.size]? = some (.cells #[.slice la L lc, .int .i64 T, .int .u64 V] 31)) := heap_alloc_new W _
    have HSW : Hid (wr.heap.size ≤ W.heap.size) := HGA.out.size
    have HABS : Hid (ab < W.heap.size) := (Array.getElem?_eq_some_iff.1 HRA.out).1
    have g1 := HGS.out.cell d1 (by simp)
    go_wp2_with fail
    generalize W.alloc (.cells #[.slice la L lc, .int .i64 T, .int .u64 V] 31) = W1 at HGS HRS g1 ⊢
    generalize W.heap.size = sb at HRS HSW HABS ⊢
    refine (llend la ls L lc W1 (HOK.out.lab.grown (HT.out.gr.trans (HGA.out.trans HGS.out)) (by simp)) HOK.out.len HOK.out.nil HOK.out.lz).mono ?_
    rintro e w2 ⟨g, c, rfl, ho, hg⟩
    have HR2 : Hid (w2.heap[sb]? = some (.cells #[.slice la L lc, .int .i64 T, .int .u64 V] 31)) := (hg.block sb (Array.getElem?_eq_some_iff.1 HRS.out).1 (by simp)).trans HRS.out
    have s0 : w2.cell? ⟨sb, 0, none⟩ = some (.slice la L lc) := cell_of_row _ sb 0 _ 31 _ HR2.out
    have f0 : w2.frozen? ⟨sb, 0, none⟩ = false := by have h6 := HR2.out; simp [World.frozen?, h6]
    have HG2 : Hid (W.grownBy w2 none) := HGS.out.trans hg
    have HLO : Hid (LOwn w2 W1.heap.size g (L + 2) c (ls ++ sp2)) := ho
    have HGN : Hid (wr.heap.size ≤ g ∧ g < w2.heap.size) := by
      have h6 := ho.ge
      have h7 := (HGA.out.trans HGS.out).size
      exact ⟨by omega, h6.2⟩
    clear ho hg g1 HRS
    go_upto_region 10 with fail
    have HGS3 : Hid (w2.grownBy (w2.setCell ⟨sb, 0, none⟩ (.slice (some ⟨g, 0, none⟩) L c)) (some sb)) := gb_set rfl
    have HT2 : Typed w2 sb 31 := ⟨_, HR2.out⟩
    have HG3 : Hid (wr.grownBy (w2.setCell ⟨sb, 0, none⟩ (.slice (some ⟨g, 0, none⟩) L c)) none) := gb_trans (HGA.out.trans HG2.out) HGS3.out (fun k hk => .inl (by cases hk; exact HSW.out))
    have t0 : (w2.setCell ⟨sb, 0, none⟩ (.slice (some ⟨g, 0, none⟩) L c)).cell? ⟨sb, 0, none⟩ = some (.slice (some ⟨g, 0, none⟩) L c) := World.cell?_setCell_same _ _ _ s0
    have t1 : (w2.setCell ⟨sb, 0, none⟩ (.slice (some ⟨g, 0, none⟩) L c)).cell? ⟨sb, 1, none⟩ = some (.int .i64 T) := by
      rw [World.cell?_setCell_other]
      · exact cell_of_row _ sb 1 _ 31 _ HR2.out
      · simp
    have t2 : (w2.setCell ⟨sb, 0, none⟩ (.slice (some ⟨g, 0, none⟩) L c)).cell? ⟨sb, 2, none⟩ = some (.int .u64 V) := by
      rw [World.cell?_setCell_other]
      · exact cell_of_row _ sb 2 _ 31 _ HR2.out
      · simp
    have HLO3 : Hid (LOwn (w2.setCell ⟨sb, 0, none⟩ (.slice (some ⟨g, 0, none⟩) L c)) W1.heap.size g (L + 2) c (ls ++ sp2)) := sown_stay HLO.out (fun x hx => by
      cases hx
      exact HGS3.out.block _ HGN.out.2 (fun e => Typed.ne (sown_typed HLO.out) HT2 (by decide) (Option.some.inj e)))
    have cst : ∀ (o : Nat) (v : Value), W.cell? ⟨ab, o, none⟩ = some v → (w2.setCell ⟨sb, 0, none⟩ (.slice (some ⟨g, 0, none⟩) L c)).cell? ⟨ab, o, none⟩ = some v := fun o v hv => cell_stays HGS3.out (World.block_lt_of_cell? _ _ (HG2.out.cell hv (by simp))) (fun e => by
      have h6 := HABS.out
      have := Option.some.inj e
      omega) (HG2.out.cell hv (by simp))
    have e0 := cst 0 _ d0
    have e1 := cst 1 _ d1
    have e2 := cst 2 _ d2
    have e3 := cst 3 _ d3
    have HSZ3 : Hid (g < (w2.setCell ⟨sb, 0, none⟩ (.slice (some ⟨g, 0, none⟩) L c)).heap.size) := Nat.lt_of_lt_of_le HGN.out.2 HGS3.out.size
    generalize w2.setCell ⟨sb, 0, none⟩ (.slice (some ⟨g, 0, none⟩) L c) = w3 at HGS3 HG3 t0 t1 t2 HLO3 e0 e1 e2 e3 HSZ3 ⊢
    generalize W1.heap.size = gb at HLO3
    have HSBW : Hid (wr.heap.size ≤ sb) := HSW.out
    clear cst HT2 s0 f0 HR2 HG2 HLO HGS3 HGS HRA HSBA HSW HABS d0 d1 d2 d3 d4 d5 d6 HGA
    have HT3 : Hid (Two w0 w3 hb rb lim N P S B R) := HT.out.grew HG3.out
    have HRL3 : Hid (SRd labE w3 (some ⟨g, 0, none⟩) ls) := HLO3.out.head
    have HSB3 : Hid (sb < w3.heap.size ∧ ab < w3.heap.size) := ⟨World.block_lt_of_cell? _ _ t0, World.block_lt_of_cell? _ _ e0⟩

    go_wp2_with fail
    refine (h_add w0.heap.size hb lim N P S B (some ⟨g, 0, none⟩) L c ls T V w3 HT3.out.head HRL3.out HOK.out.len (by have := HOK.out.lz; omega) (by simp) (by omega) (by omega)).mono ?_
    rintro e w4 ⟨rfl, B4, hh4, hs4⟩
    obtain ⟨hr4, hd4, hg4⟩ := HT3.out.first hh4 hs4
    have HH4 : Hid (HeadAt w4 w0.heap.size hb lim (N + 20) (P + 1) (addR lim S ls T V) B4) := hh4
    have HS4 : Hid (Step w3 w4 B B4) := hs4
    have HR4 : Hid (RefAt w4 w0.heap.size rb lim S R) := hr4
    have HG4 : Hid (w0.grownBy w4 none) := hg4
    have HBL : Hid (∀ k, B k → k < wr.heap.size) := fun k hb => (HT.out.head.blocks k hb).2
    have HNB : Hid (¬ B sb ∧ ¬ B ab ∧ ¬ B g) := ⟨fun h => by have := HBL.out _ h; have := HSBW.out; omega, fun h => by have := HBL.out _ h; have := HABW.out; omega, fun h => by have := HBL.out _ h; have := HGN.out.1; omega⟩
    have u0 := cell_kept hs4.1 HSB3.out.1 HNB.out.1 t0
    have v0 := cell_kept hs4.1 HSB3.out.2 HNB.out.2.1 e0
    have v1 := cell_kept hs4.1 HSB3.out.2 HNB.out.2.1 e1
    have v2 := cell_kept hs4.1 HSB3.out.2 HNB.out.2.1 e2
    have v3 := cell_kept hs4.1 HSB3.out.2 HNB.out.2.1 e3
    have HLO4 : Hid (LOwn w4 gb g (L + 2) c (ls ++ sp2)) := sown_stay HLO3.out (fun x hx => by cases hx; exact hs4.1.block _ HSZ3.out HNB.out.2.2)
    clear hh4 hs4 hr4 hd4 hg4 t0 t1 t2 e0 e1 e2 e3
    obtain ⟨hfit, hlen, hpt⟩ := HT3.out.fits (by omega)
    go_wp2_with fail
    refine (r_add w0.heap.size rb lim S R la ls L lc T V w4 HR4.out hfit hlen (fun s hs => by have := hpt s hs; omega) (HOK.out.lab.grown HG4.out (by simp)) HOK.out.len HOK.out.lz HOK.out.nil).mono ?_
    rintro e w5 ⟨rfl, R5, hr5, hs5⟩
    obtain ⟨ht5, hst5⟩ := HT3.out.second HH4.out HS4.out hr5 hs5
    have HT5 : Hid (Two w0 w5 hb rb lim (N + 20) (P + 1) (addR lim S ls T V) B4 R5) := ht5
    have HST5 : Hid (Step wr w5 (U B R) (U B4 R5)) := (Step.grown (U B R) HG3.out).trans hst5
    have HRL : Hid (∀ k, R k → k < wr.heap.size) := fun k hb => (HT.out.ref.blocks k hb).2
    have HNR : Hid (¬ R sb ∧ ¬ R ab ∧ ¬ R g) := ⟨fun h => by have := HRL.out _ h; have := HSBW.out; omega, fun h => by have := HRL.out _ h; have := HABW.out; omega, fun h => by have := HRL.out _ h; have := HGN.out.1; omega⟩
    have hz34 := HS4.out.1.size
    have y0 := cell_kept hs5.1 (Nat.lt_of_lt_of_le HSB3.out.1 hz34) HNR.out.1 u0
    have y1 := cell_kept hs5.1 (Nat.lt_of_lt_of_le HSB3.out.2 hz34) HNR.out.2.1 v1
    have HLO5 : Hid (LOwn w5 gb g (L + 2) c (ls ++ sp2)) := sown_stay HLO4.out (fun x hx => by cases hx; exact hs5.1.block _ (Nat.lt_of_lt_of_le HSZ3.out hz34) HNR.out.2.2)
    have HNG : Hid (∀ k, U B4 R5 k → ¬ k = g) := fun k hU e => by
      subst e
      rcases hU with hb | hR
      · exact HNB.out.2.2 (HS4.out.2 k HSZ3.out hb)
      · exact HNR.out.2.2 (hs5.2 k (Nat.lt_of_lt_of_le HSZ3.out hz34) hR)
    clear hr5 hs5 ht5 hst5 hfit hlen hpt u0 v0 v1 v2 v3 HLO4 HH4 HS4 HR4 HG4 hz34 HT3 HLO3 HRL3
    generalize fateR lim S ls T V = FT at *
    generalize addR lim S ls T V = S5 at HT5

    go_wp2_with fail
    refine (lkept la ls gb g L c lc w5 (HOK.out.lab.grown HT5.out.gr (by simp)) HOK.out.len HLO5.out HOK.out.lz).mono ?_
    rintro e w7 ⟨rfl, hg7⟩
    have HT7 : Hid (Two w0 w7 hb rb lim (N + 20020) (P + 1) S5 B4 R5) := (HT5.out.others (X := fun k => k = g) (Kept.of hg7 (fun k hk => (Option.some.inj hk).symm)) (fun k hU e => HNG.out k hU e) (fun k e => by rw [e]; have := HGN.out.1; have := HT.out.gr.size; omega)).mono (by omega) (by omega)
    have HST7 : Hid (Step wr w7 (U B R) (U B4 R5)) := HST5.out.behind (X := fun k => k = g) (Kept.of hg7 (fun k hk => (Option.some.inj hk).symm)) (fun k e => by rw [e]; exact HGN.out.1)
    clear hg7 HT5 HST5 HNG

    have HFS : Hid (Fits S5) := (HT7.out.fits (by omega)).1
    have hc1 := h_count w0.heap.size hb lim _ _ S5 B4 w7 HT7.out.head (by omega)
    have hc2 := r_count w0.heap.size rb lim S5 R5 w7 HT7.out.ref HFS.out
    have HSP : Hid (Calls Tryz.prog 22 #[.pointer (some ⟨hb, 0, none⟩)] w7 fun e w' => e = .returned (.tuple #[.int .i64 (if S5 = [] then 0 else loS S5), .int .i64 (if S5 = [] then 0 else hiS S5), .bool (decide (S5 ≠ []))]) ∧ w7.grownBy w' none) := h_span w0.heap.size hb lim _ _ S5 B4 w7 HT7.out.head (by omega)
    have HSQ : Hid (∀ w', w7.grownBy w' none → Calls Tryz.prog 34 #[.pointer (some ⟨rb, 0, none⟩)] w' fun e w'' => e = .returned (.tuple #[.int .i64 (if S5 = [] then 0 else loS S5), .int .i64 (if S5 = [] then 0 else hiS S5), .bool (decide (S5 ≠ []))]) ∧ w' = w'') := fun w' hg => r_span w0.heap.size rb lim S5 R5 w' (HT7.out.ref.grown hg) HFS.out
    have HEND : Hid (∀ w', w7.grownBy w' none → ∃ S' B' R', Two w0 w' hb rb lim (N + 20020) (P + 1) S' B' R' ∧ Step wr w' (U B R) (U B' R')) := fun w' hg => ⟨S5, B4, R5, HT7.out.grew hg, HST7.out.trans (Step.grown _ hg)⟩
    have HC1 : Hid (Calls Tryz.prog 16 #[.pointer (some ⟨hb, 0, none⟩)] w7 fun e w' => e = .returned (.tuple #[.int .i64 S5.length, .int .i64 (ptsN S5)]) ∧ w7 = w') := hc1
    have HC2 : Hid (Calls Tryz.prog 33 #[.pointer (some ⟨rb, 0, none⟩)] w7 fun e w' => e = .returned (.tuple #[.int .i64 S5.length, .int .i64 (ptsN S5)]) ∧ w7 = w') := hc2
    generalize (if S5 = [] then (0 : Int) else loS S5) = slo at HSP HSQ
    generalize (if S5 = [] then (0 : Int) else hiS S5) = shi at HSP HSQ
    generalize decide (S5 ≠ []) = sb9 at HSP HSQ
    generalize S5.length = sl9 at HC1 HC2
    generalize ptsN S5 = sp9 at HC1 HC2
    clear hc1 hc2 HFS HT7 HST7
    go_wp2_with fail
    refine HC1.out.mono ?_
    rintro e wx ⟨rfl, rfl⟩
    go_wp2_with fail
    refine HC2.out.mono ?_
    rintro e wx ⟨rfl, rfl⟩
    go_wp2_with fail
    refine HSP.out.mono ?_
    rintro e w9 ⟨rfl, hg9⟩
    have HG9 : Hid (w7.grownBy w9 none) := hg9
    clear hg9
    go_wp2_with fail
    refine (HSQ.out w9 HG9.out).mono ?_
    rintro e wx ⟨rfl, rfl⟩
    go_wp2
    go_ret
    exact ⟨rfl, HEND.out _ HG9.out⟩
  · have k0' : (kd == 0) = false := by simpa using k0
    by_cases k1 : kd = 1
    · subst k1
      have HGS : Hid (W.grownBy (W.alloc (.cells #[.slice la L lc, .int .i64 T, .int .u64 V] 31)) none) := World.grownBy_alloc W _ none
      have HRS : Hid ((W.alloc (.cells #[.slice la L lc, .int .i64 T, .int .u64 V] 31)).heap[W.heap.size]? = some (.cells #[.slice la L lc, .int .i64 T, .int .u64 V] 31)) := heap_alloc_new W _
      have HSW : Hid (wr.heap.size ≤ W.heap.size) := HGA.out.size
      have HABS : Hid (ab < W.heap.size) := (Array.getElem?_eq_some_iff.1 HRA.out).1
      have g1 := HGS.out.cell d1 (by simp)
      go_wp2_with fail
      generalize W.alloc (.cells #[.slice la L lc, .int .i64 T, .int .u64 V] 31) = W1 at HGS HRS g1 ⊢
      generalize W.heap.size = sb at HRS HSW HABS ⊢
      refine (llend la ls L lc W1 (HOK.out.lab.grown (HT.out.gr.trans (HGA.out.trans HGS.out)) (by simp)) HOK.out.len HOK.out.nil HOK.out.lz).mono ?_
      rintro e w2 ⟨g, c, rfl, ho, hg⟩
      have HR2 : Hid (w2.heap[sb]? = some (.cells #[.slice la L lc, .int .i64 T, .int .u64 V] 31)) := (hg.block sb (Array.getElem?_eq_some_iff.1 HRS.out).1 (by simp)).trans HRS.out
      have s0 : w2.cell? ⟨sb, 0, none⟩ = some (.slice la L lc) := cell_of_row _ sb 0 _ 31 _ HR2.out
      have f0 : w2.frozen? ⟨sb, 0, none⟩ = false := by have h6 := HR2.out; simp [World.frozen?, h6]
      have HG2 : Hid (W.grownBy w2 none) := HGS.out.trans hg
      have HLO : Hid (LOwn w2 W1.heap.size g (L + 2) c (ls ++ sp2)) := ho
      have HGN : Hid (wr.heap.size ≤ g ∧ g < w2.heap.size) := by
        have h6 := ho.ge
        have h7 := (HGA.out.trans HGS.out).size
        exact ⟨by omega, h6.2⟩
      clear ho hg g1 HRS
      go_upto_region 10 with fail
      have HGS3 : Hid (w2.grownBy (w2.setCell ⟨sb, 0, none⟩ (.slice (some ⟨g, 0, none⟩) L c)) (some sb)) := gb_set rfl
      have HT2 : Typed w2 sb 31 := ⟨_, HR2.out⟩
      have HG3 : Hid (wr.grownBy (w2.setCell ⟨sb, 0, none⟩ (.slice (some ⟨g, 0, none⟩) L c)) none) := gb_trans (HGA.out.trans HG2.out) HGS3.out (fun k hk => .inl (by cases hk; exact HSW.out))
      have t0 : (w2.setCell ⟨sb, 0, none⟩ (.slice (some ⟨g, 0, none⟩) L c)).cell? ⟨sb, 0, none⟩ = some (.slice (some ⟨g, 0, none⟩) L c) := World.cell?_setCell_same _ _ _ s0
      have t1 : (w2.setCell ⟨sb, 0, none⟩ (.slice (some ⟨g, 0, none⟩) L c)).cell? ⟨sb, 1, none⟩ = some (.int .i64 T) := by
        rw [World.cell?_setCell_other]
        · exact cell_of_row _ sb 1 _ 31 _ HR2.out
        · simp
      have t2 : (w2.setCell ⟨sb, 0, none⟩ (.slice (some ⟨g, 0, none⟩) L c)).cell? ⟨sb, 2, none⟩ = some (.int .u64 V) := by
        rw [World.cell?_setCell_other]
        · exact cell_of_row _ sb 2 _ 31 _ HR2.out
        · simp
      have HLO3 : Hid (LOwn (w2.setCell ⟨sb, 0, none⟩ (.slice (some ⟨g, 0, none⟩) L c)) W1.heap.size g (L + 2) c (ls ++ sp2)) := sown_stay HLO.out (fun x hx => by
        cases hx
        exact HGS3.out.block _ HGN.out.2 (fun e => Typed.ne (sown_typed HLO.out) HT2 (by decide) (Option.some.inj e)))
      have cst : ∀ (o : Nat) (v : Value), W.cell? ⟨ab, o, none⟩ = some v → (w2.setCell ⟨sb, 0, none⟩ (.slice (some ⟨g, 0, none⟩) L c)).cell? ⟨ab, o, none⟩ = some v := fun o v hv => cell_stays HGS3.out (World.block_lt_of_cell? _ _ (HG2.out.cell hv (by simp))) (fun e => by
        have h6 := HABS.out
        have := Option.some.inj e
        omega) (HG2.out.cell hv (by simp))
      have e0 := cst 0 _ d0
      have e1 := cst 1 _ d1
      have e2 := cst 2 _ d2
      have e3 := cst 3 _ d3
      have HSZ3 : Hid (g < (w2.setCell ⟨sb, 0, none⟩ (.slice (some ⟨g, 0, none⟩) L c)).heap.size) := Nat.lt_of_lt_of_le HGN.out.2 HGS3.out.size
      generalize w2.setCell ⟨sb, 0, none⟩ (.slice (some ⟨g, 0, none⟩) L c) = w3 at HGS3 HG3 t0 t1 t2 HLO3 e0 e1 e2 e3 HSZ3 ⊢
      generalize W1.heap.size = gb at HLO3
      have HSBW : Hid (wr.heap.size ≤ sb) := HSW.out
      clear cst HT2 s0 f0 HR2 HG2 HLO HGS3 HGS HRA HSBA HSW HABS d0 d1 d2 d3 d4 d5 d6 HGA
      have HT3 : Hid (Two w0 w3 hb rb lim N P S B R) := HT.out.grew HG3.out
      have HRL3 : Hid (SRd labE w3 (some ⟨g, 0, none⟩) ls) := HLO3.out.head
      have HSB3 : Hid (sb < w3.heap.size ∧ ab < w3.heap.size) := ⟨World.block_lt_of_cell? _ _ t0, World.block_lt_of_cell? _ _ e0⟩

      go_wp2_with fail
      refine (h_fate w0.heap.size hb lim N P S B (some ⟨g, 0, none⟩) L c ls T V w3 HT3.out.head HRL3.out HOK.out.len (by have := HOK.out.lz; omega) (by omega)).mono ?_
      rintro e w4 ⟨rfl, hg4⟩
      have HT4 : Hid (Two w0 w4 hb rb lim N P S B R) := HT3.out.grew hg4
      have HG34 : Hid (w3.grownBy w4 none) := hg4
      have v0 := hg4.cell e0 (by simp)
      have v1 := hg4.cell e1 (by simp)
      have v2 := hg4.cell e2 (by simp)
      have v3 := hg4.cell e3 (by simp)
      have u0 := hg4.cell t0 (by simp)
      clear hg4 t0 t1 t2 e0 e1 e2 e3
      obtain ⟨hfit, hlen, hpt⟩ := HT3.out.fits (by omega)
      go_wp2_with fail
      refine (r_fate w0.heap.size rb lim S R la ls L lc T V w4 HT4.out.ref hfit hlen (HOK.out.lab.grown HT4.out.gr (by simp)) HOK.out.len (by have := HOK.out.lz; omega)).mono ?_
      rintro e w5 ⟨rfl, hg5⟩
      have HT5 : Hid (Two w0 w5 hb rb lim N P S B R) := HT4.out.grew hg5
      have HG35 : Hid (w3.grownBy w5 none) := HG34.out.trans hg5
      have HST5 : Hid (Step wr w5 (U B R) (U B R)) := Step.grown _ (HG3.out.trans HG35.out)
      have y0 := hg5.cell u0 (by simp)
      have y1 := hg5.cell v1 (by simp)
      have HLO5 : Hid (LOwn w5 gb g (L + 2) c (ls ++ sp2)) := HLO3.out.kept HG35.out (by simp)
      have HNG : Hid (∀ k, U B R k → ¬ k = g) := fun k hU e => by
        have := (HT.out.lt k hU).2
        have := HGN.out.1
        omega
      clear hg5 hfit hlen hpt u0 v0 v1 v2 v3 HT4 HT3 HLO3 HRL3 HG34 HG35
      generalize fateR lim S ls T V = FT at *

      go_wp2_with fail
      refine (lkept la ls gb g L c lc w5 (HOK.out.lab.grown HT5.out.gr (by simp)) HOK.out.len HLO5.out HOK.out.lz).mono ?_
      rintro e w7 ⟨rfl, hg7⟩
      have HT7 : Hid (Two w0 w7 hb rb lim (N + 20020) (P + 1) S B R) := (HT5.out.others (X := fun k => k = g) (Kept.of hg7 (fun k hk => (Option.some.inj hk).symm)) (fun k hU e => HNG.out k hU e) (fun k e => by rw [e]; have := HGN.out.1; have := HT.out.gr.size; omega)).mono (by omega) (by omega)
      have HST7 : Hid (Step wr w7 (U B R) (U B R)) := HST5.out.behind (X := fun k => k = g) (Kept.of hg7 (fun k hk => (Option.some.inj hk).symm)) (fun k e => by rw [e]; exact HGN.out.1)
      clear hg7 HT5 HST5 HNG

      have HFS : Hid (Fits S) := (HT7.out.fits (by omega)).1
      have hc1 := h_count w0.heap.size hb lim _ _ S B w7 HT7.out.head (by omega)
      have hc2 := r_count w0.heap.size rb lim S R w7 HT7.out.ref HFS.out
      have HSP : Hid (Calls Tryz.prog 22 #[.pointer (some ⟨hb, 0, none⟩)] w7 fun e w' => e = .returned (.tuple #[.int .i64 (if S = [] then 0 else loS S), .int .i64 (if S = [] then 0 else hiS S), .bool (decide (S ≠ []))]) ∧ w7.grownBy w' none) := h_span w0.heap.size hb lim _ _ S B w7 HT7.out.head (by omega)
      have HSQ : Hid (∀ w', w7.grownBy w' none → Calls Tryz.prog 34 #[.pointer (some ⟨rb, 0, none⟩)] w' fun e w'' => e = .returned (.tuple #[.int .i64 (if S = [] then 0 else loS S), .int .i64 (if S = [] then 0 else hiS S), .bool (decide (S ≠ []))]) ∧ w' = w'') := fun w' hg => r_span w0.heap.size rb lim S R w' (HT7.out.ref.grown hg) HFS.out
      have HEND : Hid (∀ w', w7.grownBy w' none → ∃ S' B' R', Two w0 w' hb rb lim (N + 20020) (P + 1) S' B' R' ∧ Step wr w' (U B R) (U B' R')) := fun w' hg => ⟨S, B, R, HT7.out.grew hg, HST7.out.trans (Step.grown _ hg)⟩
      have HC1 : Hid (Calls Tryz.prog 16 #[.pointer (some ⟨hb, 0, none⟩)] w7 fun e w' => e = .returned (.tuple #[.int .i64 S.length, .int .i64 (ptsN S)]) ∧ w7 = w') := hc1
      have HC2 : Hid (Calls Tryz.prog 33 #[.pointer (some ⟨rb, 0, none⟩)] w7 fun e w' => e = .returned (.tuple #[.int .i64 S.length, .int .i64 (ptsN S)]) ∧ w7 = w') := hc2
      generalize (if S = [] then (0 : Int) else loS S) = slo at HSP HSQ
      generalize (if S = [] then (0 : Int) else hiS S) = shi at HSP HSQ
      generalize decide (S ≠ []) = sb9 at HSP HSQ
      generalize S.length = sl9 at HC1 HC2
      generalize ptsN S = sp9 at HC1 HC2
      clear hc1 hc2 HFS HT7 HST7
      go_wp2_with fail
      refine HC1.out.mono ?_
      rintro e wx ⟨rfl, rfl⟩
      go_wp2_with fail
      refine HC2.out.mono ?_
      rintro e wx ⟨rfl, rfl⟩
      go_wp2_with fail
      refine HSP.out.mono ?_
      rintro e w9 ⟨rfl, hg9⟩
      have HG9 : Hid (w7.grownBy w9 none) := hg9
      clear hg9
      go_wp2_with fail
      refine (HSQ.out w9 HG9.out).mono ?_
      rintro e wx ⟨rfl, rfl⟩
      go_wp2
      go_ret
      exact ⟨rfl, HEND.out _ HG9.out⟩
    · have k1' : (kd == 1) = false := by simpa using k1
      by_cases k2 : kd = 2
      · subst k2
        have HTW : Hid (Two w0 W hb rb lim N P S B R) := HT.out.grew HGA.out
        go_wp2_with fail
        refine (Mt.mlend ma ms mn mc W (HOK.out.mat.grown HTW.out.gr (by simp)) HOK.out.mlen HOK.out.mnil HOK.out.mz).mono ?_
        rintro e w2 ⟨g, c, rfl, ho, hg⟩
        have HMO : Hid (Mt.MOwn w2 W.heap.size g (mn + 2) c (ms ++ Mt.msp2)) := ho
        have HG2 : Hid (W.grownBy w2 none) := hg
        have HT2 : Hid (Two w0 w2 hb rb lim N P S B R) := HTW.out.grew hg
        have HGN : Hid (wr.heap.size ≤ g ∧ g < w2.heap.size) := by
          have h6 := ho.ge
          have h7 := HGA.out.size
          exact ⟨by omega, h6.2⟩
        have e4 := hg.cell d4 (by simp)
        have e5 := hg.cell d5 (by simp)
        have e6 := hg.cell d6 (by simp)
        have HSEL : Hid (Calls Tryz.prog 12 #[.pointer (some ⟨hb, 0, none⟩), .slice (some ⟨g, 0, none⟩) mn c, .int .i64 f, .int .i64 t] w2 fun e w' => ∃ v, e = .returned v ∧ SerOut w' (fun k => w2.heap.size ≤ k) v (selS (Mt.saysR ms) f t S) ∧ w2.grownBy w' none) := by
          rw [← HOK.out.mlen]
          exact h_selectM w0.heap.size hb lim N P S B (some ⟨g, 0, none⟩) ms c f t w2 HT2.out.head (by omega) ho.head HOK.out.ok (HOK.out.mx.grown HT2.out.gr)
        clear ho hg d0 d1 d2 d3 d4 d5 d6
        go_wp2_with fail
        refine HSEL.out.mono ?_
        rintro e w3 ⟨v, rfl, hso, hg3⟩
        obtain ⟨a3, c3, r3, rfl, _⟩ := hso.read
        have HSO : Hid (SerOut w3 (fun k => w2.heap.size ≤ k) (.slice a3 (selS (Mt.saysR ms) f t S).length c3) (selS (Mt.saysR ms) f t S)) := hso
        have HG3 : Hid (w2.grownBy w3 none) := hg3
        have e4' := hg3.cell e4 (by simp)
        have e5' := hg3.cell e5 (by simp)
        have e6' := hg3.cell e6 (by simp)
        have HFI : Hid (Fits S) := (HT.out.fits (by omega)).1
        have HSM : Hid ((selS (Mt.saysR ms) f t S).length ≤ 1024 ∧ ∀ s ∈ selS (Mt.saysR ms) f t S, s.1.length ≤ 16 ∧ s.2.length ≤ 8796093022206) := by
          obtain ⟨q1, q2⟩ := sel_small9 (Mt.saysR ms) f t HFI.out
          exact ⟨q1, q2⟩
        clear hso hg3 e4 e5 e6 HSEL
        generalize hT : selS (Mt.saysR ms) f t S = TS at HSO HSM ⊢
        have HTS : Hid (selS (Mt.saysR ms) f t S = TS) := hT
        obtain ⟨QL, eQL⟩ : ∃ QL, QL = TS.length := ⟨_, rfl⟩
        have EQL : Hid (TS.length = QL) := eQL.symm
        rw [← eQL] at HSO ⊢
        clear hT eQL
        go_wp2_with fail
        refine (Mt.mkept ma ms W.heap.size g mn c mc w3 (HOK.out.mat.grown (HT2.out.gr.trans HG3.out) (by simp)) HOK.out.mlen (HMO.out.kept HG3.out (by simp)) HOK.out.mz).mono ?_
        rintro e w4 ⟨rfl, hg4⟩
        have hz23 := HG3.out.size
        have HG04 : Hid (wr.grownBy w4 none) := gb_trans ((HGA.out.trans HG2.out).trans HG3.out) hg4 (fun k hk => .inl (by cases hk; exact HGN.out.1))
        have cst : ∀ (o : Nat) (v : Value), w3.cell? ⟨ab, o, none⟩ = some v → w4.cell? ⟨ab, o, none⟩ = some v := fun o v hv => cell_stays hg4 (World.block_lt_of_cell? _ _ hv) (fun e => by
          have h6 := (Array.getElem?_eq_some_iff.1 HRA.out).1
          have h7 := HMO.out.ge
          have := Option.some.inj e
          omega) hv
        have f4 := cst 4 _ e4'
        have f5 := cst 5 _ e5'
        have f6 := cst 6 _ e6'
        have HSO4 : Hid (SerOut w4 (fun k => w2.heap.size ≤ k) (.slice a3 QL c3) TS) := HSO.out.stay (fun k hk hX => hg4.block k hk (fun e => by have := Option.some.inj e; have := HGN.out.2; omega)) (fun k h => h)
        have HT4 : Hid (Two w0 w4 hb rb lim N P S B R) := HT.out.grew HG04.out
        have HW2 : Hid (wr.heap.size ≤ w2.heap.size) := (HGA.out.trans HG2.out).size
        clear hg4 hz23 cst e4' e5' e6' HSO HG3 HG2 HMO
        go_wp2_with fail
        refine (r_select w0.heap.size rb lim S R ma ms mn mc f t w4 HT4.out.ref HFI.out (HOK.out.mat.grown HT4.out.gr (by simp)) HOK.out.mlen (by have := HOK.out.mz; omega) (fun m hm => by have := HOK.out.ok.val m hm; omega)).mono ?_
        rintro e w5 ⟨v5, rfl, ⟨r5, hsr5⟩, hg5⟩
        rw [HTS.out] at hsr5
        obtain ⟨a5, c5, rfl⟩ := sown_slice hsr5.own
        have HSO5 : Hid (SerOut w5 (fun k => w2.heap.size ≤ k) (.slice a3 QL c3) TS) := HSO4.out.grown hg5
        have HSR5 : Hid (SerOut w5 (fun k => w4.heap.size ≤ k) (.slice a5 TS.length c5) TS) := hsr5.out
        have HG5 : Hid (wr.grownBy w5 none) := HG04.out.trans hg5
        clear hsr5 hg5 HSO4 f4 f5 f6
        rw [EQL.out] at HSR5 ⊢
        go_wp2_with fail
        refine (same_of HSO5.out HSR5.out HSM.out.1 (fun s hs => ⟨by have := (HSM.out.2 s hs).1; omega, by have := (HSM.out.2 s hs).2; omega⟩)).mono ?_
        rintro e w6 ⟨rfl, hg6⟩
        rw [decide_eq_true (rfl : TS = TS)]
        have HSO6 : Hid (SerOut w6 (fun k => w2.heap.size ≤ k) (.slice a3 QL c3) TS) := HSO5.out.grown hg6
        have HG6 : Hid (wr.grownBy w6 none) := HG5.out.trans hg6
        clear hg6 HSO5 HSR5 HG5
        go_wp2_with fail
        refine (h_spoil (.slice a3 QL c3) _ TS w6 HSO6.out HSM.out.1 (fun s hs => ⟨by have := (HSM.out.2 s hs).1; omega, (HSM.out.2 s hs).2⟩)).mono ?_
        rintro e w7 ⟨rfl, hk7⟩
        have HG7 : Hid (wr.grownBy w7 none) := ((Kept.of (X := fun k => wr.heap.size ≤ k) HG6.out (by simp)).trans hk7 (fun k _ hx => Nat.le_trans HW2.out hx)).grown (fun k hk h => by omega)
        have HT7 : Hid (Two w0 w7 hb rb lim (N + 20020) (P + 1) S B R) := (HT.out.grew HG7.out).mono (by omega) (by omega)
        have HST7 : Hid (Step wr w7 (U B R) (U B R)) := Step.grown _ HG7.out
        clear hk7 HG6 HSO6 HT4 HT2 HTW HGA HFI HSM

        have HFS : Hid (Fits S) := (HT7.out.fits (by omega)).1
        have hc1 := h_count w0.heap.size hb lim _ _ S B w7 HT7.out.head (by omega)
        have hc2 := r_count w0.heap.size rb lim S R w7 HT7.out.ref HFS.out
        have HSP : Hid (Calls Tryz.prog 22 #[.pointer (some ⟨hb, 0, none⟩)] w7 fun e w' => e = .returned (.tuple #[.int .i64 (if S = [] then 0 else loS S), .int .i64 (if S = [] then 0 else hiS S), .bool (decide (S ≠ []))]) ∧ w7.grownBy w' none) := h_span w0.heap.size hb lim _ _ S B w7 HT7.out.head (by omega)
        have HSQ : Hid (∀ w', w7.grownBy w' none → Calls Tryz.prog 34 #[.pointer (some ⟨rb, 0, none⟩)] w' fun e w'' => e = .returned (.tuple #[.int .i64 (if S = [] then 0 else loS S), .int .i64 (if S = [] then 0 else hiS S), .bool (decide (S ≠ []))]) ∧ w' = w'') := fun w' hg => r_span w0.heap.size rb lim S R w' (HT7.out.ref.grown hg) HFS.out
        have HEND : Hid (∀ w', w7.grownBy w' none → ∃ S' B' R', Two w0 w' hb rb lim (N + 20020) (P + 1) S' B' R' ∧ Step wr w' (U B R) (U B' R')) := fun w' hg => ⟨S, B, R, HT7.out.grew hg, HST7.out.trans (Step.grown _ hg)⟩
        have HC1 : Hid (Calls Tryz.prog 16 #[.pointer (some ⟨hb, 0, none⟩)] w7 fun e w' => e = .returned (.tuple #[.int .i64 S.length, .int .i64 (ptsN S)]) ∧ w7 = w') := hc1
        have HC2 : Hid (Calls Tryz.prog 33 #[.pointer (some ⟨rb, 0, none⟩)] w7 fun e w' => e = .returned (.tuple #[.int .i64 S.length, .int .i64 (ptsN S)]) ∧ w7 = w') := hc2
        generalize (if S = [] then (0 : Int) else loS S) = slo at HSP HSQ
        generalize (if S = [] then (0 : Int) else hiS S) = shi at HSP HSQ
        generalize decide (S ≠ []) = sb9 at HSP HSQ
        generalize S.length = sl9 at HC1 HC2
        generalize ptsN S = sp9 at HC1 HC2
        clear hc1 hc2 HFS HT7 HST7
        go_wp2_with fail
        refine HC1.out.mono ?_
        rintro e wx ⟨rfl, rfl⟩
        go_wp2_with fail
        refine HC2.out.mono ?_
        rintro e wx ⟨rfl, rfl⟩
        go_wp2_with fail
        refine HSP.out.mono ?_
        rintro e w9 ⟨rfl, hg9⟩
        have HG9 : Hid (w7.grownBy w9 none) := hg9
        clear hg9
        go_wp2_with fail
        refine (HSQ.out w9 HG9.out).mono ?_
        rintro e wx ⟨rfl, rfl⟩
        go_wp2
        go_ret
        exact ⟨rfl, HEND.out _ HG9.out⟩
      · have k2' : (kd == 2) = false := by simpa using k2
        have HTW : Hid (Two w0 W hb rb lim N P S B R) := HT.out.grew HGA.out
        go_wp2_with fail
        refine (h_cut w0.heap.size hb lim N P S B f W HTW.out.head (by omega) (by omega)).mono ?_
        rintro e w2 ⟨v1, X1, B1, rfl, hso, hh2, hs2, hx2⟩
        obtain ⟨a1, c1, r1, rfl, _⟩ := hso.read
        obtain ⟨hr2, hd2, hg2⟩ := HTW.out.first hh2 hs2
        have HSO : Hid (SerOut w2 (fun k => X1 k ∧ k < w2.heap.size) (.slice a1 (keepS (lowT f) S).length c1) (keepS (lowT f) S)) := hso.bound
        have HH2 : Hid (HeadAt w2 w0.heap.size hb lim (N + 20000) P (keepS (highT f) S) B1) := hh2
        have HS2 : Hid (Step W w2 B B1) := hs2
        have HX2 : Hid (∀ k, X1 k → W.heap.size ≤ k ∧ ¬ B1 k) := hx2
        have HR2 : Hid (RefAt w2 w0.heap.size rb lim S R) := hr2
        have HABL : Hid (ab < W.heap.size) := (Array.getElem?_eq_some_iff.1 HRA.out).1
        have HNB : Hid (¬ B ab) := fun h => by have := (HT.out.head.blocks ab h).2; have := HABW.out; omega
        have e5 := cell_kept hs2.1 HABL.out HNB.out d5
        have HFI : Hid (Fits S) := (HT.out.fits (by omega)).1
        have HSM : Hid ((keepS (lowT f) S).length ≤ 1024 ∧ ∀ s ∈ keepS (lowT f) S, s.1.length ≤ 16 ∧ s.2.length ≤ 8796093022206) :=
          ⟨Nat.le_trans (keepS_len _ _) HFI.out.2.1, fun s hs => by
            obtain ⟨x, hx, _, rfl⟩ := keepS_mem.1 hs
            exact ⟨HFI.out.lab x hx, Nat.le_trans (List.length_filter_le _ _) (HFI.out.2.2 x hx)⟩⟩
        clear hso hh2 hs2 hx2 hr2 hd2 hg2 d0 d1 d2 d3 d4 d5 d6
        generalize hT : keepS (lowT f) S = TS at HSO HSM ⊢
        have HTS : Hid (keepS (lowT f) S = TS) := hT
        obtain ⟨QL, eQL⟩ : ∃ QL, QL = TS.length := ⟨_, rfl⟩
        have EQL : Hid (TS.length = QL) := eQL.symm
        rw [← eQL] at HSO ⊢
        clear hT eQL
        go_wp2_with fail
        refine (r_cut w0.heap.size rb lim S R f w2 HR2.out HFI.out hf2).mono ?_
        rintro e w3 ⟨v3, X3, R3, rfl, hso3, hr3, hs3, hx3⟩
        rw [HTS.out] at hso3
        obtain ⟨a3, c3, r3, rfl, _⟩ := hso3.read
        obtain ⟨ht3, hst3⟩ := HTW.out.second HH2.out HS2.out hr3 hs3
        have HT3 : Hid (Two w0 w3 hb rb lim (N + 20000) P (keepS (highT f) S) B1 R3) := ht3
        have HST3 : Hid (Step wr w3 (U B R) (U B1 R3)) := (Step.grown (U B R) HGA.out).trans hst3
        have HRW : Hid (∀ k, R k → k < W.heap.size) := fun k hk => (HTW.out.ref.blocks k hk).2
        have HSO3 : Hid (SerOut w3 (fun k => X1 k ∧ k < w2.heap.size) (.slice a1 QL c1) TS) := HSO.out.stay (fun k hk hX => hs3.1.block k hk (fun hR => by have := HRW.out k hR; have := (HX2.out k hX.1).1; omega)) (fun k h => h)
        have HSR3 : Hid (SerOut w3 X3 (.slice a3 TS.length c3) TS) := hso3
        have HXU : Hid (∀ k, U B1 R3 k → ¬ (X1 k ∧ k < w2.heap.size)) := fun k hU hX => by
          rcases hU with hb | hR
          · exact (HX2.out k hX.1).2 hb
          · have := HRW.out k (hs3.2 k hX.2 hR)
            have := (HX2.out k hX.1).1
            omega
        have HXW : Hid (∀ k, (X1 k ∧ k < w2.heap.size) → wr.heap.size ≤ k) := fun k hX => Nat.le_trans HGA.out.size (HX2.out k hX.1).1
        clear hso3 hr3 hs3 hx3 ht3 hst3 HSO e5 HH2 HS2 HR2
        rw [EQL.out] at HSR3 ⊢
        go_wp2_with fail
        refine (same_of HSO3.out HSR3.out HSM.out.1 (fun s hs => ⟨by have := (HSM.out.2 s hs).1; omega, by have := (HSM.out.2 s hs).2; omega⟩)).mono ?_
        rintro e w4 ⟨rfl, hg4⟩
        rw [decide_eq_true (rfl : TS = TS)]
        have HSO4 : Hid (SerOut w4 (fun k => X1 k ∧ k < w2.heap.size) (.slice a1 QL c1) TS) := HSO3.out.grown hg4
        have HT4 : Hid (Two w0 w4 hb rb lim (N + 20000) P (keepS (highT f) S) B1 R3) := HT3.out.grew hg4
        have HST4 : Hid (Step wr w4 (U B R) (U B1 R3)) := HST3.out.trans (Step.grown _ hg4)
        clear hg4 HSO3 HSR3 HT3 HST3
        go_wp2_with fail
        refine (h_spoil (.slice a1 QL c1) _ TS w4 HSO4.out HSM.out.1 (fun s hs => ⟨by have := (HSM.out.2 s hs).1; omega, (HSM.out.2 s hs).2⟩)).mono ?_
        rintro e w7 ⟨rfl, hk7⟩
        have HT7 : Hid (Two w0 w7 hb rb lim (N + 20020) (P + 1) (keepS (highT f) S) B1 R3) := (HT4.out.others hk7 HXU.out (fun k hX => Nat.le_trans HT.out.gr.size (HXW.out k hX))).mono (by omega) (by omega)
        have HST7 : Hid (Step wr w7 (U B R) (U B1 R3)) := HST4.out.behind hk7 HXW.out
        clear hk7 HSO4 HT4 HST4 HTW HFI HSM HTS
        generalize keepS (highT f) S = S7 at HT7

        have HFS : Hid (Fits S7) := (HT7.out.fits (by omega)).1
        have hc1 := h_count w0.heap.size hb lim _ _ S7 B1 w7 HT7.out.head (by omega)
        have hc2 := r_count w0.heap.size rb lim S7 R3 w7 HT7.out.ref HFS.out
        have HSP : Hid (Calls Tryz.prog 22 #[.pointer (some ⟨hb, 0, none⟩)] w7 fun e w' => e = .returned (.tuple #[.int .i64 (if S7 = [] then 0 else loS S7), .int .i64 (if S7 = [] then 0 else hiS S7), .bool (decide (S7 ≠ []))]) ∧ w7.grownBy w' none) := h_span w0.heap.size hb lim _ _ S7 B1 w7 HT7.out.head (by omega)
        have HSQ : Hid (∀ w', w7.grownBy w' none → Calls Tryz.prog 34 #[.pointer (some ⟨rb, 0, none⟩)] w' fun e w'' => e = .returned (.tuple #[.int .i64 (if S7 = [] then 0 else loS S7), .int .i64 (if S7 = [] then 0 else hiS S7), .bool (decide (S7 ≠ []))]) ∧ w' = w'') := fun w' hg => r_span w0.heap.size rb lim S7 R3 w' (HT7.out.ref.grown hg) HFS.out
        have HEND : Hid (∀ w', w7.grownBy w' none → ∃ S' B' R', Two w0 w' hb rb lim (N + 20020) (P + 1) S' B' R' ∧ Step wr w' (U B R) (U B' R')) := fun w' hg => ⟨S7, B1, R3, HT7.out.grew hg, HST7.out.trans (Step.grown _ hg)⟩
        have HC1 : Hid (Calls Tryz.prog 16 #[.pointer (some ⟨hb, 0, none⟩)] w7 fun e w' => e = .returned (.tuple #[.int .i64 S7.length, .int .i64 (ptsN S7)]) ∧ w7 = w') := hc1
        have HC2 : Hid (Calls Tryz.prog 33 #[.pointer (some ⟨rb, 0, none⟩)] w7 fun e w' => e = .returned (.tuple #[.int .i64 S7.length, .int .i64 (ptsN S7)]) ∧ w7 = w') := hc2
        generalize (if S7 = [] then (0 : Int) else loS S7) = slo at HSP HSQ
        generalize (if S7 = [] then (0 : Int) else hiS S7) = shi at HSP HSQ
        generalize decide (S7 ≠ []) = sb9 at HSP HSQ
        generalize S7.length = sl9 at HC1 HC2
        generalize ptsN S7 = sp9 at HC1 HC2
        clear hc1 hc2 HFS HT7 HST7
        go_wp2_with fail
        refine HC1.out.mono ?_
        rintro e wx ⟨rfl, rfl⟩
        go_wp2_with fail
        refine HC2.out.mono ?_
        rintro e wx ⟨rfl, rfl⟩
        go_wp2_with fail
        refine HSP.out.mono ?_
        rintro e w9 ⟨rfl, hg9⟩
        have HG9 : Hid (w7.grownBy w9 none) := hg9
        clear hg9
        go_wp2_with fail
        refine (HSQ.out w9 HG9.out).mono ?_
        rintro e wx ⟨rfl, rfl⟩
        go_wp2
        go_ret
        exact ⟨rfl, HEND.out _ HG9.out⟩
end Go.Proofs.YtpabbmiibehfjaaGreatDoor

