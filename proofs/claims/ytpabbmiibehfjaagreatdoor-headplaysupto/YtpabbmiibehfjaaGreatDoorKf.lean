/- Several texts in one: Jm, Jn. -/
import Derived.Test.YtpabbmiibehfjaaGreatDoorKe
import Derived.Test.YtpabbmiibehfjaaGreatDoorGt
import Derived.Test.YtpabbmiibehfjaaGreatDoorGv
import Derived.Test.YtpabbmiibehfjaaGreatDoorIy
/- HeadPlays: the walk. -/
namespace Go.Proofs.YtpabbmiibehfjaaGreatDoor
open Go.RowKit Go.Maps
set_option linter.unusedVariables false
set_option maxRecDepth 20000

abbrev ActR := Int × Sv × Int × Int × Sv × Int × Int
def actE : Elem ActR where
  cells q := [.int .i64 q.1, svV q.2.1, .int .i64 q.2.2.1, .int .u64 q.2.2.2.1, svV q.2.2.2.2.1, .int .i64 q.2.2.2.2.2.1, .int .i64 q.2.2.2.2.2.2]
  size := 7
  pos := by decide
  len _ := rfl
  one q v h := by
    simp only [List.mem_cons, List.mem_nil_iff, or_false] at h
    rcases h with rfl | rfl | rfl | rfl | rfl | rfl | rfl <;> rfl
/-- A script that can be read. -/
structure ActRd (w : World) (a : Option Addr) (raw : List ActR) : Prop where
  rd : SRd actE w a raw
  act : ∀ r ∈ raw, ∃ ls ms, ActOk w r.2.1.1 ls r.2.1.2.1 r.2.1.2.2 r.2.2.2.2.1.1 ms r.2.2.2.2.1.2.1 r.2.2.2.2.1.2.2
  top : ∀ r ∈ raw, r.2.2.2.2.2.1 ≤ 9223372036854775807
theorem act_cells {w : World} {a : Option Addr} {raw : List ActR} (h : SRd actE w a raw) {k : Nat} {kd T V f t : Int} {l m : Sv} (hr : raw[k]? = some (kd, l, T, V, m, f, t)) : ∃ b off, a = some ⟨b, off, none⟩ ∧ w.cell? ⟨b, off + k * 7, none⟩ = some (.int .i64 kd) ∧ w.cell? ⟨b, off + k * 7 + 1, none⟩ = some (svV l) ∧ w.cell? ⟨b, off + k * 7 + 2, none⟩ = some (.int .i64 T) ∧ w.cell? ⟨b, off + k * 7 + 3, none⟩ = some (.int .u64 V) ∧ w.cell? ⟨b, off + k * 7 + 4, none⟩ = some (svV m) ∧ w.cell? ⟨b, off + k * 7 + 5, none⟩ = some (.int .i64 f) ∧ w.cell? ⟨b, off + k * 7 + 6, none⟩ = some (.int .i64 t) := by
  obtain ⟨b, off, rfl, hc⟩ := h.at (by have := (List.getElem?_eq_some_iff.1 hr).1; omega)
  exact ⟨b, off, rfl, hc k _ 0 _ hr rfl, by rw [Nat.add_assoc]; exact hc k _ 1 _ hr rfl, by rw [Nat.add_assoc]; exact hc k _ 2 _ hr rfl, by rw [Nat.add_assoc]; exact hc k _ 3 _ hr rfl, by rw [Nat.add_assoc]; exact hc k _ 4 _ hr rfl, by rw [Nat.add_assoc]; exact hc k _ 5 _ hr rfl, by rw [Nat.add_assoc]; exact hc k _ 6 _ hr rfl⟩
/-- Two heads, each beside the document's. -/
structure Four (w wr : World) (hb rb gb vb lim N P : Nat) (S1 : List Ser) (B1 R1 : Nat → Prop) (S2 : List Ser) (B2 R2 : Nat → Prop) : Prop where
  one : Two w wr hb rb lim N P S1 B1 R1
  two : Two w wr gb vb lim N P S2 B2 R2
  sep : ∀ k, U B1 R1 k → ¬ U B2 R2 k
theorem Four.turn {w wr w' : World} {hb rb gb vb lim N P N' P' : Nat} {S1 S2 S1' : List Ser} {B1 R1 B2 R2 B1' R1' : Nat → Prop} (h : Four w wr hb rb gb vb lim N P S1 B1 R1 S2 B2 R2) (h1 : Two w w' hb rb lim N' P' S1' B1' R1') (hs : Step wr w' (U B1 R1) (U B1' R1')) (hN : N ≤ N') (hP : P ≤ P') : Four w w' hb rb gb vb lim N' P' S1' B1' R1' S2 B2 R2 :=
  ⟨h1, (h.two.others hs.1 (fun k h2 hx => h.sep k hx h2) (fun k hx => (h.one.lt k hx).1)).mono hN hP, fun k hU h2 => h.sep k (hs.2 k (h.two.lt k h2).2 hU) h2⟩
theorem Four.swap {w wr : World} {hb rb gb vb lim N P : Nat} {S1 S2 : List Ser} {B1 R1 B2 R2 : Nat → Prop} (h : Four w wr hb rb gb vb lim N P S1 B1 R1 S2 B2 R2) : Four w wr gb vb hb rb lim N P S2 B2 R2 S1 B1 R1 := ⟨h.two, h.one, fun k h1 h2 => h.sep k h2 h1⟩
theorem Four.grew {w wr w' : World} {hb rb gb vb lim N P : Nat} {S1 S2 : List Ser} {B1 R1 B2 R2 : Nat → Prop} (h : Four w wr hb rb gb vb lim N P S1 B1 R1 S2 B2 R2) (hg : wr.grownBy w' none) : Four w w' hb rb gb vb lim N P S1 B1 R1 S2 B2 R2 := ⟨h.one.grew hg, h.two.grew hg, h.sep⟩
theorem Four.mono {w wr : World} {hb rb gb vb lim N P N' P' : Nat} {S1 S2 : List Ser} {B1 R1 B2 R2 : Nat → Prop} (h : Four w wr hb rb gb vb lim N P S1 B1 R1 S2 B2 R2) (hN : N ≤ N') (hP : P ≤ P') : Four w wr hb rb gb vb lim N' P' S1 B1 R1 S2 B2 R2 := ⟨h.one.mono hN hP, h.two.mono hN hP, h.sep⟩
theorem tmod_two (k : Nat) : (k : Int).tmod 2 = ((k % 2 : Nat) : Int) := by rw [Int.tmod_eq_emod_of_nonneg (by omega)]; omega
/-- What is asked at the end. -/
theorem Two.all {w wr : World} {hb rb lim N P : Nat} {S : List Ser} {B R : Nat → Prop} (h : Two w wr hb rb lim N P S B R) (hP : P ≤ 8796093022206) : ∃ a c, wr.cell? ⟨rb, 1, none⟩ = some (.slice a S.length c) ∧ (∀ w', wr.grownBy w' none → Calls Tryz.prog 12 #[.pointer (some ⟨hb, 0, none⟩), .slice none 0 0, .int .i64 (-1099511627776), .int .i64 1099511627776] w' fun e w'' => ∃ b k, e = .returned (.slice b S.length k) ∧ SerOut w'' (fun k => ¬ B k) (.slice b S.length k) S ∧ w'.grownBy w'' none) ∧ ∀ w' b k, wr.grownBy w' none → (∃ X, SerOut w' X (.slice b S.length k) S) → Calls Tryz.prog 11 #[.slice b S.length k, .slice a S.length c] w' fun e w'' => e = .returned (.bool true) ∧ w'.grownBy w'' none := by
  obtain ⟨hfit, hlen, hpt⟩ := h.fits hP
  obtain ⟨a, c, raw, hI⟩ := h.ref
  refine ⟨a, c, hI.cells.2, fun w' hg => ?_, fun w' b k hg ⟨X, ho⟩ => ?_⟩
  · have hr : RunAt w w' hb lim N P S B := ⟨h.head.kept hg, h.gr.trans hg⟩
    refine (selectR (-1099511627776) 1099511627776 hr hP).mono ?_
    rintro e w'' ⟨b, k, rfl, ho, _, hg2⟩
    rw [good_all hfit.1] at ho ⊢
    exact ⟨b, k, rfl, ho, hg2⟩
  · have h1 := same_of ho (hI.ser.grown hg).out hfit.2.1 (fun s hs => ⟨by have := hfit.lab s hs; omega, by have := hfit.2.2 s hs; omega⟩)
    rw [decide_eq_true (rfl : S = S)] at h1
    exact h1
set_option maxHeartbeats 16000000 in
theorem plays_walk (x : Int) (a : Option Addr) (raw : List ActR) (c : Nat) (w : World) (hq : ActRd w a raw) (hz : raw.length ≤ 1048576) :
    Calls Tryz.prog 3 #[.int .i64 x, .slice a raw.length c] w fun e w' => e = .returned (.bool true) ∧ w.grownBy w' none := by
  have HQ : Hid (ActRd w a raw) := hq
  have HN : Hid (∀ w1, w.heap.size ≤ w1.heap.size → Calls Tryz.prog 8 #[.int .i64 x] w1 fun e w' => ∃ hb B, e = .returned (.pointer (some ⟨hb, 0, none⟩)) ∧ HeadAt w' w.heap.size hb (limR x) 0 0 [] B ∧ w1.grownBy w' none ∧ ∀ k, B k → w1.heap.size ≤ k) := fun w1 hg => h_new w.heap.size x w1 hg
  have HM : Hid (∀ w1, w.heap.size ≤ w1.heap.size → Calls Tryz.prog 9 #[.int .i64 x] w1 fun e w' => ∃ R, e = .returned (.pointer (some ⟨w1.heap.size, 0, none⟩)) ∧ RefAt w' w.heap.size w1.heap.size (limR x) [] R ∧ w1.grownBy w' none ∧ ∀ k, R k → w1.heap.size ≤ k) := fun w1 hg => r_new w.heap.size x w1 hg
  obtain ⟨M, eM⟩ : ∃ M, M = raw.length := ⟨_, rfl⟩
  have EM : Hid (M = raw.length) := eM
  rw [← eM] at hz ⊢
  generalize limR x = lim at HN HM
  clear hq eM
  go_enter Tryz.func3, Tryz.ntmps3
  go_wp2_with fail
  refine (HN.out w (Nat.le_refl _)).mono ?_
  rintro e w1 ⟨hb, B1, rfl, hh1, hg1, hb1⟩
  have HH1 : Hid (HeadAt w1 w.heap.size hb lim 0 0 [] B1 ∧ ∀ k, B1 k → w.heap.size ≤ k) := ⟨hh1, hb1⟩
  have HG1 : Hid (w.grownBy w1 none) := hg1
  clear hh1 hg1 hb1
  go_wp2_with fail
  refine (HN.out w1 HG1.out.size).mono ?_
  rintro e w2 ⟨gb, B2, rfl, hh2, hg2, hb2⟩
  have HH2 : Hid (HeadAt w2 w.heap.size gb lim 0 0 [] B2 ∧ ∀ k, B2 k → w1.heap.size ≤ k) := ⟨hh2, hb2⟩
  have HG2 : Hid (w1.grownBy w2 none) := hg2
  clear hh2 hg2 hb2
  go_wp2_with fail
  refine (HM.out w2 (HG1.out.trans HG2.out).size).mono ?_
  rintro e w3 ⟨R1, rfl, hr1, hg3, hb3⟩
  have HR1 : Hid (RefAt w3 w.heap.size w2.heap.size lim [] R1 ∧ ∀ k, R1 k → w2.heap.size ≤ k) := ⟨hr1, hb3⟩
  have HG3 : Hid (w2.grownBy w3 none) := hg3
  clear hr1 hg3 hb3
  go_wp2_with fail
  refine (HM.out w3 ((HG1.out.trans HG2.out).trans HG3.out).size).mono ?_
  rintro e w4 ⟨R2, rfl, hr2, hg4, hb4⟩
  have HF0 : Hid (Four w w4 hb w2.heap.size gb w3.heap.size lim (40040 * 0) (2 * 0) [] B1 R1 [] B2 R2) := by
    have hg24 := HG3.out.trans hg4
    have hgw := (HG1.out.trans HG2.out).trans hg24
    have z1 := HH1.out.1.blocks
    have z2 := HH2.out.1.blocks
    have z3 := HR1.out.1.blocks
    have z4 := hr2.blocks
    have s12 := HG2.out.size
    have s23 := HG3.out.size
    refine ⟨⟨hgw, HH1.out.1.kept (HG2.out.trans hg24), HR1.out.1.grown hg4, fun k hb hr => ?_⟩, ⟨hgw, HH2.out.1.kept hg24, hr2, fun k hb hr => ?_⟩, fun k h1 h2 => ?_⟩
    · have := (z1 k hb).2; have := HR1.out.2 k hr; omega
    · have := (z2 k hb).2; have := hb4 k hr; omega
    · rcases h1 with h1 | h1 <;> rcases h2 with h2 | h2
      · have := (z1 k h1).2; have := HH2.out.2 k h2; omega
      · have := (z1 k h1).2; have := hb4 k h2; omega
      · have := (z2 k h2).2; have := HR1.out.2 k h1; omega
      · have := (z3 k h1).2; have := hb4 k h2; omega
  clear hr2 hg4 hb4 HH1 HH2 HR1 HG1 HG2 HG3 HN HM
  generalize w2.heap.size = rb at HF0 ⊢
  generalize w3.heap.size = vb at HF0 ⊢
  go_wp2
  go_loopw [9] (fun i wr => ∃ (k : Nat) (S1 : List Ser) (B1 R1 : Nat → Prop) (S2 : List Ser) (B2 R2 : Nat → Prop), k ≤ M ∧ i = .int .i64 k ∧ Four w wr hb rb gb vb lim (40040 * k) (2 * k) S1 B1 R1 S2 B2 R2) (fun i _ => M - (intOf i).toNat)
  case atStart => exact ⟨0, _, _, _, _, _, _, Nat.zero_le _, rfl, HF0.out⟩
  case round =>
    obtain ⟨k, S1, B1, R1, S2, B2, R2, hk, rfl, hfour⟩ := hrel
    have HF : Hid (Four w wr hb rb gb vb lim (40040 * k) (2 * k) S1 B1 R1 S2 B2 R2) := hfour
    clear hfour HF0
    by_cases hlt : k < M
    · have hi : (k : Int) < (M : Int) := by omega
      obtain ⟨⟨kd, ⟨la, L, lc⟩, T, V, ⟨ma, mn, mc⟩, f, t⟩, hr⟩ : ∃ r, raw[k]? = some r := ⟨_, List.getElem?_eq_getElem (by have := EM.out; omega)⟩
      obtain ⟨ls, ms, hok⟩ := HQ.out.act _ (List.mem_of_getElem? hr)
      have hf2 := HQ.out.top _ (List.mem_of_getElem? hr)
      simp only at hok hf2
      have HOK : Hid (ActOk w la ls L lc ma ms mn mc) := hok
      obtain ⟨b, off, rfl, k0, k1, k2, k3, k4, k5, k6⟩ := act_cells HQ.out.rd hr
      simp only [svV] at k1 k4
      have HKC : Hid (w.cell? ⟨b, off + k * 7, none⟩ = some (.int .i64 kd) ∧ w.cell? ⟨b, off + k * 7 + 1, none⟩ = some (.slice la L lc) ∧ w.cell? ⟨b, off + k * 7 + 2, none⟩ = some (.int .i64 T) ∧ w.cell? ⟨b, off + k * 7 + 3, none⟩ = some (.int .u64 V) ∧ w.cell? ⟨b, off + k * 7 + 4, none⟩ = some (.slice ma mn mc) ∧ w.cell? ⟨b, off + k * 7 + 5, none⟩ = some (.int .i64 f) ∧ w.cell? ⟨b, off + k * 7 + 6, none⟩ = some (.int .i64 t)) := ⟨k0, k1, k2, k3, k4, k5, k6⟩
      have c0 := HF.out.one.gr.cell HKC.out.1 (by simp)
      have c1 := HF.out.one.gr.cell HKC.out.2.1 (by simp)
      have c2 := HF.out.one.gr.cell HKC.out.2.2.1 (by simp)
      have c3 := HF.out.one.gr.cell HKC.out.2.2.2.1 (by simp)
      have c4 := HF.out.one.gr.cell HKC.out.2.2.2.2.1 (by simp)
      have c5 := HF.out.one.gr.cell HKC.out.2.2.2.2.2.1 (by simp)
      have c6 := HF.out.one.gr.cell HKC.out.2.2.2.2.2.2 (by simp)
      clear hr hok k0 k1 k2 k3 k4 k5 k6
      go_wp2_with fail
      refine (told_walk w wr hb rb lim (40040 * k) (2 * k) S1 B1 R1 kd la ls L lc T V ma ms mn mc f t HF.out.one HOK.out (by omega) (by omega) hf2).mono ?_
      rintro e w5 ⟨rfl, S1', B1', R1', ht, hs⟩
      have HF5 : Hid (Four w w5 hb rb gb vb lim (40040 * k + 20020) (2 * k + 1) S1' B1' R1' S2 B2 R2) := HF.out.turn ht hs (by omega) (by omega)
      have e0 := HF5.out.one.gr.cell HKC.out.1 (by simp)
      have e1 := HF5.out.one.gr.cell HKC.out.2.1 (by simp)
      have e2 := HF5.out.one.gr.cell HKC.out.2.2.1 (by simp)
      have e3 := HF5.out.one.gr.cell HKC.out.2.2.2.1 (by simp)
      have e4 := HF5.out.one.gr.cell HKC.out.2.2.2.2.1 (by simp)
      have e5 := HF5.out.one.gr.cell HKC.out.2.2.2.2.2.1 (by simp)
      have e6 := HF5.out.one.gr.cell HKC.out.2.2.2.2.2.2 (by simp)
      have htm := tmod_two k
      clear ht hs HF c0 c1 c2 c3 c4 c5 c6
      by_cases hodd : k % 2 = 1
      · rw [hodd] at htm
        clear hodd
        go_wp2_with fail
        refine (told_walk w w5 gb vb lim (40040 * k + 20020) (2 * k + 1) S2 B2 R2 kd la ls L lc T V ma ms mn mc f t HF5.out.two HOK.out (by omega) (by omega) hf2).mono ?_
        rintro e w6 ⟨rfl, S2', B2', R2', ht, hs⟩
        have HF6 : Hid (Four w w6 hb rb gb vb lim (40040 * (k + 1)) (2 * (k + 1)) S1' B1' R1' S2' B2' R2') := ((HF5.out.swap.turn ht hs (by omega) (by omega)).swap).mono (by omega) (by omega)
        clear ht hs HF5 e0 e1 e2 e3 e4 e5 e6
        go_wp2
        go_roundw
        case rel => exact ⟨k + 1, _, _, _, _, _, _, by omega, by go_num, HF6.out⟩
        case measure => simp [intOf]; omega
      · have h0 : k % 2 = 0 := by omega
        rw [h0] at htm
        have HF6 : Hid (Four w w5 hb rb gb vb lim (40040 * (k + 1)) (2 * (k + 1)) S1' B1' R1' S2 B2 R2) := HF5.out.mono (by omega) (by omega)
        clear hodd h0 HF5 e0 e1 e2 e3 e4 e5 e6
        go_wp2
        go_roundw
        case rel => exact ⟨k + 1, _, _, _, _, _, _, by omega, by go_num, HF6.out⟩
        case measure => simp [intOf]; omega
    · obtain rfl : k = M := by omega
      have hi : ¬ (k : Int) < (k : Int) := by omega
      obtain ⟨a1, c1, e1, hsel1, hsam1⟩ := HF.out.one.all (by omega)
      obtain ⟨a2, c2, e2, hsel2, hsam2⟩ := HF.out.two.all (by omega)
      have HGW : Hid (w.grownBy wr none) := HF.out.one.gr
      have HSA : Hid (∀ w', wr.grownBy w' none → Calls Tryz.prog 12 #[.pointer (some ⟨hb, 0, none⟩), .slice none 0 0, .int .i64 (-1099511627776), .int .i64 1099511627776] w' fun e w'' => ∃ b k, e = .returned (.slice b S1.length k) ∧ SerOut w'' (fun k => ¬ B1 k) (.slice b S1.length k) S1 ∧ w'.grownBy w'' none) := hsel1
      have HSS1 : Hid (∀ w' b k, wr.grownBy w' none → (∃ X, SerOut w' X (.slice b S1.length k) S1) → Calls Tryz.prog 11 #[.slice b S1.length k, .slice a1 S1.length c1] w' fun e w'' => e = .returned (.bool true) ∧ w'.grownBy w'' none) := hsam1
      have HSB : Hid (∀ w', wr.grownBy w' none → Calls Tryz.prog 12 #[.pointer (some ⟨gb, 0, none⟩), .slice none 0 0, .int .i64 (-1099511627776), .int .i64 1099511627776] w' fun e w'' => ∃ b k, e = .returned (.slice b S2.length k) ∧ SerOut w'' (fun k => ¬ B2 k) (.slice b S2.length k) S2 ∧ w'.grownBy w'' none) := hsel2
      have HSS2 : Hid (∀ w' b k, wr.grownBy w' none → (∃ X, SerOut w' X (.slice b S2.length k) S2) → Calls Tryz.prog 11 #[.slice b S2.length k, .slice a2 S2.length c2] w' fun e w'' => e = .returned (.bool true) ∧ w'.grownBy w'' none) := hsam2
      generalize S1.length = n1 at e1 HSA HSS1
      generalize S2.length = n2 at e2 HSB HSS2
      have HD0 : Hid (wr.grownBy wr.drew none) := gb_drew (World.grownBy.refl _ _)
      clear hsel1 hsam1 hsel2 hsam2 HF
      go_wp2_with fail
      refine wp_region_held_drew (S := fun W => wr.grownBy W none) (by kernel_rfl) HD0.out (fun hHeld => ?_)
      generalize wr.drew = W0 at HD0 hHeld ⊢
      refine wpAnyH_take (i := 0) (v := .pointer (some ⟨hb, 0, none⟩)) rfl (by kernel_rfl) (by kernel_rfl) (by kernel_rfl) (fun _ _ _ h => h) (Or.inl ⟨by rfl, fun w hSw => ?_⟩) (by assumption) ?_
      · go_simp
      (try simp only [Act.put]); (try simp only [List.setIfInBounds_toArray]); (try simp only [List.set_cons_succ]); (try simp only [List.set_cons_zero])
      refine wpAnyH_take (i := 2) (v := .pointer (some ⟨rb, 0, none⟩)) rfl (by kernel_rfl) (by kernel_rfl) (by kernel_rfl) (fun _ _ _ h => h) (Or.inl ⟨by rfl, fun w hSw => ?_⟩) (by assumption) ?_
      · go_simp
      (try simp only [Act.put]); (try simp only [List.setIfInBounds_toArray]); (try simp only [List.set_cons_succ]); (try simp only [List.set_cons_zero])
      refine wpAnyH_take (i := 3) (v := .pointer (some ⟨rb, 0, none⟩)) rfl (by kernel_rfl) (by kernel_rfl) (by kernel_rfl) (fun _ _ _ h => h) (Or.inl ⟨by rfl, fun w hSw => ?_⟩) (by assumption) ?_
      · go_simp
      (try simp only [Act.put]); (try simp only [List.setIfInBounds_toArray]); (try simp only [List.set_cons_succ]); (try simp only [List.set_cons_zero])
      refine wpAnyH_take (i := 4) (v := .pointer (some ⟨rb, 1, none⟩)) rfl (by kernel_rfl) (by kernel_rfl) (by kernel_rfl) (fun _ _ _ h => h) (Or.inl ⟨by rfl, fun w hSw => ?_⟩) (by assumption) ?_
      · go_simp
      (try simp only [Act.put]); (try simp only [List.setIfInBounds_toArray]); (try simp only [List.set_cons_succ]); (try simp only [List.set_cons_zero])
      refine wpAnyH_take (i := 5) (v := .slice a1 n1 c1) rfl (by kernel_rfl) (by kernel_rfl) (by kernel_rfl) (fun _ _ _ h => h) (Or.inl ⟨by rfl, fun w hSw => ?_⟩) (by assumption) ?_
      · have hS9 : wr.grownBy w none := hSw; have z9 := hS9.cell e1 (by simp); clear hSw hS9; go_simp
      (try simp only [Act.put]); (try simp only [List.setIfInBounds_toArray]); (try simp only [List.set_cons_succ]); (try simp only [List.set_cons_zero])
      refine wpAnyH_ready (rs := [1]) (by kernel_rfl) (by simp) (AllReadyH.cons (i := 1) rfl (fun K hK => ?_) AllReadyH.nil)
      go_simp
      refine (HSA.out W0 HD0.out).mono ?_
      rintro e w2 ⟨b1, k1, rfl, ho, hg⟩
      have HG2 : Hid (wr.grownBy w2 none) := HD0.out.trans hg
      have HO1 : Hid (∃ X, SerOut w2 X (.slice b1 n1 k1) S1) := ⟨_, ho⟩
      refine hK.out _ _ HG2.out (fun hHeld => ?_)
      clear hK K ho hg
      (try simp only [Act.put]); (try simp only [List.setIfInBounds_toArray]); (try simp only [List.set_cons_succ]); (try simp only [List.set_cons_zero])
      refine wpAnyH_ready (rs := [6]) (by kernel_rfl) (by simp) (AllReadyH.cons (i := 6) rfl (fun K hK => ?_) AllReadyH.nil)
      go_simp
      refine (HSS1.out w2 b1 k1 HG2.out HO1.out).mono ?_
      rintro e w3 ⟨rfl, hg⟩
      have HG3 : Hid (wr.grownBy w3 none) := HG2.out.trans hg
      refine hK.out _ _ HG3.out (fun hHeld => ?_)
      clear hK K hg
      (try simp only [Act.put]); (try simp only [List.setIfInBounds_toArray]); (try simp only [List.set_cons_succ]); (try simp only [List.set_cons_zero])
      refine wpAnyH_take (i := 7) (v := .bool true) rfl (by kernel_rfl) (by kernel_rfl) (by kernel_rfl) (fun _ _ _ h => h) (Or.inl ⟨by rfl, fun w hSw => ?_⟩) (by assumption) ?_
      · go_simp
      (try simp only [Act.put]); (try simp only [List.setIfInBounds_toArray]); (try simp only [List.set_cons_succ]); (try simp only [List.set_cons_zero])
      refine wpAnyH_take (i := 8) (v := .pointer (some ⟨gb, 0, none⟩)) rfl (by kernel_rfl) (by kernel_rfl) (by kernel_rfl) (fun _ _ _ h => h) (Or.inl ⟨by rfl, fun w hSw => ?_⟩) (by assumption) ?_
      · go_simp
      (try simp only [Act.put]); (try simp only [List.setIfInBounds_toArray]); (try simp only [List.set_cons_succ]); (try simp only [List.set_cons_zero])
      refine wpAnyH_take (i := 10) (v := .pointer (some ⟨vb, 0, none⟩)) rfl (by kernel_rfl) (by kernel_rfl) (by kernel_rfl) (fun _ _ _ h => h) (Or.inl ⟨by rfl, fun w hSw => ?_⟩) (by assumption) ?_
      · go_simp
      (try simp only [Act.put]); (try simp only [List.setIfInBounds_toArray]); (try simp only [List.set_cons_succ]); (try simp only [List.set_cons_zero])
      refine wpAnyH_take (i := 11) (v := .pointer (some ⟨vb, 0, none⟩)) rfl (by kernel_rfl) (by kernel_rfl) (by kernel_rfl) (fun _ _ _ h => h) (Or.inl ⟨by rfl, fun w hSw => ?_⟩) (by assumption) ?_
      · go_simp
      (try simp only [Act.put]); (try simp only [List.setIfInBounds_toArray]); (try simp only [List.set_cons_succ]); (try simp only [List.set_cons_zero])
      refine wpAnyH_take (i := 12) (v := .pointer (some ⟨vb, 1, none⟩)) rfl (by kernel_rfl) (by kernel_rfl) (by kernel_rfl) (fun _ _ _ h => h) (Or.inl ⟨by rfl, fun w hSw => ?_⟩) (by assumption) ?_
      · go_simp
      (try simp only [Act.put]); (try simp only [List.setIfInBounds_toArray]); (try simp only [List.set_cons_succ]); (try simp only [List.set_cons_zero])
      refine wpAnyH_take (i := 13) (v := .slice a2 n2 c2) rfl (by kernel_rfl) (by kernel_rfl) (by kernel_rfl) (fun _ _ _ h => h) (Or.inl ⟨by rfl, fun w hSw => ?_⟩) (by assumption) ?_
      · have hS9 : wr.grownBy w none := hSw; have z9 := hS9.cell e2 (by simp); clear hSw hS9; go_simp
      (try simp only [Act.put]); (try simp only [List.setIfInBounds_toArray]); (try simp only [List.set_cons_succ]); (try simp only [List.set_cons_zero])
      refine wpAnyH_ready (rs := [9]) (by kernel_rfl) (by simp) (AllReadyH.cons (i := 9) rfl (fun K hK => ?_) AllReadyH.nil)
      go_simp
      refine (HSB.out w3 HG3.out).mono ?_
      rintro e w4 ⟨b2, k2, rfl, ho, hg⟩
      have HG4 : Hid (wr.grownBy w4 none) := HG3.out.trans hg
      have HO2 : Hid (∃ X, SerOut w4 X (.slice b2 n2 k2) S2) := ⟨_, ho⟩
      refine hK.out _ _ HG4.out (fun hHeld => ?_)
      clear hK K ho hg
      (try simp only [Act.put]); (try simp only [List.setIfInBounds_toArray]); (try simp only [List.set_cons_succ]); (try simp only [List.set_cons_zero])
      refine wpAnyH_ready (rs := [14]) (by kernel_rfl) (by simp) (AllReadyH.cons (i := 14) rfl (fun K hK => ?_) AllReadyH.nil)
      go_simp
      refine (HSS2.out w4 b2 k2 HG4.out HO2.out).mono ?_
      rintro e w5 ⟨rfl, hg⟩
      have HG5 : Hid (wr.grownBy w5 none) := HG4.out.trans hg
      refine hK.out _ _ HG5.out (fun hHeld => ?_)
      clear hK K hg
      (try simp only [Act.put]); (try simp only [List.setIfInBounds_toArray]); (try simp only [List.set_cons_succ]); (try simp only [List.set_cons_zero])
      refine wpAnyH_take (i := 15) (v := .bool true) rfl (by kernel_rfl) (by kernel_rfl) (by kernel_rfl) (fun _ _ _ h => h) (Or.inl ⟨by rfl, fun w hSw => ?_⟩) (by assumption) ?_
      · go_simp
      (try simp only [Act.put]); (try simp only [List.setIfInBounds_toArray]); (try simp only [List.set_cons_succ]); (try simp only [List.set_cons_zero])
      refine wpAnyH_take (i := 16) (v := .bool true) rfl (by kernel_rfl) (by kernel_rfl) (by kernel_rfl) (fun _ _ _ h => h) (Or.inl ⟨by rfl, fun w hSw => ?_⟩) (by assumption) ?_
      · go_simp
      (try simp only [Act.put]); (try simp only [List.setIfInBounds_toArray]); (try simp only [List.set_cons_succ]); (try simp only [List.set_cons_zero])
      refine wpAnyH_ready (rs := [17]) (by kernel_rfl) (by simp) (AllReadyH.cons (i := 17) rfl (fun K hK => ?_) AllReadyH.nil)
      go_simp
      refine (h_awake w5).mono ?_
      rintro e w6 ⟨rfl, hg⟩
      have HG6 : Hid (w.grownBy w6 none) := (HGW.out.trans HG5.out).trans hg
      refine hK.out _ _ (HG5.out.trans hg) (fun hHeld => ?_)
      clear hK K hg
      (try simp only [Act.put]); (try simp only [List.setIfInBounds_toArray]); (try simp only [List.set_cons_succ]); (try simp only [List.set_cons_zero])
      refine wpAnyH_ready (rs := [18]) (by kernel_rfl) (by simp) (AllReadyH.cons (i := 18) rfl (fun K hK => ?_) AllReadyH.nil)
      go_simp
      refine hK.out _ _ (by assumption) (fun hHeld => ?_)
      clear hK K
      refine wpAnyH_ready (rs := [19]) (by kernel_rfl) (by simp) (AllReadyH.cons (i := 19) rfl (fun K hK => ?_) AllReadyH.nil)
      go_simp
      refine hK.out _ _ (by assumption) (fun hHeld => ?_)
      clear hK K
      refine wpAnyH_done (by kernel_rfl) ?_ _
      go_wp2
      go_ret
      exact ⟨rfl, HG6.out⟩
end Go.Proofs.YtpabbmiibehfjaaGreatDoor

/- Scripts that come in. -/
namespace Go.Proofs.YtpabbmiibehfjaaGreatDoor
open Go.ChangeShapes Go.WideShapes Go.ChangeAt Go.RowKit
set_option linter.unusedVariables false
set_option maxRecDepth 20000

/-- A slice within what comes in, with what its bulk says of each element. -/
theorem open_inner {α : Type} [Inhabited α] (E : Elem α) {P : Program} {t e : TypeId} {S : α → Prop} {B : Nat} {H : Type} {enc : TypeId × Value → H} {W : World}
    (ht : P.underlying t = some (.slice e)) (hc : P.cellsOf e = E.size)
    (step : ∀ fuel cs x, DataW.trod enc P W 0 (fun _ => true) true fuel e cs = some x → ∃ q : α, cs = E.cells q ∧ (Rows.uptoBulk x.1 ≤ B → S q))
    {fuel : Nat} {cs : List Value} {x : DataW H × List MemPlace} (hf : DataW.trod enc P W 0 (fun _ => true) true fuel t cs = some x) :
    ∃ (a0 : Option Addr) (len0 cap0 : Nat), cs = [.slice a0 len0 cap0] ∧ (Rows.uptoBulk x.1 ≤ B → ∃ ls : List α, ls.length = len0 ∧ SRd E W a0 ls ∧ (a0 = none → cap0 = 0) ∧ ls.length ≤ B ∧ ∀ q ∈ ls, S q) := by
  rcases Go.Deep.open_slice ht hf with ⟨rfl, _⟩ | ⟨y, len0, cap0, m, k, D, Pl, rfl, _, hl, hm, hmm, rfl, hall⟩
  · exact ⟨none, 0, 0, rfl, fun _ => ⟨[], rfl, .inl rfl, fun _ => rfl, Nat.zero_le _, by simp⟩⟩
  · refine ⟨some y, len0, cap0, rfl, fun hB => ?_⟩
    simp only [if_true] at hmm
    have each : ∀ i, i < len0 → ∃ q : α, W.cells? 0 (y.add (i * E.size)) E.size = some (E.cells q) ∧ S q := by
      intro i hi
      obtain ⟨cs', h1, h2⟩ := hall i (by omega)
      obtain ⟨q, e1, hS⟩ := step _ _ _ h2
      rw [hc] at h1
      have hBi : Rows.uptoBulk (D i) ≤ B := by
        refine Nat.le_trans (bulk_mem (l := (List.range len0).map D) (List.mem_map.2 ⟨i, List.mem_range.2 hi, rfl⟩)) (Nat.le_trans ?_ hB)
        rw [Rows.uptoBulk]
        omega
      exact ⟨q, by rw [h1, e1], hS hBi⟩
    have hlB : len0 ≤ B := by
      have h1 := bulk_len ((List.range len0).map D)
      rw [Rows.uptoBulk] at hB
      simp only [List.length_map, List.length_range] at h1
      omega
    obtain ⟨q, hq⟩ := Go.Deep.choose_lt each
    refine ⟨(List.range len0).map q, by simp, ?_, by simp, by simpa using hlB, ?_⟩
    · by_cases h0 : len0 = 0
      · left; simp [h0]
      · obtain ⟨b, off, spot⟩ := y
        have hspot : spot = none := by
          obtain ⟨_, _, hcell⟩ := World.cells?_some (hq 0 (by omega)).1
          have := hcell 0 (by exact E.pos)
          rw [List.getElem?_eq_getElem (by rw [E.len]; exact E.pos)] at this
          simpa [Addr.add] using World.cell?_spot this
        subst hspot
        refine srd_range E q len0 fun i hi j v hv => ?_
        obtain ⟨_, hlen, hcell⟩ := World.cells?_some (hq i hi).1
        have hj := (List.getElem?_eq_some_iff.1 hv).1
        rw [E.len] at hj
        have := hcell j hj
        rw [Go.Deep.add_add, add_plain] at this
        rw [this, hv]
    · intro z hz
      obtain ⟨i, hi, rfl⟩ := List.mem_map.1 hz
      exact (hq i (List.mem_range.1 hi)).2
theorem cells34 : Tryz.prog.cellsOf 34 = 7 := by kernel_rfl
theorem cells32 : Tryz.prog.cellsOf 32 = 1 := by kernel_rfl
section
variable {H : Type} {enc : TypeId × Value → H} {W : World}
theorem stepLab (fuel : Nat) (cs : List Value) (x : DataW H × List MemPlace) (h : DataW.trod enc Tryz.prog W 0 (fun _ => true) true fuel 62 cs = some x) : ∃ q : Lab, cs = labE.cells q ∧ (Rows.uptoBulk x.1 ≤ 1048576 → True) := by
  obtain ⟨y0, y1, n, rfl, hl, g0, g1⟩ := trod_struct2 Tryz.underlying62 h
  rw [cells62] at hl
  match cs, hl with
  | [c0, c1], _ =>
    simp only [cells9, List.drop, List.take] at g0 g1
    obtain ⟨s0, e0, rfl, _⟩ := DataW.trod_string Tryz.underlying9 g0
    obtain ⟨s1, e1, rfl, _⟩ := DataW.trod_string Tryz.underlying9 g1
    simp only [List.cons.injEq, and_true] at e0 e1
    subst e0; subst e1
    exact ⟨(s0, s1), rfl, fun _ => trivial⟩
theorem stepMat (fuel : Nat) (cs : List Value) (x : DataW H × List MemPlace) (h : DataW.trod enc Tryz.prog W 0 (fun _ => true) true fuel 94 cs = some x) : ∃ q : Mt.Mat, cs = Mt.matE.cells q ∧ (Rows.uptoBulk x.1 ≤ 1048576 → q.2.1.size ≤ 1048576 ∧ q.2.2.size ≤ 1048576) := by
  obtain ⟨y0, y1, y2, n, rfl, hl, g0, g1, g2⟩ := Go.Deep.trod_struct3 Tryz.underlying94 h
  rw [cells94] at hl
  match cs, hl with
  | [c0, c1, c2], _ =>
    simp only [cells9, cells3, List.drop, List.take] at g0 g1 g2
    obtain ⟨s0, e0, rfl, w0⟩ := DataW.trod_int Tryz.underlying3 g0
    obtain ⟨s1, e1, rfl, _⟩ := DataW.trod_string Tryz.underlying9 g1
    obtain ⟨s2, e2, rfl, _⟩ := DataW.trod_string Tryz.underlying9 g2
    simp only [List.cons.injEq, and_true] at e0 e1 e2
    subst e0; subst e1; subst e2
    refine ⟨(s0, s1, s2), rfl, fun hb => ?_⟩
    simp only [Rows.uptoBulk, Rows.uptoBulkAll, Array.length_toList] at hb
    exact ⟨by show s1.data.size ≤ _; omega, by show s2.data.size ≤ _; omega⟩
theorem trod_struct5 {P : Program} {W : World} {t : TypeId} {f0 f1 f2 f3 f4 : Field} {fuel : Nat} {cs : List Value} {x : DataW H × List MemPlace} (ht : P.underlying t = some (.struct #[f0, f1, f2, f3, f4])) (h : DataW.trod enc P W 0 (fun _ => true) true fuel t cs = some x) :
    ∃ y0 y1 y2 y3 y4 n, x.1 = .agg [y0.1, y1.1, y2.1, y3.1, y4.1] ∧ cs.length = P.cellsOf t ∧ DataW.trod enc P W 0 (fun _ => true) true n f0.type ((cs.drop f0.offset).take (P.cellsOf f0.type)) = some y0 ∧ DataW.trod enc P W 0 (fun _ => true) true n f1.type ((cs.drop f1.offset).take (P.cellsOf f1.type)) = some y1 ∧ DataW.trod enc P W 0 (fun _ => true) true n f2.type ((cs.drop f2.offset).take (P.cellsOf f2.type)) = some y2 ∧ DataW.trod enc P W 0 (fun _ => true) true n f3.type ((cs.drop f3.offset).take (P.cellsOf f3.type)) = some y3 ∧ DataW.trod enc P W 0 (fun _ => true) true n f4.type ((cs.drop f4.offset).take (P.cellsOf f4.type)) = some y4 := by
  obtain ⟨xs, n, _, rfl, hl, hlen, hf⟩ := DataW.trod_struct ht h
  match xs, hlen with
  | [y0, y1, y2, y3, y4], _ => exact ⟨y0, y1, y2, y3, y4, n, by simp, hl, by simpa using hf 0 f0 rfl, by simpa using hf 1 f1 rfl, by simpa using hf 2 f2 rfl, by simpa using hf 3 f3 rfl, by simpa using hf 4 f4 rfl⟩
/-- What an act is. -/
def ActS (W : World) (r : ActR) : Prop := (Mt.Mx W → ∃ ls ms, ActOk W r.2.1.1 ls r.2.1.2.1 r.2.1.2.2 r.2.2.2.2.1.1 ms r.2.2.2.2.1.2.1 r.2.2.2.2.1.2.2) ∧ r.2.2.2.2.2.1 ≤ 9223372036854775807
theorem step34 (fuel : Nat) (cs : List Value) (x : DataW H × List MemPlace) (h : DataW.trod enc Tryz.prog W 0 (fun _ => true) true fuel 34 cs = some x) : ∃ q : ActR, cs = actE.cells q ∧ (Rows.uptoBulk x.1 ≤ 1048576 → ActS W q) := by
  obtain ⟨y0, y1, y2, y3, y4, n, hx, hl, g0, g1, g2, g3, g4⟩ := trod_struct5 Tryz.underlying34 h
  rw [cells34] at hl
  match cs, hl with
  | [c0, c1, c2, c3, c4, c5, c6], _ =>
    simp only [cells31, cells32, cells3, cells2, List.drop, List.take] at g0 g1 g2 g3 g4
    obtain ⟨s0, e0, rfl, _⟩ := DataW.trod_int Tryz.underlying3 g0
    obtain ⟨z0, z1, z2, m, rfl, _, j0, j1, j2⟩ := Go.Deep.trod_struct3 Tryz.underlying31 g1
    simp only [cells28, cells2, cells29, List.drop, List.take] at j0 j1 j2
    obtain ⟨t1, i1, rfl, _⟩ := DataW.trod_int Tryz.underlying2 j1
    obtain ⟨t2, i2, rfl, _⟩ := DataW.trod_int Tryz.underlying29 j2
    obtain ⟨la, L, lc, i0, hls⟩ := open_inner labE (S := fun _ => True) (B := 1048576) Tryz.underlying28 cells62 stepLab j0
    obtain ⟨ma, mn, mc, e2, hms⟩ := open_inner Mt.matE (S := fun q => q.2.1.size ≤ 1048576 ∧ q.2.2.size ≤ 1048576) (B := 1048576) Tryz.underlying32 cells94 stepMat g2
    obtain ⟨s3, e3, rfl, w3⟩ := DataW.trod_int Tryz.underlying2 g3
    obtain ⟨s4, e4, rfl, _⟩ := DataW.trod_int Tryz.underlying2 g4
    simp only [List.cons.injEq, and_true] at e0 i0 i1 i2 e2 e3 e4
    subst e0; subst i0; subst i1; subst i2; subst e2; subst e3; subst e4
    refine ⟨(s0, (la, L, lc), t1, t2, (ma, mn, mc), s3, s4), rfl, fun hb => ?_⟩
    rw [hx] at hb
    simp only [Rows.uptoBulk, Rows.uptoBulkAll] at hb
    obtain ⟨ls, l1, l2, l3, l4, _⟩ := hls (by omega)
    obtain ⟨ms, m1, m2, m3, m4, m5⟩ := hms (by omega)
    refine ⟨fun hmx => ⟨ls, ms, l2, l1, by show L ≤ _; omega, l3, m2, m1, by show mn ≤ _; omega, m3, ⟨by omega, fun m hm => ⟨by show m.2.1.size ≤ _; have := (m5 m hm).1; unfold maxLen; omega, by show m.2.2.size ≤ _; have := (m5 m hm).2; unfold maxLen; omega⟩, fun m hm => by have := (m5 m hm).2; omega⟩, hmx⟩, ?_⟩
    show s3 ≤ _
    exact (bounds_i64 w3).2
theorem open_acts {a0 : Option Addr} {len0 cap0 : Nat} {d0 : DataW H} {p0 : List MemPlace} (h0 : DataW.Trod enc Tryz.prog W 0 (fun _ => true) true 22 (.slice a0 len0 cap0) d0 p0) (hB : Rows.uptoBulk d0 ≤ 1048576) (hmx : Mt.Mx W) :
    ∃ raw, raw.length = len0 ∧ ActRd W a0 raw ∧ raw.length ≤ 1048576 := by
  obtain ⟨ls, h1, h2, h3, h4, h5⟩ := open_elems actE (S := ActS W) (B := 1048576) Tryz.underlying22 cells34 step34 h0 hB
  exact ⟨ls, h1, ⟨h2, fun r hr => (h5 r hr).1 hmx, fun r hr => (h5 r hr).2⟩, h4⟩
end
end Go.Proofs.YtpabbmiibehfjaaGreatDoor

