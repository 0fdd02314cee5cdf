/- Several texts in one: Ze, Za, Zb, La. -/
import Derived.Test.YtgpgkpciajajcaaGreatDoorGas
/- Package wal: Append, on a disk that is armed, where the power stays. (Printed by mk_armed.py.) -/
namespace Go.Proofs.YtgpgkpciajajcaaGreatDoor
open Go.RowKit Go.Maps Go.Sort
set_option linter.unusedVariables false
set_option maxRecDepth 20000

set_option maxHeartbeats 8000000 in
theorem w_append1A (base d mb n : Nat) (x : DSt) (p q r : Nat) (dir cp : ByteArray) (segs : List Nat) (op : Nat) (A B : Nat → Prop) (ad : Addr) (zs : List Int) (M cd : Nat) (w : World) (hdir : dirB dir = true) (ht : Tab w) (hf : Far A B) (h : LogAt w base d mb n x p dir cp segs op A B) (hon : x.off = false) (hsy : ∀ q, x.V (segN dir op) = some q → 4096 ≤ q.1.length → (x.sync (segN dir op)).1 = 0) (hro : (rollX x dir op).1.off = false) (hok2 : (rollX x dir op).1.ok) (hap1 : ((rollX x dir op).1.append (segN dir (rollX x dir op).2) (frameR zs)).1 = 0) (hok : x.ok) (hw : x.wn ≤ 999999990) (hop : op < 99999998) (hn : n < 1048576) (hsg : segs.length ≤ 4194304) (hq : w.cell? ⟨q, 0, none⟩ = some (.pointer (some ⟨p, 0, none⟩))) (hqA : ¬ A q ∧ ¬ B q) (hrc : w.cell? ⟨r, 0, none⟩ = some (.slice (some ad) M cd)) (hrA : ¬ A r ∧ ¬ B r) (hr : SRd byteE w (some ad) (frameR zs)) (hM : (frameR zs).length = M) (hM0 : M ≠ 0) (hby : ∀ z ∈ frameR zs, 0 ≤ z ∧ z ≤ 255) (hlen : (oldV (rollX x dir op).1.V (segN dir (rollX x dir op).2)).1.length + M ≤ 4194304) (hb : base ≤ w.heap.size) (had : ¬ A ad.block ∧ ¬ B ad.block) (hadl : ad.block < w.heap.size) :
    Calls Tryz.prog 98 #[.pointer (some ⟨q, 0, none⟩), .pointer (some ⟨r, 0, none⟩)] w fun e w' => e = .returned (.tuple #[]) ∧ ∃ n' A' B', n' ≤ n + 1 ∧ LogAt w' base d mb n' (appX x dir op zs) p dir cp (segsX segs (rollX x dir op).2) (rollX x dir op).2 A' B' ∧ Step2 w w' A B A' B' := by
  have HRL : Hid (Calls Tryz.prog 99 #[.pointer (some ⟨p, 0, none⟩)] w fun e w' => e = .returned (.tuple #[]) ∧ ∃ n' B', n' ≤ n ∧ LogAt w' base d mb n' (rollX x dir op).1 p dir cp segs (rollX x dir op).2 A B' ∧ Step2 w w' A B A B') := w_rollA base d mb n x p dir cp segs op A B w hdir ht h hon hsy hok (by omega)
  have hrx := rollX_le x dir op
  have HAP1 : Hid (((rollX x dir op).1.append (segN dir (rollX x dir op).2) (frameR zs)).1 = 0) := hap1
  clear hsy hap1
  have hql : q < w.heap.size := cell_lt hq
  have hrl : r < w.heap.size := cell_lt hrc
  clear h
  go_enter Tryz.func98, Tryz.ntmps98
  go_wp2_with fail
  refine HRL.out.mono ?_
  rintro e w1 ⟨rfl, n1, B1, hn1, hL1, hS1⟩
  have ht1 := ht.step hS1 hf
  have q1 : w1.cell? ⟨q, 0, none⟩ = some (.pointer (some ⟨p, 0, none⟩)) := cell_kept hS1.kept hql (fun h => h.elim hqA.1 hqA.2) hq
  have r1 : w1.cell? ⟨r, 0, none⟩ = some (.slice (some ad) M cd) := cell_kept hS1.kept hrl (fun h => h.elim hrA.1 hrA.2) hrc
  have HWR : Hid (Calls Tryz.prog 100 #[.pointer (some ⟨p, 0, none⟩), .slice (some ad) M cd] w1 fun e w' => e = .returned (.tuple #[]) ∧ ∃ n' A' B', n' ≤ n1 + 1 ∧ LogAt w' base d mb n' (appX x dir op zs) p dir cp (segsX segs (rollX x dir op).2) (rollX x dir op).2 A' B' ∧ Step2 w1 w' A B1 A' B') := w_writeA base d mb n1 (rollX x dir op).1 p dir cp segs (rollX x dir op).2 A B1 ad (frameR zs) M cd w1 hdir ht1.1 hL1 hro HAP1.out hok2 (by omega) (by omega) hsg (srd_kept hr hS1.kept hadl (fun h => h.elim had.1 had.2)) hM hby hlen (Nat.le_trans hb hS1.kept.size) (fun h => had.2 (hS1.oldB _ hadl h)) (Nat.lt_of_lt_of_le hadl hS1.kept.size)
  have HS1 : Hid (Step2 w w1 A B A B1) := hS1
  clear hS1 hL1 ht1 HRL hq hrc
  go_wp2_with fail
  refine HWR.out.mono ?_
  rintro e w2 ⟨rfl, n2, A2, B2, hn2, hL2, hS2⟩
  have HR2 : Hid (n2 ≤ n + 1 ∧ LogAt w2 base d mb n2 (appX x dir op zs) p dir cp (segsX segs (rollX x dir op).2) (rollX x dir op).2 A2 B2 ∧ Step2 w w2 A B A2 B2) := ⟨by omega, hL2, HS1.out.trans hS2⟩
  clear hn2 hL2 hS2 HWR
  go_wp2
  go_end0
  exact ⟨rfl, n2, A2, B2, HR2.out⟩
set_option maxHeartbeats 8000000 in
theorem w_appendA (base d mb n : Nat) (x : DSt) (p : Nat) (dir cp : ByteArray) (segs : List Nat) (op : Nat) (A B : Nat → Prop) (a : Option Addr) (zs : List Int) (L cap : Nat) (w : World) (hdir : dirB dir = true) (ht : Tab w) (hf : Far A B) (h : LogAt w base d mb n x p dir cp segs op A B) (hon : x.off = false) (hsy : ∀ q, x.V (segN dir op) = some q → 4096 ≤ q.1.length → (x.sync (segN dir op)).1 = 0) (hro : (rollX x dir op).1.off = false) (hok2 : (rollX x dir op).1.ok) (hap1 : ((rollX x dir op).1.append (segN dir (rollX x dir op).2) (frameR zs)).1 = 0) (hok : x.ok) (hw : x.wn ≤ 999999990) (hop : op < 99999998) (hn : n < 1048576) (hsg : segs.length ≤ 4194304) (hr : Rd w a zs) (hL : zs.length = L) (hnil : a = none → cap = 0) (hz : L ≤ 65536) (hlen : (oldV (rollX x dir op).1.V (segN dir (rollX x dir op).2)).1.length + (frameR zs).length ≤ 4194304) (hb : base ≤ w.heap.size) :
    Calls Tryz.prog 73 #[.pointer (some ⟨p, 0, none⟩), .slice a L cap] w (AppOut w base d mb n x p dir cp segs op A B zs) := by
  have hfl : flist zs = frameR zs := by unfold flist; rw [if_neg (by omega)]
  have hfc : fcode zs = 0 := by unfold fcode; rw [if_neg (by omega)]
  have hgq : w.grownBy (w.alloc (.cells #[.pointer (some ⟨p, 0, none⟩)] 65)) none := World.grownBy_alloc w _ none
  have HFR : Hid (Calls Tryz.prog 96 #[.slice a L cap] (w.alloc (.cells #[.pointer (some ⟨p, 0, none⟩)] 65)) fun e w' => ∃ v N c, e = .returned (.tuple #[.slice v N c, .int .i64 0]) ∧ Out (w.alloc (.cells #[.pointer (some ⟨p, 0, none⟩)] 65)) w' v N c (frameR zs) ∧ (w.alloc (.cells #[.pointer (some ⟨p, 0, none⟩)] 65)).grownBy w' none) := f_frame a zs L cap (frameR zs) 0 _ (hr.grown hgq (by simp)) hL hnil (by omega) hfl hfc
  have HL : Hid (LogAt w base d mb n x p dir cp segs op A B) := h
  have HSYX : Hid (∀ q, x.V (segN dir op) = some q → 4096 ≤ q.1.length → (x.sync (segN dir op)).1 = 0) := hsy
  have HAP1 : Hid (((rollX x dir op).1.append (segN dir (rollX x dir op).2) (frameR zs)).1 = 0) := hap1
  clear hsy hap1
  have HT : Hid (Tab w) := ht
  have HGQ : Hid (w.grownBy (w.alloc (.cells #[.pointer (some ⟨p, 0, none⟩)] 65)) none) := hgq
  have hmf : ∀ (fn : Fn) (first cap : Array Value) (w : World), (Instr.makeFunc fn first cap).run Tryz.prog w = .ok (.func fn first cap) w := fun _ _ _ _ => rfl
  have hs1 : ∀ (w : World) o, (w.alloc o).heap.size = w.heap.size + 1 := fun w o => Array.size_push _
  clear h ht hgq hr hfl hfc
  go_enter Tryz.func73, Tryz.ntmps73
  go_wp2_with fail
  refine HFR.out.mono ?_
  rintro e w1 ⟨fv, FN, fc, rfl, hout, hg1⟩
  obtain ⟨ad, rfl⟩ : ∃ ad, fv = some ad := by
    cases fv with
    | some ad => exact ⟨ad, rfl⟩
    | none =>
      exfalso
      have h1 := hout.1
      have h2 := framing.pos zs
      have h3 := hout.2.2.1 rfl
      have h4 := hout.2.2.2.1
      omega
  go_wp2_with fail
  obtain ⟨W3, eW3⟩ : ∃ W3, W3 = w1.alloc (.cells #[.slice (some ad) FN fc] 37) := ⟨_, rfl⟩
  obtain ⟨W4, eW4⟩ : ∃ W4, W4 = W3.alloc (.cells #[.int .i64 0] 31) := ⟨_, rfl⟩
  have hz0 : (w.alloc (.cells #[.pointer (some ⟨p, 0, none⟩)] 65)).heap.size = w.heap.size + 1 := hs1 _ _
  have hz1 := hg1.size
  rw [hz0] at hz1
  have hz3 : W3.heap.size = w1.heap.size + 1 := by rw [eW3, hs1]
  have hz4 : W4.heap.size = w1.heap.size + 2 := by rw [eW4, hs1, hz3]
  have hg13 : w1.grownBy W4 none := by rw [eW4, eW3]; exact (World.grownBy_alloc w1 _ none).trans (World.grownBy_alloc _ _ none)
  have hgw4 : w.grownBy W4 none := (HGQ.out.trans hg1).trans hg13
  have hq4 : W4.rowIs w.heap.size 65 1 (fun _ => .pointer (some ⟨p, 0, none⟩)) := (row1 w (.pointer (some ⟨p, 0, none⟩)) 65).of_block ((hg1.trans hg13).block _ (by rw [hz0]; omega) (by simp))
  have hr4 : W4.rowIs w1.heap.size 37 1 (fun _ => .slice (some ad) FN fc) := by
    rw [eW4, eW3]
    exact (row1 w1 (.slice (some ad) FN fc) 37).alloc _
  have hs4 : W4.rowIs (w1.heap.size + 1) 31 1 (fun _ => .int .i64 0) := by
    have := row1 W3 (.int .i64 0) 31
    rw [hz3] at this
    rw [eW4]
    exact this
  have hL4 := HL.out.grown hgw4
  have hold : ∀ k, w.heap.size ≤ k → ¬ A k ∧ ¬ B k := fun k hk => ⟨fun ha => by have := HL.out.ltA k ha; omega, fun hb => by have := HL.out.ltB k hb; omega⟩
  have had : w.heap.size ≤ ad.block := by have := hout.2.2.2.2 ad rfl; rw [hz0] at this; omega
  have hfne : frameR zs ≠ [] := by have h2 := framing.pos zs; intro e; rw [e] at h2; simp at h2
  have hadl : ad.block < w1.heap.size := rd_lt hout.2.1 hfne
  have hpos := framing.pos zs
  have HC := w_caught47 #[.pointer (some ⟨w.heap.size, 0, none⟩), .pointer (some ⟨w1.heap.size, 0, none⟩)] (fun w2 => ∃ n' A' B', n' ≤ n + 1 ∧ LogAt w2 base d mb n' (appX x dir op zs) p dir cp (segsX segs (rollX x dir op).2) (rollX x dir op).2 A' B' ∧ Step2 W4 w2 A B A' B') W3 (by
    rw [← eW4, hz3]
    refine (w_append1A base d mb n x p w.heap.size w1.heap.size dir cp segs op A B ad zs FN fc W4 hdir (HT.out.grown hgw4) hf hL4 hon HSYX.out hro hok2 HAP1.out hok hw hop hn hsg (hq4.cell (i := 0) (by omega)) (hold _ (Nat.le_refl _)) (hr4.cell (i := 0) (by omega)) (hold _ (by omega)) (rd_srd (hout.2.1.grown hg13 (by simp))) hout.1 (by have := hout.1; omega) hout.2.1.2 (by have := hout.1; omega) (Nat.le_trans hb hgw4.size) (hold _ had) (Nat.lt_of_lt_of_le hadl hg13.size)).mono ?_
    rintro e w2 ⟨rfl, n', A', B', h1, h2, h3⟩
    refine ⟨rfl, ⟨n', A', B', h1, h2, h3⟩, ?_⟩
    have hs5 := hs4.of_block (h3.kept.block _ hs4.lt (fun h => h.elim (hold _ (by omega)).1 (hold _ (by omega)).2))
    exact ⟨hs5.cell (i := 0) (by omega), hs5.frozen 0⟩)
  rw [hz3] at HC
  have HC : Hid (Calls Tryz.prog 97 #[.func (.func 98) #[] #[.pointer (some ⟨w.heap.size, 0, none⟩), .pointer (some ⟨w1.heap.size, 0, none⟩)]] W3 fun e w' => e = .returned (.int .i64 0) ∧ ∃ w2, (∃ n' A' B', n' ≤ n + 1 ∧ LogAt w2 base d mb n' (appX x dir op zs) p dir cp (segsX segs (rollX x dir op).2) (rollX x dir op).2 A' B' ∧ Step2 W4 w2 A B A' B') ∧ w' = w2.setCell ⟨w1.heap.size + 1, 0, none⟩ (.int .i64 0)) := HC
  have HFIN : Hid (∀ w2, (∃ n' A' B', n' ≤ n + 1 ∧ LogAt w2 base d mb n' (appX x dir op zs) p dir cp (segsX segs (rollX x dir op).2) (rollX x dir op).2 A' B' ∧ Step2 W4 w2 A B A' B') → AppOut w base d mb n x p dir cp segs op A B zs (.returned (.int .i64 0)) (w2.setCell ⟨w1.heap.size + 1, 0, none⟩ (.int .i64 0))) := by
    rintro w2 ⟨n', A', B', h1, h2, h3⟩
    refine ⟨rfl, n', A', B', h1, (h2.cell37 (fun ha => (hold _ (by omega)).1 (h3.oldA _ (by rw [hz4]; omega) ha)) (fun hb => (hold _ (by omega)).2 (h3.oldB _ (by rw [hz4]; omega) hb))).1, ((Step2.grown A B hgw4).trans h3).cell (by omega)⟩
  rw [← eW3]
  clear hz0 hz1 hz3 hz4 hg13 hgw4 hq4 hr4 hs4 hL4 hold had hfne hadl eW3 eW4 hout hg1 hpos HFR
  refine HC.out.mono ?_
  rintro e w3 ⟨rfl, w2, hx, rfl⟩
  have HX : Hid (AppOut w base d mb n x p dir cp segs op A B zs (.returned (.int .i64 0)) (w2.setCell ⟨w1.heap.size + 1, 0, none⟩ (.int .i64 0))) := HFIN.out w2 hx
  clear hx HC HFIN
  go_wp2
  go_ret
  exact HX.out
end Go.Proofs.YtgpgkpciajajcaaGreatDoor

/- A log's files, when the power goes. (No program's numbers.) -/
namespace Go.Proofs.YtgpgkpciajajcaaGreatDoor
open Go.RowKit Go.Maps Go.Sort
set_option linter.unusedVariables false
set_option maxRecDepth 20000

/-- What is synced of a log: all segments but the last one, and of that its first j records; so safe records at least. -/
def Sy (V : Cont) (dir : ByteArray) (Ls : Sg) (safe : Nat) : Prop := (Ls = [] ∧ safe = 0) ∨ ∃ (L0 : Sg) (k : Nat) (rl : List (List Int)) (j : Nat), Ls = L0 ++ [(k, rl)] ∧ (∀ q ∈ L0, V (segN dir q.1) = some (logB frameR q.2, (logB frameR q.2).length)) ∧ V (segN dir k) = some (logB frameR rl, (logB frameR (rl.take j)).length) ∧ j ≤ rl.length ∧ safe ≤ (recsOf L0).length + j
/-- A beginning of a file is some records, and a part of a frame. -/
theorem log_part : ∀ (rl : List (List Int)) (j m : Nat), (logB frameR (rl.take j)).length ≤ m → m ≤ (logB frameR rl).length → j ≤ rl.length →
    ∃ i, j ≤ i ∧ i ≤ rl.length ∧ ((logB frameR rl).take m = logB frameR (rl.take i) ∨ ∃ r ∈ rl, ∃ t, 0 < t ∧ t < (frameR r).length ∧ (logB frameR rl).take m = logB frameR (rl.take i) ++ (frameR r).take t)
  | [], j, m, hj, hm, hl => by
    have h0 : m = 0 := by simpa [logB] using hm
    subst h0
    exact ⟨0, by simpa using hl, Nat.le_refl _, .inl (by simp [logB])⟩
  | r :: rl, j, m, hj, hm, hl => by
    have hp := framing.pos r
    rw [logB_cons, List.length_append] at hm
    by_cases hlt : m < (frameR r).length
    · have hj0 : j = 0 := by
        rcases Nat.eq_zero_or_pos j with h | h
        · exact h
        · exfalso
          obtain ⟨j', rfl⟩ : ∃ j', j = j' + 1 := ⟨j - 1, by omega⟩
          rw [List.take_succ_cons, logB_cons, List.length_append] at hj
          omega
      subst hj0
      refine ⟨0, Nat.le_refl _, Nat.zero_le _, ?_⟩
      by_cases h0 : m = 0
      · subst h0
        exact .inl (by simp [logB])
      · refine .inr ⟨r, by simp, m, by omega, hlt, ?_⟩
        rw [logB_cons, List.take_append_of_le_length (by omega)]
        simp [logB]
    · have e1 : (frameR r ++ logB frameR rl).take m = frameR r ++ (logB frameR rl).take (m - (frameR r).length) := by
        rw [List.take_append, List.take_of_length_le (by omega)]
      have hj1 : (logB frameR (rl.take (j - 1))).length ≤ m - (frameR r).length := by
        rcases Nat.eq_zero_or_pos j with h | h
        · subst h; simp [logB]
        · obtain ⟨j', rfl⟩ : ∃ j', j = j' + 1 := ⟨j - 1, by omega⟩
          rw [List.take_succ_cons, logB_cons, List.length_append] at hj
          simp only [Nat.add_sub_cancel]
          omega
      obtain ⟨i, h1, h2, h3⟩ := log_part rl (j - 1) (m - (frameR r).length) hj1 (by omega) (by simp at hl; omega)
      refine ⟨i + 1, by omega, by simp; omega, ?_⟩
      rw [logB_cons, e1, List.take_succ_cons, logB_cons]
      rcases h3 with h3 | ⟨r', hr', t, ht0, ht1, h3⟩
      · exact .inl (by rw [h3])
      · exact .inr ⟨r', by simp [hr'], t, ht0, ht1, by rw [h3, List.append_assoc]⟩
/-- The files behind a power cut. -/
def lostV (kp : Int) (V : Cont) : Cont := fun t => (V t).map (cutV kp)
theorem lost_isSome (kp : Int) (V : Cont) (t : ByteArray) : (lostV kp V t).isSome = (V t).isSome := by
  unfold lostV
  cases V t <;> rfl
theorem lost_folder {V : Cont} {dir : ByteArray} {cps segs : List Nat} {draft : Bool} (kp : Int) (h : Folder V dir cps draft segs) : Folder (lostV kp V) dir cps draft segs :=
  ⟨h.cpr, h.segr, fun t => by rw [lost_isSome]; exact h.mem t⟩
theorem lost_synced {V : Cont} {s : ByteArray} {z : List Int} (kp : Int) (h : V s = some (z, z.length)) : lostV kp V s = some (z, z.length) := by
  unfold lostV
  rw [h]
  have h1 := keptN_le kp (z.length - z.length)
  have h2 : keptN kp (z.length - z.length) = 0 := by omega
  show some (cutV kp (z, z.length)) = _
  unfold cutV
  simp only [h2, Nat.add_zero, List.take_length]
theorem lost_none {V : Cont} {s : ByteArray} (kp : Int) (h : V s = none) : lostV kp V s = none := by
  unfold lostV
  rw [h]
  rfl
/-- What stands in a folder behind a power cut: it is whole, or its last segment is torn. -/
def PowerLog (V : Cont) (dir : ByteArray) (rs : List (List Int)) (M : Nat) : Prop :=
  (∃ LL : Sg, Log V dir none LL ∧ recsOf LL = rs ∧ LL.length ≤ M) ∨ ∃ (Ls0 LL : Sg) (kl : Nat) (rl : List (List Int)) (tl : List Int) (sl : Nat), TornLog V dir none Ls0 LL kl rl tl sl ∧ tl ≠ [] ∧ (logB frameR rl).length ≤ 69639 ∧ recsOf LL = rs ∧ LL.length ≤ M
theorem logB_take_len (rl : List (List Int)) (i : Nat) : (logB frameR (rl.take i)).length ≤ (logB frameR rl).length := by
  conv => rhs; rw [← List.take_append_drop i rl, logB_app, List.length_append]
  omega
/-- A write of a disk that is on: it is done, or the power goes. -/
theorem wr_cases (x : DSt) (hon : x.off = false) (hok : x.ok) (hw : x.wn ≤ 999999990) (l : Bool) (V : Cont) :
    (∃ y : DSt, x.wr l V = (0, y) ∧ y.V = V ∧ y.off = false ∧ y.ok ∧ y.wn = x.wn + 1) ∨ x.wr l V = (60, ⟨true, false, 0, 0, x.wn + 1, lostV x.kp (if l = true then V else x.V)⟩) := by
  obtain ⟨h1, h2, h3⟩ := hok
  unfold DSt.wr
  by_cases hs : x.set = false
  · rw [if_pos hs]
    exact .inl ⟨_, rfl, rfl, hon, ⟨by dsimp only; omega, by dsimp only; rw [hs]; simp, h3⟩, rfl⟩
  · rw [if_neg hs]
    have hs' : x.set = true := by simpa using hs
    have h4 := h2 hs'
    by_cases h0 : x.ah = 0
    · rw [if_pos h0]
      exact .inr rfl
    · rw [if_neg h0]
      exact .inl ⟨_, rfl, rfl, hon, ⟨by dsimp only; omega, fun _ => by dsimp only; omega, h3⟩, rfl⟩
/-- The same disk, not armed. -/
def DSt.calmed (x : DSt) : DSt := { x with off := false, set := false }
theorem calmed_calm (x : DSt) (h : x.ok) : x.calmed.Calm := ⟨rfl, rfl, ⟨h.1, (fun h => by cases h), h.2.2⟩⟩
end Go.Proofs.YtgpgkpciajajcaaGreatDoor

/- An armed disk's log: what Append and Sync make of it. (No program's numbers.) -/
namespace Go.Proofs.YtgpgkpciajajcaaGreatDoor
open Go.RowKit Go.Maps Go.Sort
set_option linter.unusedVariables false
set_option maxRecDepth 20000

theorem take_logB {rl : List (List Int)} {j : Nat} (h : j ≤ rl.length) (r : List Int) : (rl ++ [r]).take j = rl.take j := List.take_append_of_le_length h
/-- What rolls as if nothing were armed. -/
theorem roll_calmed (x : DSt) (dir : ByteArray) (op : Nat) : (rollX x dir op).2 = (rollX x.calmed dir op).2 := by
  unfold rollX
  show (match x.V (segN dir op) with | none => (x, op) | some q => if 4096 ≤ q.1.length then ((x.sync (segN dir op)).2, op + 1) else (x, op)).2 = (match x.V (segN dir op) with | none => (x.calmed, op) | some q => if 4096 ≤ q.1.length then ((x.calmed.sync (segN dir op)).2, op + 1) else (x.calmed, op)).2
  cases x.V (segN dir op) with
  | none => rfl
  | some q =>
    dsimp only
    split <;> rfl
/-- What Append comes to, on a disk that may be armed. -/
inductive AppCase (x : DSt) (dir : ByteArray) (Ls : Sg) (rec : List Int) (safe : Nat) : Prop
  /-- The power goes when the full segment is synced. -/
  | roll (q : List Int × Nat) (hV : x.V (segN dir (openN none Ls)) = some q) (hbig : 4096 ≤ q.1.length) (hs : x.sync (segN dir (openN none Ls)) = (60, ⟨true, false, 0, 0, x.wn + 1, lostV x.kp x.V⟩)) : AppCase x dir Ls rec safe
  /-- It goes when the record is written, or doesn't. -/
  | write (c : Int) (y : DSt) (hsy : ∀ q, x.V (segN dir (openN none Ls)) = some q → 4096 ≤ q.1.length → (x.sync (segN dir (openN none Ls))).1 = 0) (hon : (rollX x dir (openN none Ls)).1.off = false) (hok : (rollX x dir (openN none Ls)).1.ok) (hap : (rollX x dir (openN none Ls)).1.append (segN dir (rollX x dir (openN none Ls)).2) (frameR rec) = (c, y))
      (hy : (c = 0 ∧ y.off = false ∧ y.ok ∧ Log y.V dir none (addL none Ls rec) ∧ Sy y.V dir (addL none Ls rec) safe) ∨ (c = 60 ∧ ∃ kp V wn, y = ⟨true, false, 0, 0, wn, lostV kp V⟩ ∧ Log V dir none (addL none Ls rec) ∧ Sy V dir (addL none Ls rec) safe)) (hwn : x.wn ≤ y.wn ∧ y.wn ≤ x.wn + 2)
      (segs : segsX (Ls.map Prod.fst) (rollX x dir (openN none Ls)).2 = (addL none Ls rec).map Prod.fst) (op : (rollX x dir (openN none Ls)).2 = openN none (addL none Ls rec)) (room : (oldV (rollX x dir (openN none Ls)).1.V (segN dir (rollX x dir (openN none Ls)).2)).1.length < 4096) : AppCase x dir Ls rec safe
end Go.Proofs.YtgpgkpciajajcaaGreatDoor

/- A log with a checkpoint over an armed disk: what Append, Sync and a power cut make of it. (No program's numbers.) -/
namespace Go.Proofs.YtgpgkpciajajcaaGreatDoor
open Go.RowKit Go.Maps Go.Sort
set_option linter.unusedVariables false
set_option maxRecDepth 20000

/-- The checkpoint is synced. -/
def CpSy (V : Cont) (dir : ByteArray) (K : Kp) : Prop := ∀ q, K = some q → V (cpN dir q.1) = some (logB frameR q.2, (logB frameR q.2).length)
/-- What is synced of a log. -/
def SyK (V : Cont) (dir : ByteArray) (K : Kp) (Ls : Sg) (safe : Nat) : Prop := CpSy V dir K ∧ Sy V dir Ls safe
theorem CpSy.set {V : Cont} {dir : ByteArray} {K : Kp} (h : CpSy V dir K) (k : Nat) (v : Option (List Int × Nat)) : CpSy (setV V (segN dir k) v) dir K := fun q hq => by
  rw [setV_other _ _ (cp_ne_seg dir _ _)]
  exact h q hq
theorem CpSy.lost {V : Cont} {dir : ByteArray} {K : Kp} (h : CpSy V dir K) (kp : Int) : CpSy (lostV kp V) dir K := fun q hq => lost_synced kp (h q hq)
theorem CpSy.is {V V' : Cont} {dir : ByteArray} {K : Kp} (h : CpSy V' dir K) (hc : CpIs V dir (cpName dir K) K) : CpIs V' dir (cpName dir K) K := by
  cases K with
  | none => exact hc
  | some q => exact ⟨rfl, ⟨_, h q rfl⟩, hc.2.2⟩
theorem log_noseg {V : Cont} {dir : ByteArray} {K : Kp} {Ls : Sg} (h : Log V dir K Ls) {k : Nat} (hk : k < 100000000) (hn : k ∉ Ls.map Prod.fst) : V (segN dir k) = none := by
  cases hV : V (segN dir k) with
  | none => rfl
  | some v =>
    exfalso
    have := (h.folder.mem (segN dir k)).1 ⟨by rw [hV]; rfl, seg_in dir _⟩
    unfold namesL at this
    simp only [Bool.false_eq_true, if_false, List.nil_append, List.mem_append, List.mem_map] at this
    rcases this with ⟨j, _, e⟩ | ⟨j, ⟨p, hp, rfl⟩, e⟩
    · exact cp_ne_seg dir _ _ e
    · have h8 := (h.whole p hp).2.2
      have := seg_inj dir h8 hk e
      exact hn (List.mem_map.2 ⟨p, hp, this⟩)
/-- What stands in a folder behind a power cut: it is whole, or its last segment is torn. -/
def PowerK (V : Cont) (dir : ByteArray) (K : Kp) (rs : List (List Int)) (M : Nat) : Prop :=
  (∃ LL : Sg, Log V dir K LL ∧ recsOf LL = rs ∧ LL.length ≤ M) ∨ ∃ (Ls0 LL : Sg) (kl : Nat) (rl : List (List Int)) (tl : List Int) (sl : Nat), TornLog V dir K Ls0 LL kl rl tl sl ∧ tl ≠ [] ∧ (logB frameR rl).length ≤ 69639 ∧ recsOf LL = rs ∧ LL.length ≤ M
theorem power_logK {V : Cont} {dir : ByteArray} {K : Kp} {Ls : Sg} {safe : Nat} (kp : Int) (h : Log V dir K Ls) (hs : SyK V dir K Ls safe) (hg : ∀ q ∈ Ls, Good q) : ∃ R, safe ≤ R ∧ R ≤ (recsOf Ls).length ∧ PowerK (lostV kp V) dir K ((recsOf Ls).take R) Ls.length := by
  obtain ⟨hcs, hs⟩ := hs
  have hcp := (hcs.lost kp).is h.cp
  rcases hs with ⟨rfl, rfl⟩ | ⟨L0, k, rl, j, rfl, h0, h1, hj, hsafe⟩
  · refine ⟨0, Nat.le_refl _, Nat.zero_le _, .inl ⟨[], ⟨lost_folder kp h.folder, hcp, (fun q hq => by cases hq), (fun q hq => by cases hq), h.big⟩, rfl, Nat.le_refl _⟩⟩
  · have hw := h.whole (k, rl) (by simp)
    have hrise := h.rise
    have hlen := (hg (k, rl) (by simp)).2
    dsimp only at hw hlen
    obtain ⟨m, em⟩ : ∃ m, m = (logB frameR (rl.take j)).length + keptN kp ((logB frameR rl).length - (logB frameR (rl.take j)).length) := ⟨_, rfl⟩
    have hk := keptN_le kp ((logB frameR rl).length - (logB frameR (rl.take j)).length)
    have hjl := logB_take_len rl j
    obtain ⟨i, hi1, hi2, hi3⟩ := log_part rl j m (by omega) (by omega) hj
    have hV : lostV kp V (segN dir k) = some ((logB frameR rl).take m, m) := by
      unfold lostV
      rw [h1, em]
      rfl
    have hw0 : Whole (lostV kp V) dir L0 := fun q hq => by
      have := h.whole q (by simp [hq])
      exact ⟨⟨_, lost_synced kp (h0 q hq)⟩, this.2.1, this.2.2⟩
    have hri : ∀ r ∈ rl.take i, r.length ≤ 65536 := fun r hr => hw.2.1 r (List.mem_of_mem_take hr)
    have hmap : (L0 ++ [(k, rl.take i)]).map Prod.fst = (L0 ++ [(k, rl)]).map Prod.fst := by simp
    have hfold : Folder (lostV kp V) dir (cpNums K) false ((L0 ++ [(k, rl.take i)]).map Prod.fst) := by
      rw [hmap]
      exact lost_folder kp h.folder
    have habove : ∀ q ∈ L0 ++ [(k, rl.take i)], lastN K < q.1 := fun q hq => by
      rcases List.mem_append.1 hq with hq | hq
      · exact h.above q (by simp [hq])
      · simp only [List.mem_singleton] at hq
        subst hq
        exact h.above (k, rl) (by simp)
    have hrec : recsOf (L0 ++ [(k, rl.take i)]) = (recsOf (L0 ++ [(k, rl)])).take ((recsOf L0).length + i) := by
      unfold recsOf
      rw [List.flatMap_append, List.flatMap_append]
      simp only [List.flatMap_cons, List.flatMap_nil, List.append_nil]
      rw [List.take_length_add_append]
    have hlenR : (recsOf (L0 ++ [(k, rl)])).length = (recsOf L0).length + rl.length := by
      unfold recsOf
      rw [List.flatMap_append]
      simp
    refine ⟨(recsOf L0).length + i, by omega, by rw [hlenR]; omega, ?_⟩
    rw [← hrec]
    rcases hi3 with hi3 | ⟨r, hr, t, ht0, ht1, hi3⟩
    · refine .inl ⟨L0 ++ [(k, rl.take i)], ⟨hfold, hcp, fun q hq => ?_, habove, h.big⟩, rfl, by simp⟩
      rcases List.mem_append.1 hq with hq | hq
      · exact hw0 q hq
      · simp only [List.mem_singleton] at hq
        subst hq
        exact ⟨⟨m, by rw [hV, hi3]⟩, hri, hw.2.2⟩
    · have htl : (frameR r).take t ≠ [] := fun e => by
        have := congrArg List.length e
        rw [List.length_take] at this
        simp only [List.length_nil] at this
        omega
      refine .inr ⟨L0, L0 ++ [(k, rl.take i)], k, rl.take i, (frameR r).take t, m, ⟨rfl, hfold, hcp, hw0, by rw [hV, hi3], FileRecs.torn _ r t hri (hw.2.1 r hr) ht1, habove, h.big, hw.2.2, lost_none kp h.noNew⟩, htl, Nat.le_trans (logB_take_len rl i) hlen, rfl, by simp⟩
theorem sy_addK {x : DSt} {dir : ByteArray} {K : Kp} {Ls : Sg} {rec : List Int} {safe : Nat} (h : Log x.V dir K Ls) (hc : x.Calm) (hw : x.wn ≤ 999999980) (hop : openN K Ls < 99999998) (hs : SyK x.V dir K Ls safe) : SyK (appX x dir (openN K Ls) rec).V dir K (addL K Ls rec) safe := by
  obtain ⟨hcs, hs⟩ := hs
  rcases hs with ⟨rfl, rfl⟩ | ⟨L0, k, rl, j, rfl, h0, h1, hj, hsafe⟩
  · have hopn : openN K ([] : Sg) = lastN K + 1 := rfl
    rw [hopn] at hop
    have hV : x.V (segN dir (lastN K + 1)) = none := log_noseg h (by omega) (by simp)
    have hroll : rollX x dir (lastN K + 1) = (x, lastN K + 1) := by unfold rollX; rw [hV]
    have happ : (appX x dir (lastN K + 1) rec).V = setV x.V (segN dir (lastN K + 1)) (some (frameR rec, 0)) := by
      unfold appX
      rw [hroll, calm_app x hc]
      have : oldV x.V (segN dir (lastN K + 1)) = ([], 0) := by unfold oldV; rw [hV]; rfl
      rw [this, List.nil_append]
    rw [hopn, happ]
    exact ⟨hcs.set _ _, .inr ⟨[], lastN K + 1, [rec], 0, rfl, fun q hq => (by cases hq), by rw [setV_same, logB_one]; rfl, Nat.zero_le _, Nat.zero_le _⟩⟩
  · have hopn : openN K (L0 ++ [(k, rl)]) = k := openN_snoc K L0 (k, rl)
    rw [hopn] at hop ⊢
    have hw8 := (h.whole (k, rl) (by simp)).2.2
    dsimp only at hw8
    have hlow := h.rise
    have hlast : (L0 ++ [(k, rl)]).getLast? = some (k, rl) := by simp
    have hne : ∀ q ∈ L0, segN dir q.1 ≠ segN dir k := fun q hq e => by
      have h8 := (h.whole q (by simp [hq])).2.2
      have := hlow q hq
      have := seg_inj dir h8 hw8 e
      dsimp only at *
      omega
    by_cases hbig : 4096 ≤ (logB frameR rl).length
    · have hsy := calm_sync x hc (segN dir k) _ h1
      have hroll : rollX x dir k = ({ x with wn := x.wn + 1, V := setV x.V (segN dir k) (some (logB frameR rl, (logB frameR rl).length)) }, k + 1) := by
        unfold rollX
        rw [h1]
        dsimp only
        rw [if_pos hbig, hsy]
      have hc1 := calm_next x hc (by omega) (setV x.V (segN dir k) (some (logB frameR rl, (logB frameR rl).length)))
      have hne1 : segN dir (k + 1) ≠ segN dir k := fun e => by have := seg_inj dir (by omega) (by omega) e; omega
      have hne2 : ∀ q ∈ L0, segN dir q.1 ≠ segN dir (k + 1) := fun q hq e => by
        have h8 := (h.whole q (by simp [hq])).2.2
        have := hlow q hq
        have := seg_inj dir h8 (by omega) e
        dsimp only at *
        omega
      have hV2 : setV x.V (segN dir k) (some (logB frameR rl, (logB frameR rl).length)) (segN dir (k + 1)) = none := by
        rw [setV_other _ _ hne1]
        refine log_noseg h (by omega) (fun hm => ?_)
        obtain ⟨p, hp, e⟩ := List.mem_map.1 hm
        rcases List.mem_append.1 hp with hp | hp
        · exact hne2 p hp (by rw [e])
        · simp only [List.mem_singleton] at hp
          subst hp
          dsimp only at e
          omega
      have hold : oldV (setV x.V (segN dir k) (some (logB frameR rl, (logB frameR rl).length))) (segN dir (k + 1)) = ([], 0) := by unfold oldV; rw [hV2]; rfl
      have happ : (appX x dir k rec).V = setV (setV x.V (segN dir k) (some (logB frameR rl, (logB frameR rl).length))) (segN dir (k + 1)) (some (frameR rec, 0)) := by
        unfold appX
        rw [hroll]
        dsimp only
        rw [calm_app _ hc1, hold, List.nil_append]
      have hadd : addL K (L0 ++ [(k, rl)]) rec = (L0 ++ [(k, rl)]) ++ [(k + 1, [rec])] := by unfold addL; rw [hlast]; exact if_pos hbig
      rw [happ, hadd]
      refine ⟨(hcs.set _ _).set _ _, .inr ⟨L0 ++ [(k, rl)], k + 1, [rec], 0, rfl, fun q hq => ?_, by rw [setV_same, logB_one]; rfl, Nat.zero_le _, ?_⟩⟩
      · rcases List.mem_append.1 hq with hq | hq
        · rw [setV_other _ _ (hne2 q hq), setV_other _ _ (hne q hq)]
          exact h0 q hq
        · simp only [List.mem_singleton] at hq
          subst hq
          rw [setV_other _ _ hne1.symm, setV_same]
      · have : (recsOf (L0 ++ [(k, rl)])).length = (recsOf L0).length + rl.length := by
          unfold recsOf
          rw [List.flatMap_append]
          simp
        omega
    · have hroll : rollX x dir k = (x, k) := by
        unfold rollX
        rw [h1]
        exact if_neg hbig
      have hold : oldV x.V (segN dir k) = (logB frameR rl, (logB frameR (rl.take j)).length) := by unfold oldV; rw [h1]; rfl
      have happ : (appX x dir k rec).V = setV x.V (segN dir k) (some (logB frameR (rl ++ [rec]), (logB frameR (rl.take j)).length)) := by
        unfold appX
        rw [hroll]
        dsimp only
        rw [calm_app _ hc, hold, logB_app, logB_one]
      have hadd : addL K (L0 ++ [(k, rl)]) rec = L0 ++ [(k, rl ++ [rec])] := by
        unfold addL
        rw [hlast]
        dsimp only
        rw [if_neg hbig]
        simp
      rw [happ, hadd]
      refine ⟨hcs.set _ _, .inr ⟨L0, k, rl ++ [rec], j, rfl, fun q hq => ?_, by rw [setV_same, take_logB hj], by simp; omega, hsafe⟩⟩
      rw [setV_other _ _ (hne q hq)]
      exact h0 q hq
/-- What Append comes to, on a disk that may be armed. -/
inductive AppCaseK (x : DSt) (dir : ByteArray) (K : Kp) (Ls : Sg) (rec : List Int) (safe : Nat) : Prop
  /-- The power goes when the full segment is synced. -/
  | roll (q : List Int × Nat) (hV : x.V (segN dir (openN K Ls)) = some q) (hbig : 4096 ≤ q.1.length) (hs : x.sync (segN dir (openN K Ls)) = (60, ⟨true, false, 0, 0, x.wn + 1, lostV x.kp x.V⟩)) : AppCaseK x dir K Ls rec safe
  /-- It goes when the record is written, or doesn't. -/
  | write (c : Int) (y : DSt) (hsy : ∀ q, x.V (segN dir (openN K Ls)) = some q → 4096 ≤ q.1.length → (x.sync (segN dir (openN K Ls))).1 = 0) (hon : (rollX x dir (openN K Ls)).1.off = false) (hok : (rollX x dir (openN K Ls)).1.ok) (hap : (rollX x dir (openN K Ls)).1.append (segN dir (rollX x dir (openN K Ls)).2) (frameR rec) = (c, y))
      (hy : (c = 0 ∧ y.off = false ∧ y.ok ∧ Log y.V dir K (addL K Ls rec) ∧ SyK y.V dir K (addL K Ls rec) safe) ∨ (c = 60 ∧ ∃ kp V wn, y = ⟨true, false, 0, 0, wn, lostV kp V⟩ ∧ Log V dir K (addL K Ls rec) ∧ SyK V dir K (addL K Ls rec) safe)) (hwn : x.wn ≤ y.wn ∧ y.wn ≤ x.wn + 2)
      (segs : segsX (Ls.map Prod.fst) (rollX x dir (openN K Ls)).2 = (addL K Ls rec).map Prod.fst) (op : (rollX x dir (openN K Ls)).2 = openN K (addL K Ls rec)) (room : (oldV (rollX x dir (openN K Ls)).1.V (segN dir (rollX x dir (openN K Ls)).2)).1.length < 4096) : AppCaseK x dir K Ls rec safe
theorem app_caseK {x : DSt} {dir : ByteArray} {K : Kp} {Ls : Sg} {rec : List Int} {safe : Nat} (h : Log x.V dir K Ls) (hon : x.off = false) (hok : x.ok) (hw : x.wn ≤ 999999980) (hr : rec.length ≤ 65536) (hop : openN K Ls < 99999998) (hs : SyK x.V dir K Ls safe) : AppCaseK x dir K Ls rec safe := by
  have hcc := calmed_calm x hok
  have hA := log_add (x := x.calmed) (rec := rec) h hcc hw hr hop
  have hS := sy_addK (x := x.calmed) (rec := rec) h hcc hw hop hs
  have hR2 := roll_calmed x dir (openN K Ls)
  have hseg := hA.segs
  have hopA := hA.op
  rw [← hR2] at hseg hopA
  -- behind the roll
  have key : ∀ (hsy : ∀ q, x.V (segN dir (openN K Ls)) = some q → 4096 ≤ q.1.length → (x.sync (segN dir (openN K Ls))).1 = 0) (h1 : (rollX x dir (openN K Ls)).1.off = false) (h2 : (rollX x dir (openN K Ls)).1.ok) (h3 : x.wn ≤ (rollX x dir (openN K Ls)).1.wn ∧ (rollX x dir (openN K Ls)).1.wn ≤ x.wn + 1) (h4 : (rollX x dir (openN K Ls)).1.V = (rollX x.calmed dir (openN K Ls)).1.V) (h5 : (rollX x.calmed dir (openN K Ls)).1.Calm), AppCaseK x dir K Ls rec safe := by
    intro hsy h1 h2 h3 h4 h5
    have hroom := hA.room
    rw [← h4, ← hR2] at hroom
    have eV : (appX x.calmed dir (openN K Ls) rec).V = setV (rollX x dir (openN K Ls)).1.V (segN dir (rollX x dir (openN K Ls)).2) (some ((oldV (rollX x dir (openN K Ls)).1.V (segN dir (rollX x dir (openN K Ls)).2)).1 ++ frameR rec, (oldV (rollX x dir (openN K Ls)).1.V (segN dir (rollX x dir (openN K Ls)).2)).2)) := by
      unfold appX
      rw [calm_app _ h5, ← h4, ← hR2]
    have hlog := hA.log
    rw [eV] at hlog hS
    obtain ⟨V1, eV1⟩ : ∃ V1, V1 = setV (rollX x dir (openN K Ls)).1.V (segN dir (rollX x dir (openN K Ls)).2) (some ((oldV (rollX x dir (openN K Ls)).1.V (segN dir (rollX x dir (openN K Ls)).2)).1 ++ frameR rec, (oldV (rollX x dir (openN K Ls)).1.V (segN dir (rollX x dir (openN K Ls)).2)).2)) := ⟨_, rfl⟩
    rw [← eV1] at hlog hS
    have hap : (rollX x dir (openN K Ls)).1.append (segN dir (rollX x dir (openN K Ls)).2) (frameR rec) = (rollX x dir (openN K Ls)).1.wr true V1 := by
      unfold DSt.append
      rw [h1, eV1]
      rfl
    rcases wr_cases _ h1 h2 (by omega) true V1 with ⟨y, e, y1, y2, y3, y4⟩ | e
    · exact .write 0 y hsy h1 h2 (hap.trans e) (.inl ⟨rfl, y2, y3, by rw [y1]; exact hlog, by rw [y1]; exact hS⟩) (by omega) hseg hopA hroom
    · exact .write 60 _ hsy h1 h2 (hap.trans e) (.inr ⟨rfl, _, V1, _, rfl, hlog, hS⟩) (by dsimp only; omega) hseg hopA hroom
  cases hV : x.V (segN dir (openN K Ls)) with
  | none =>
    have e1 : rollX x dir (openN K Ls) = (x, openN K Ls) := by unfold rollX; rw [hV]
    have e2 : rollX x.calmed dir (openN K Ls) = (x.calmed, openN K Ls) := by unfold rollX; rw [show x.calmed.V (segN dir (openN K Ls)) = none from hV]
    refine key (fun q hq => by rw [hV] at hq; cases hq) (by rw [e1]; exact hon) (by rw [e1]; exact hok) (by rw [e1]; dsimp only; omega) (by rw [e1, e2]; rfl) (by rw [e2]; exact hcc)
  | some q =>
    by_cases hbig : 4096 ≤ q.1.length
    · have hsync : x.sync (segN dir (openN K Ls)) = x.wr false (setV x.V (segN dir (openN K Ls)) (some (q.1, q.1.length))) := by
        unfold DSt.sync
        rw [hon, hV]
        rfl
      have e1 : rollX x dir (openN K Ls) = ((x.sync (segN dir (openN K Ls))).2, openN K Ls + 1) := by unfold rollX; rw [hV]; exact if_pos hbig
      have hcs := calm_sync x.calmed hcc (segN dir (openN K Ls)) q hV
      have e2 : rollX x.calmed dir (openN K Ls) = ((x.calmed.sync (segN dir (openN K Ls))).2, openN K Ls + 1) := by unfold rollX; rw [show x.calmed.V (segN dir (openN K Ls)) = some q from hV]; exact if_pos hbig
      rcases wr_cases x hon hok (by omega) false (setV x.V (segN dir (openN K Ls)) (some (q.1, q.1.length))) with ⟨y, e, y1, y2, y3, y4⟩ | e
      · rw [e] at hsync
        refine key (fun _ _ _ => by rw [hsync]) (by rw [e1, hsync]; exact y2) (by rw [e1, hsync]; exact y3) (by rw [e1, hsync]; dsimp only; omega) (by rw [e1, e2, hsync, hcs]; exact y1) (by rw [e2, hcs]; exact calm_next x.calmed hcc (by show x.wn ≤ _; omega) _)
      · exact .roll q hV hbig (hsync.trans e)
    · have e1 : rollX x dir (openN K Ls) = (x, openN K Ls) := by unfold rollX; rw [hV]; exact if_neg hbig
      have e2 : rollX x.calmed dir (openN K Ls) = (x.calmed, openN K Ls) := by unfold rollX; rw [show x.calmed.V (segN dir (openN K Ls)) = some q from hV]; exact if_neg hbig
      exact key (fun q' hq' hb => by rw [hV] at hq'; cases hq'; exact absurd hb hbig) (by rw [e1]; exact hon) (by rw [e1]; exact hok) (by rw [e1]; dsimp only; omega) (by rw [e1, e2]; rfl) (by rw [e2]; exact hcc)
/-- What Sync comes to. -/
theorem sync_caseK {x : DSt} {dir : ByteArray} {K : Kp} {Ls : Sg} {safe : Nat} (h : Log x.V dir K Ls) (hon : x.off = false) (hok : x.ok) (hw : x.wn ≤ 999999980) (hs : SyK x.V dir K Ls safe) :
    ((isOpen (Ls.map Prod.fst) (openN K Ls) = true → (x.sync (segN dir (openN K Ls))).1 = 0) ∧ (syncX x dir (Ls.map Prod.fst) (openN K Ls)).off = false ∧ (syncX x dir (Ls.map Prod.fst) (openN K Ls)).ok ∧ Log (syncX x dir (Ls.map Prod.fst) (openN K Ls)).V dir K Ls ∧ SyK (syncX x dir (Ls.map Prod.fst) (openN K Ls)).V dir K Ls (recsOf Ls).length ∧ (syncX x dir (Ls.map Prod.fst) (openN K Ls)).wn ≤ x.wn + 1 ∧ x.wn ≤ (syncX x dir (Ls.map Prod.fst) (openN K Ls)).wn) ∨
    (isOpen (Ls.map Prod.fst) (openN K Ls) = true ∧ x.sync (segN dir (openN K Ls)) = (60, ⟨true, false, 0, 0, x.wn + 1, lostV x.kp x.V⟩)) := by
  obtain ⟨hcK, hs⟩ := hs
  rcases hs with ⟨rfl, rfl⟩ | ⟨L0, k, rl, j, rfl, h0, h1, hj, hsafe⟩
  · have e : isOpen ([] : List Nat) (openN K []) = false := by simp [isOpen]
    left
    unfold syncX
    rw [List.map_nil, e]
    simp only [Bool.false_eq_true, if_false, false_implies, true_and]
    exact ⟨hon, hok, h, ⟨hcK, .inl ⟨rfl, rfl⟩⟩, by omega, by omega⟩
  · have hopn : openN K (L0 ++ [(k, rl)]) = k := openN_snoc K L0 (k, rl)
    have hmap : (L0 ++ [(k, rl)]).map Prod.fst = L0.map Prod.fst ++ [k] := by simp
    have hio : isOpen ((L0 ++ [(k, rl)]).map Prod.fst) k = true := by rw [hmap]; exact isOpen_snoc _ _
    have hcc := calmed_calm x hok
    have hls := log_sync (x := x.calmed) h hcc hw
    rw [hopn] at hls ⊢
    have hsync : x.sync (segN dir k) = x.wr false (setV x.V (segN dir k) (some (logB frameR rl, (logB frameR rl).length))) := by
      unfold DSt.sync
      rw [hon, h1]
      rfl
    have hcs := calm_sync x.calmed hcc (segN dir k) _ h1
    have hlog : Log (setV x.V (segN dir k) (some (logB frameR rl, (logB frameR rl).length))) dir K (L0 ++ [(k, rl)]) := by
      have := hls.1
      unfold syncX at this
      rw [if_pos hio, hcs] at this
      exact this
    have hlow := h.rise
    have hw8 := (h.whole (k, rl) (by simp)).2.2
    rcases wr_cases x hon hok (by omega) false (setV x.V (segN dir k) (some (logB frameR rl, (logB frameR rl).length))) with ⟨y, e, y1, y2, y3, y4⟩ | e
    · left
      rw [e] at hsync
      unfold syncX
      rw [if_pos hio, hsync]
      refine ⟨fun _ => rfl, y2, y3, by rw [y1]; exact hlog, ?_, by dsimp only; omega, by dsimp only; omega⟩
      rw [y1]
      refine ⟨hcK.set _ _, .inr ⟨L0, k, rl, rl.length, rfl, fun q hq => ?_, by rw [setV_same, List.take_length], Nat.le_refl _, ?_⟩⟩
      · rw [setV_other _ _ (fun e' => ?_)]
        · exact h0 q hq
        · have h8 := (h.whole q (by simp [hq])).2.2
          have := hlow q hq
          have := seg_inj dir h8 hw8 e'
          dsimp only at *
          omega
      · unfold recsOf
        rw [List.flatMap_append]
        simp
    · exact .inr ⟨hio, hsync.trans e⟩
end Go.Proofs.YtgpgkpciajajcaaGreatDoor

