/- Several texts in one: Po, Pp, Pq, Pr, Ps. -/
import Derived.Test.YthbodkgcbfplgaaGreatZh
import Derived.Test.YthbodkgcbfplgaaGreatZb
/- Package parse: group. -/
namespace Go.Proofs.YthbodkgcbfplgaaGreat
open Go.RowKit
set_option linter.unusedVariables false
set_option linter.unusedSimpArgs false
set_option maxRecDepth 20000

/-- What group answers. -/
def GOut (b p : Nat) (K : Tk) (k : Nat) (op : Int) (v : Value) (L : List Row) (R : Rs (Int × List ByteArray)) (w : World) (e : Ending) (w' : World) : Prop :=
  match R with
  | .ok g r => ∃ sl : Sl, e = .returned (.tuple #[.int .i64 g.1, slV sl]) ∧ SOwn strE 9 w' w.heap.size (slV sl) g.2.length g.2 ∧ ∃ k', RdAt w' b p K k' op v L ∧ Ahead K k' r ∧ k ≤ k' ∧ Fr (Me p) w w'
  | .bad q c => e = .panicked (flt q c) ∧ Fr (Me p) w w'
  | .out => False
theorem acc_start {α : Type} {E : Elem α} {e t : TypeId} {w w3 : World} {b p rbox : Nat} {K : Tk} {k0 k : Nat} {op0 op : Int} {v : Value} {L : List Row} (h0 : RdAt w b p K k0 op0 v L) (h : RdAt w3 b p K k op v L) (hf : Fr (Me p) w w3) (hrb : w3.heap[rbox]? = some (.cells #[.pointer (some ⟨p, 0, none⟩)] 58 (0, 0))) (hlo : w.heap.size ≤ rbox) :
    AccAt E e t w w3.heap.size rbox b p K op v L [] k (w3.alloc (.cells #[.slice none 0 0] t)) := by
  have ga := World.grownBy_alloc w3 (.cells #[.slice none 0 0] t) none
  have hl := (Array.getElem?_eq_some_iff.1 hrb).1
  refine ⟨h.grown ga, hf.trans (.of (S := Me p) ga) (fun _ _ e => e), ⟨(none, 0, 0), heap_alloc_new _ _, SOwn.nil _ _ _⟩, (ga.block _ hl (by simp)).trans hrb, ⟨hlo, hl⟩, ⟨k0, op0, h0⟩⟩
/-- The names that are in the making. -/
def NmI (w0 : World) (box rbox b p : Nat) (K : Tk) (op : Int) (v : Value) (L : List Row) (ns : List ByteArray) (k : Nat) (w : World) : Prop := AccAt strE 9 35 w0 box rbox b p K op v L ns k w ∧ ns.length ≤ k
theorem f_names {w0 : World} {box rbox b p : Nat} {K : Tk} {op : Int} {v : Value} {L : List Row} (f k : Nat) (ts : List Tok) (w : World) (h : AccAt strE 9 35 w0 box rbox b p K op v L [] k w) (ha : Ahead K k ts) (hf : ts.length < f) :
    Calls Tryz.prog 90 #[.pointer (some ⟨p, 0, none⟩), .string ⟨#[40]⟩, .func (.func 91) #[] #[.pointer (some ⟨box, 0, none⟩), .pointer (some ⟨rbox, 0, none⟩)], .string ⟨#[41]⟩] w fun e w' => LOut (NmI w0 box rbox b p K op v L) K (Me p) w0 k (listR nstep ⟨#[40]⟩ ⟨#[41]⟩ f [] ts) e w' := by
  refine f_list (NmI w0 box rbox b p K op v L) (Me p) w0 nstep 91 _ _ _ (ent60 _) (b := b) (p := p) (op := op) (v := v) (L := L) (fun a k w h => h.1.rd) (fun a k k' w w' hk h hr hf => ⟨h.1.step hr hf, Nat.le_trans h.2 hk⟩) (fun a k w h => h.1.fr) (fun a k ts w h ha => ?_) f [] k ts w ⟨h, Nat.zero_le _⟩ ha (fine_ne (listR_fine nstep_fine f [] ts hf))
  · refine (f_nstep h.1 ha (by have := h.2; have := ha.lt; have := ha.small; omega)).mono fun e w' h2 => ?_
    cases hs : nstep a ts with
    | out => rw [hs] at h2; exact h2.elim
    | bad q c => rw [hs] at h2; exact h2
    | ok a2 r2 =>
      rw [hs] at h2
      obtain ⟨e1, k1, h3, ha3, hk3⟩ := h2
      refine ⟨e1, k1, ⟨h3, ?_⟩, ha3, hk3⟩
      have hl : a2.length = a.length + 1 := by
        unfold nstep at hs
        cases hn : lname ts with
        | ok s r => rw [hn, bind_ok] at hs; cases hs; simp
        | bad q c => rw [hn, bind_bad] at hs; cases hs
        | out => rw [hn] at hs; cases hs
      have := h.2
      omega
theorem take_ahead {K : Tk} {k : Nat} {ts : List Tok} (h : Ahead K k ts) : ts.length ≤ 4097 := by have := h.len; have := h.small; omega
set_option maxHeartbeats 2000000 in
theorem f_group {w : World} {b p : Nat} {K : Tk} {k : Nat} {op : Int} {v : Value} {L : List Row} {ts : List Tok} (h : RdAt w b p K k op v L) (ha : Ahead K k ts) (a2 : Option Addr) (c2 : Nat) (may : List Int) (hm : SRd numE w a2 may) (hl2 : may.length ≤ 1000) (h0 : may.contains 0 = false) :
    Calls Tryz.prog 79 #[.pointer (some ⟨p, 0, none⟩), .slice a2 may.length c2] w fun e w' => GOut b p K k op v L (groupR 5000 may ts) w e w' := by
  have H := hid h
  have HA := hid ha
  have HM := hid hm
  have H0 := hid h0
  have g0 := World.grownBy_alloc w (.cells #[.pointer (some ⟨p, 0, none⟩)] 58) none
  have hr0 := heap_alloc_new w (.cells #[.pointer (some ⟨p, 0, none⟩)] 58)
  have HR0 := hid hr0
  have HG0 := hid (gb_drew g0)
  have r0 : (w.alloc (.cells #[.pointer (some ⟨p, 0, none⟩)] 58)).drew.cell? ⟨w.heap.size, 0, none⟩ = some (.pointer (some ⟨p, 0, none⟩)) := one_cell hr0
  have HPL := hid h.lt
  have hne : p ≠ w.heap.size := by have := h.lt; omega
  have hw0 : w.heap.size < (w.alloc (.cells #[.pointer (some ⟨p, 0, none⟩)] 58)).drew.heap.size := by show _ < (w.alloc _).heap.size; rw [size_alloc]; omega
  have HW0 := hid hw0
  have HLN : Hid (may.length ≤ 1000) := hl2
  unfold groupR
  obtain ⟨n, hn⟩ : ∃ n, takeN grpsR may ts = n := ⟨_, rfl⟩
  obtain ⟨r, hr⟩ : ∃ r, takeR grpsR may ts = r := ⟨_, rfl⟩
  rw [hn, hr]
  have HN := hid hn
  have HRR := hid hr
  clear h ha hm h0 g0 hr0 hl2 hw0 hn hr
  by_cases hz : n = 0
  · rw [if_pos hz]
    have q0 : (n == 0) = true := by simpa using hz
    have HZ := hid hz
    clear hz
    go_enter Tryz.func79, Tryz.ntmps79
    go_wp2_with fail
    generalize hW : (w.alloc (.cells #[.pointer (some ⟨p, 0, none⟩)] 58)) = W at *
    clear hW
    go_region_held3 (fun V => V.cell? ⟨w.heap.size, 0, none⟩ = some (.pointer (some ⟨p, 0, none⟩))) (go_keep) (first
      | (go_at_call 89; refine (f_grps _).mono ?_; rintro e w1 ⟨a1, c1, rfl, h1, g1⟩; have HR1 := hid h1; have HG1 := hid (HG0.out.trans g1); have r1 := g1.cell r0 (by simp); have HB1 := hid ((g1.block _ HW0.out (by simp)).trans HR0.out); have HLT1 : Hid (w.heap.size < w1.heap.size) := Nat.lt_of_lt_of_le HW0.out g1.size; clear h1 g1)
      | (go_at_call 76; refine (f_one (H.out.grown HG1.out) HA.out a1 a2 c1 c2 grpsR may HR1.out (by decide) (HM.out.grown HG1.out (by simp)) HLN.out H0.out).mono ?_; rintro e w2 ⟨rfl, k2, h2, ha2, hk2, hk22, f2⟩; rw [HN.out]; rw [HRR.out] at ha2; have H2 := hid h2; have HA2 := hid ha2; have HK2 := hid hk2; have HF2 : Hid (Fr (Me p) w w2) := (Fr.of (S := Me p) HG1.out).trans f2 (fun _ _ e => e); have HB2 := hid ((f2.block _ HLT1.out (fun e => hne e.symm)).trans HB1.out); have r2 := one_cell HB2.out; clear h2 ha2 hk2 f2 hk22))
    all_goals clear HR1 HG1 HB1 HLT1 HG0 HR0 HW0 HM H0
    go_wp2
    go_ret2
    exact ⟨(none, 0, 0), rfl, SOwn.nil _ _ _, k2, H2.out, HA2.out, HK2.out, HF2.out⟩
  · rw [if_neg hz]
    have q0 : (n == 0) = false := by simpa using hz
    clear hz
    go_enter Tryz.func79, Tryz.ntmps79
    go_wp2_with fail
    generalize hW : (w.alloc (.cells #[.pointer (some ⟨p, 0, none⟩)] 58)) = W at *
    clear hW
    go_region_held3 (fun V => V.cell? ⟨w.heap.size, 0, none⟩ = some (.pointer (some ⟨p, 0, none⟩))) (go_keep) (first
      | (go_at_call 89; refine (f_grps _).mono ?_; rintro e w1 ⟨a1, c1, rfl, h1, g1⟩; have HR1 := hid h1; have HG1 := hid (HG0.out.trans g1); have r1 := g1.cell r0 (by simp); have HB1 := hid ((g1.block _ HW0.out (by simp)).trans HR0.out); have HLT1 : Hid (w.heap.size < w1.heap.size) := Nat.lt_of_lt_of_le HW0.out g1.size; clear h1 g1)
      | (go_at_call 76; refine (f_one (H.out.grown HG1.out) HA.out a1 a2 c1 c2 grpsR may HR1.out (by decide) (HM.out.grown HG1.out (by simp)) HLN.out H0.out).mono ?_; rintro e w2 ⟨rfl, k2, h2, ha2, hk2, hk22, f2⟩; rw [HN.out]; rw [HRR.out] at ha2; have H2 := hid h2; have HA2 := hid ha2; have HK2 := hid hk2; have HF2 : Hid (Fr (Me p) w w2) := (Fr.of (S := Me p) HG1.out).trans f2 (fun _ _ e => e); have HB2 := hid ((f2.block _ HLT1.out (fun e => hne e.symm)).trans HB1.out); have r2 := one_cell HB2.out; clear h2 ha2 hk2 f2 hk22))
    all_goals clear HR1 HG1 HB1 HLT1 HG0 HR0 HW0 HM H0
    have HC := hid (acc_start (E := strE) (e := 9) (t := 35) H.out H2.out HF2.out HB2.out (Nat.le_refl _))
    have r3 := one_cell HC.out.rb
    have HNM := hid (f_names 5000 k2 r _ HC.out HA2.out (by have := take_ahead HA2.out; omega))
    have HFN := hid (listR_fine nstep_fine (opens := ⟨#[40]⟩) (closes := ⟨#[41]⟩) 5000 [] r (by have := take_ahead HA2.out; omega))
    go_wp2_with fail
    refine HNM.out.mono ?_
    intro e w3 h3
    cases hs : listR nstep ⟨#[40]⟩ ⟨#[41]⟩ 5000 [] r with
    | out => rw [hs] at h3; exact h3.elim
    | bad q c =>
      rw [hs] at h3
      obtain ⟨rfl, f3⟩ := h3
      have HF3 := hid f3
      have HS := hid hs
      clear f3 hs HNM
      go_wp2
      refine ⟨rfl, ?_⟩
      rw [HS.out, bind_bad]
      exact ⟨rfl, HF3.out⟩
    | ok ns r4 =>
      rw [hs] at h3
      obtain ⟨rfl, k4, h4, ha4, hk4⟩ := h3
      obtain ⟨sl, hb4, ho4⟩ := h4.1.ex
      have H4 := hid h4.1
      have HA4 := hid ha4
      have HO4 := hid ho4
      have HS := hid hs
      have b4 := one_cell hb4
      have HK4 : Hid (k ≤ k4) := Nat.le_trans HK2.out (Nat.le_of_lt hk4)
      obtain ⟨x1, x2, x3⟩ := sl
      unfold slV at b4
      clear h4 hs HNM hb4 ho4 ha4 hk4
      go_wp2_with fail
      go_region
      all_goals go_wp2
      all_goals go_ret2
      all_goals rw [HS.out, bind_ok]
      all_goals exact ⟨(x1, x2, x3), rfl, SOwn.base HO4.out (by have := H4.out.lo; omega), k4, H4.out.rd.grown (gb_drew (World.grownBy.refl _ _)), HA4.out, HK4.out, H4.out.fr.drew⟩
end Go.Proofs.YthbodkgcbfplgaaGreat

/- Package parse: with. -/
namespace Go.Proofs.YthbodkgcbfplgaaGreat
open Go.RowKit
set_option linter.unusedVariables false
set_option linter.unusedSimpArgs false
set_option maxRecDepth 20000

/-- What with answers. -/
def WOut (b p : Nat) (K : Tk) (k : Nat) (op : Int) (v : Value) (L : List Row) (base : Nat) (sl : Sl) (R : Rs (List Mt)) (w : World) (e : Ending) (w' : World) : Prop :=
  match R with
  | .ok ms r => ∃ sl2 : Sl, e = .returned (slV sl2) ∧ SOwn matE 54 w' base (slV sl2) ms.length ms ∧ ∃ k', RdAt w' b p K k' op v L ∧ Ahead K k' r ∧ k < k' ∧ Fr (Wr p (slV sl)) w w'
  | .bad q c => e = .panicked (flt q c) ∧ Fr (Wr p (slV sl)) w w'
  | .out => False
theorem row3 {w : World} {g : Nat} {x y z : Value} {t : TypeId} (h : w.heap[g]? = some (.cells #[x, y, z] t (0, 0))) (v : Value) : (w.setCell ⟨g, 2, none⟩ v).heap[g]? = some (.cells #[x, y, v] t (0, 0)) ∧ (w.setCell ⟨g, 0, none⟩ v).heap[g]? = some (.cells #[v, y, z] t (0, 0)) := by
  constructor <;> simp [World.setCell, Array.getElem?_modify, h]
theorem mat_lit1 (w : World) (m : Mt) : SRd matE (w.alloc (.cells #[.int .i64 m.1, .string m.2.1, .string m.2.2] 54)) (some ⟨w.heap.size, 0, none⟩) [m] := by
  have := lit_rd matE w 54 [m]
  simpa [Elem.flat, matE] using this
set_option maxHeartbeats 1000000 in
theorem f_with {w w0 : World} {b p : Nat} {K : Tk} {k k0 : Nat} {op op0 : Int} {v : Value} {L : List Row} {ts : List Tok} (h0 : RdAt w0 b p K k0 op0 v L) (h : RdAt w b p K k op v L) (ha : Ahead K k ts) (base : Nat) (hbs : w0.heap.size ≤ base) (hbs2 : base ≤ w.heap.size) (sl : Sl) (ms : List Mt) (ho : SOwn matE 54 w base (slV sl) ms.length ms) (hn : ms.length ≤ 100000) (kd : Int) (n x : ByteArray) (hk0 : (hd ts).1 ≠ 0) :
    Calls Tryz.prog 127 #[.pointer (some ⟨p, 0, none⟩), slV sl, .agg #[.int .i64 kd, .string n, .string x]] w fun e w' => WOut b p K k op v L base sl (withR ms kd n ts) w e w' := by
  have H := hid h
  have H00 := hid h0
  have HA := hid ha
  have HO := hid ho
  have hk := ha.lt
  have hs := ha.small
  have ga := World.grownBy_alloc w (.cells #[.int .i64 kd, .string n, .string x] 54) none
  have HGA := hid ga
  have H1 := hid (h.grown ga)
  have HB := hid (heap_alloc_new w (.cells #[.int .i64 kd, .string n, .string x] 54))
  have HNX := hid (ha.next hk0)
  have f2 := fld2 (.int .i64 (hd ts).1) (.int .i64 (hd ts).2.1) (.string (hd ts).2.2.1) (.int .i64 (hd ts).2.2.2)
  have HPL := hid h.lt
  obtain ⟨L1, eL1⟩ : ∃ L1, L1 = ms.length := ⟨_, rfl⟩
  obtain ⟨a0, c0, e0⟩ := sown_slice ho
  have HE0 := hid e0
  have EL := hid eL1
  obtain ⟨R, eR⟩ : ∃ R, R = withR ms kd n ts := ⟨_, rfl⟩
  rw [← eR]
  unfold withR at eR
  have ER := hid eR
  rw [e0, ← eL1]
  rw [← eL1] at hn
  have HO2 : Hid (SOwn matE 54 w base (.slice a0 L1 c0) L1 ms) := by show SOwn _ _ _ _ _ _ _; rw [eL1, ← e0]; exact ho
  have HOB : Hid (∀ j, (Value.slice a0 L1 c0).ownBlock = some j → base ≤ j ∧ j < w.heap.size) := SOwn.block HO2.out
  clear h h0 ha ho ga e0 eL1 hk0 eR
  go_enter Tryz.func127, Tryz.ntmps127
  go_wp2_with fail
  refine (f_here H1.out HA.out).mono ?_
  rintro e w1 ⟨rfl, g1⟩
  have B1 := hid ((g1.block w.heap.size (by rw [size_alloc]; omega) (by simp)).trans HB.out)
  have H2 := hid (H1.out.grown g1)
  have G1 : Hid (w.grownBy w1 none) := HGA.out.trans g1
  obtain ⟨z0, z1, z2⟩ := cell3r B1.out
  have zf := free_row B1.out 2
  have HR3 := hid (row3 B1.out (.string (hd ts).2.2.1)).1
  have HFS := hid (fr_set w.heap.size 2 w1 (.string (hd ts).2.2.1))
  have hsz : w.heap.size < w1.heap.size := by have := g1.size; rw [size_alloc] at this; omega
  clear g1
  unfold tkV
  go_upto_region 2 with fail
  have HG2 : Hid (w.grownBy (w1.setCell ⟨w.heap.size, 2, none⟩ (.string (hd ts).2.2.1)) none) := ((Fr.of (S := fun j => j = w.heap.size) G1.out).trans HFS.out (fun _ _ e => e)).grown (fun j hj e => by omega)
  obtain ⟨y0, y1, y2⟩ := cell3r HR3.out
  generalize w1.setCell ⟨w.heap.size, 2, none⟩ (.string (hd ts).2.2.1) = W2 at HG2 y0 y1 y2 ⊢
  clear z0 z1 z2 zf HR3 HFS B1 H2 G1 hsz HGA H1 HB
  have H3 := hid (H.out.grown HG2.out)
  obtain ⟨T, eT⟩ : ∃ T, T = (hd ts).2.2.1 := ⟨_, rfl⟩
  have ET := hid eT
  rw [← eT] at y2
  have ga := World.grownBy_alloc W2 (.cells #[.int .i64 kd, .string n, .string T] 54) none
  have HG3 := hid (HG2.out.trans ga)
  have H4 := hid (H3.out.grown ga)
  have HO3 := hid (SOwn.kept HO2.out HG3.out (Classical.em _))
  have HRD := hid (mat_lit1 W2 (kd, n, T))
  have HSZ : Hid (base ≤ (W2.alloc (.cells #[.int .i64 kd, .string n, .string T] 54)).heap.size) := Nat.le_trans hbs2 HG3.out.size
  clear ga eT
  go_wp2_with (at_builtin; refine wpList_append_s matT rfl (.tmp 11) (.tmp 13) rfl base (.slice a0 L1 c0) L1 ms rfl HO3.out (some ⟨W2.heap.size, 0, none⟩) [(kd, n, T)] 1 1 rfl rfl HRD.out (by simp) (by omega) (by unfold maxLen; omega) HSZ.out ?_; intro v2 w3 ho3 hg3 hn3; obtain ⟨a4, c4, e4⟩ := sown_slice ho3; subst e4; have HO4 := hid ho3; have HG4 := hid hg3; clear ho3 hg3 hn3)
  have HF4 : Hid (Fr (fun j => (Value.slice a0 L1 c0).ownBlock = some j) (W2.alloc (.cells #[.int .i64 kd, .string n, .string T] 54)) w3) := Fr.row HG4.out (fun j hj => hj)
  have H5 := hid (H00.out.past H4.out HF4.out (fun j e => Nat.le_trans hbs (HOB.out j e).1))
  have HF5 : Hid (Fr (Wr p (slV sl)) w w3) := by
    show Fr _ _ _
    rw [HE0.out, ← EL.out]
    exact (Fr.of (S := Wr p (.slice a0 L1 c0)) HG3.out).trans HF4.out (fun j _ e => .inr e)
  have hle : (ms ++ [(kd, n, T)]).length = L1 + 1 := by rw [List.length_append, EL.out]; rfl
  have HLE := hid hle
  have HCK : Hid (Calls Tryz.prog 31 #[.slice a4 (L1 + 1) c4] w3 fun e w' => ∃ r : Int, e = .returned (.int .i64 r) ∧ Hid (decide (r = 0) = matsB (ms ++ [(kd, n, T)])) ∧ w3.grownBy w' none) := by
    have := m_check a4 c4 (ms ++ [(kd, n, T)]) w3 (SOwn.rd HO4.out) (by omega)
    rw [hle] at this
    exact this
  clear hle HG4 H4 HRD HSZ HG3 HG2 y0 y1 y2
  go_wp2_with fail
  refine HCK.out.mono ?_
  rintro e w5 ⟨r, rfl, HC, g5⟩
  have HG5 := hid g5
  have H6 := hid (H5.out.grown g5)
  have HF6 : Hid (Fr (Wr p (slV sl)) w w5) := HF5.out.trans (.of (S := Wr p (slV sl)) g5) (fun _ _ e => e)
  clear g5 HCK
  by_cases hr : r = 0
  · have hc : matsB (ms ++ [(kd, n, T)]) = true := by rw [← HC.out, hr]; rfl
    have HCC := hid hc
    have q0 : (r != 0) = false := by simpa using hr
    obtain ⟨c0', c1', c2', c3'⟩ := H6.out.cells
    have u1 := H6.out.free 1
    clear hc c0' c2' c3'
    go_wp2
    go_ret
    have er := ER.out
    rw [← ET.out, HCC.out, if_pos rfl] at er
    rw [er]
    have H7 := (H6.out.step (World.grownBy.refl _ _))
    refine ⟨(a4, L1 + 1, c4), rfl, ?_, k + 1, H7.1, HNX.out, by omega, HF6.out.trans H7.2 (fun _ _ e => .inl e)⟩
    rw [HLE.out]
    refine sown_same (SOwn.kept HO4.out HG5.out (Classical.em _)) (fun j hj _ => set_other (fun e => ?_))
    have h8 := (SOwn.block HO4.out j hj).1
    have h9 := H00.out.lt
    omega
  · have hc : matsB (ms ++ [(kd, n, T)]) = false := by rw [← HC.out, decide_eq_false hr]
    have HCC := hid hc
    have q0 : (r != 0) = true := by simpa using hr
    clear hc hr
    go_wp2_with fail
    refine (f_throw H6.out HA.out 183).mono ?_
    rintro e w7 ⟨rfl, g7⟩
    have HF7 : Hid (Fr (Wr p (slV sl)) w w7) := HF6.out.trans (.of (S := Wr p (slV sl)) g7) (fun _ _ e => e)
    clear g7
    go_wp2
    refine ⟨rfl, ?_⟩
    have er := ER.out
    rw [← ET.out, HCC.out, if_neg (by simp)] at er
    rw [er]
    exact ⟨rfl, HF7.out⟩
end Go.Proofs.YthbodkgcbfplgaaGreat

/- Package parse: question. -/
namespace Go.Proofs.YthbodkgcbfplgaaGreat
open Go.RowKit
set_option linter.unusedVariables false
set_option linter.unusedSimpArgs false
set_option maxRecDepth 20000

theorem isz44 : (Tryz.prog.info? 54).map (·.size) = some 3 := by kernel_rfl
/-- A question under way: the result's box, the matcher's box. -/
structure QAt (w : World) (A B b p : Nat) (K : Tk) (k : Nat) (op : Int) (v : Value) (L : List Row) (N : Int) (s : ByteArray) (W : World) : Prop where
  rd : RdAt W b p K k op v L
  ra : W.heap[A]? = some (.cells #[.int .i64 0, .string ⟨#[]⟩, .string ⟨#[]⟩] 54 (0, 0))
  rb : W.heap[B]? = some (.cells #[.int .i64 N, .string s, .string ⟨#[]⟩] 54 (0, 0))
  fr : Fr (Me p) w W
  lo : w.heap.size ≤ A ∧ A < B
  old : ∃ k0 op0, RdAt w b p K k0 op0 v L
theorem QAt.step {w W W' : World} {A B b p : Nat} {K : Tk} {k k' : Nat} {op : Int} {v : Value} {L : List Row} {N : Int} {s : ByteArray} (h : QAt w A B b p K k op v L N s W) (hr : RdAt W' b p K k' op v L) (hf : Fr (Me p) W W') : QAt w A B b p K k' op v L N s W' := by
  obtain ⟨k0, op0, h0⟩ := h.old
  have hp := h0.lt
  have hlo := h.lo
  exact ⟨hr, (hf.block A (Array.getElem?_eq_some_iff.1 h.ra).1 (fun e => by change A = p at e; omega)).trans h.ra, (hf.block B (Array.getElem?_eq_some_iff.1 h.rb).1 (fun e => by change B = p at e; omega)).trans h.rb, h.fr.trans hf (fun _ _ e => e), hlo, h.old⟩
theorem QAt.grown {w W W' : World} {A B b p : Nat} {K : Tk} {k : Nat} {op : Int} {v : Value} {L : List Row} {N : Int} {s : ByteArray} (h : QAt w A B b p K k op v L N s W) (hg : W.grownBy W' none) : QAt w A B b p K k op v L N s W' := h.step (h.rd.grown hg) (.of hg)
theorem QAt.kind {w W : World} {A B b p : Nat} {K : Tk} {k : Nat} {op : Int} {v : Value} {L : List Row} {N : Int} {s : ByteArray} (h : QAt w A B b p K k op v L N s W) (N2 : Int) : QAt w A B b p K k op v L N2 s (W.setCell ⟨B, 0, none⟩ (.int .i64 N2)) := by
  obtain ⟨k0, op0, h0⟩ := h.old
  have hlo := h.lo
  have hf : Fr (fun j => w.heap.size ≤ j) W (W.setCell ⟨B, 0, none⟩ (.int .i64 N2)) := (fr_set B 0 W _).mono (fun j _ e => by change j = B at e; show w.heap.size ≤ j; omega)
  exact ⟨h0.past h.rd hf (fun j e => e), by rw [set_other (by omega)]; exact h.ra, (row3 h.rb _).2, h.fr.trans hf (fun j hj e => by change w.heap.size ≤ j at e; omega), hlo, h.old⟩
abbrev put3 (w : World) (g : Nat) (x y z : Value) : World := ((w.setCell ⟨g, 0, none⟩ x).setCell ⟨g, 1, none⟩ y).setCell ⟨g, 2, none⟩ z
theorem gb_put3 (w : World) (g : Nat) (x y z : Value) : w.grownBy (put3 w g x y z) (some g) := gb_trans (gb_trans (gb_set (g := g) rfl) (gb_set (g := g) rfl) (fun k hk => .inr hk)) (gb_set (g := g) rfl) (fun k hk => .inr hk)
theorem row3p {w : World} {g : Nat} {x y z : Value} {t : TypeId} (h : w.heap[g]? = some (.cells #[x, y, z] t (0, 0))) (x' y' z' : Value) : (put3 w g x' y' z').heap[g]? = some (.cells #[x', y', z'] t (0, 0)) := by
  simp [put3, World.setCell, Array.getElem?_modify, h]
theorem QAt.done {w W : World} {A B b p : Nat} {K : Tk} {k : Nat} {op : Int} {v : Value} {L : List Row} {N : Int} {s : ByteArray} (h : QAt w A B b p K k op v L N s W) (x y z : Value) : RdAt (put3 W A x y z) b p K k op v L ∧ Fr (Me p) w (put3 W A x y z) ∧ (put3 W A x y z).heap[A]? = some (.cells #[x, y, z] 54 (0, 0)) := by
  obtain ⟨k0, op0, h0⟩ := h.old
  have hlo := h.lo
  have hf : Fr (fun j => w.heap.size ≤ j) W (put3 W A x y z) := Fr.row (gb_put3 W A x y z) (fun j e => by cases e; exact hlo.1)
  exact ⟨h0.past h.rd hf (fun j e => e), h.fr.trans hf (fun j hj e => by change w.heap.size ≤ j at e; omega), row3p h.ra _ _ _⟩
def qV (q : Int × ByteArray) : Value := .agg #[.int .i64 q.1, .string q.2, .string ⟨#[]⟩]
theorem quest_ok {ts r : List Tok} {s : ByteArray} (h : lname ts = .ok s r) : questR ts = (must (!decide (numIn kindsR (hd r) = 0)) r).bind fun _ _ => (must (decide ((hd r.tail).1 = 4)) r.tail).bind fun _ r2 => .ok (numIn kindsR (hd r), s) r2 := by unfold questR; rw [h, bind_ok]
theorem quest_bad {ts : List Tok} {q c : Int} (h : lname ts = .bad q c) : questR ts = .bad q c := by unfold questR; rw [h, bind_bad]
set_option maxHeartbeats 2000000 in
theorem f_question {w : World} {b p : Nat} {K : Tk} {k : Nat} {op : Int} {v : Value} {L : List Row} {ts : List Tok} (h : RdAt w b p K k op v L) (ha : Ahead K k ts) :
    Calls Tryz.prog 129 #[.pointer (some ⟨p, 0, none⟩)] w fun e w' => ReadOut b p K k op v L (questR ts) qV w e w' := by
  have H := hid h
  have HA := hid ha
  have hs := ha.small
  have ga := World.grownBy_alloc w (.cells #[.int .i64 0, .string ⟨#[]⟩, .string ⟨#[]⟩] 54) none
  have HGA := hid ga
  have HL := hid (f_lname (h.grown ga) ha)
  have HB0 := hid (heap_alloc_new w (.cells #[.int .i64 0, .string ⟨#[]⟩, .string ⟨#[]⟩] 54))
  cases hn : lname ts with
  | out => unfold lname at hn; split at hn <;> cases hn
  | bad q c =>
    rw [hn] at HL
    rw [quest_bad hn]
    clear h ha ga hn
    go_enter Tryz.func129, Tryz.ntmps129
    go_wp2_with fail
    refine HL.out.mono ?_
    rintro e w1 ⟨rfl, f1⟩
    have HF1 : Hid (Fr (Me p) w w1) := (Fr.of (S := Me p) HGA.out).trans f1 (fun _ _ e => e)
    clear f1
    go_wp2
    exact ⟨rfl, rfl, HF1.out⟩
  | ok s r =>
    rw [hn] at HL
    rw [quest_ok hn]
    clear h ha ga hn
    go_enter Tryz.func129, Tryz.ntmps129
    go_wp2_with fail
    refine HL.out.mono ?_
    rintro e w1 ⟨rfl, k1, h1, ha1, hk1, f1⟩
    have HQ1 : Hid (QAt w w.heap.size w1.heap.size b p K k1 op v L 0 s (w1.alloc (.cells #[.int .i64 0, .string s, .string ⟨#[]⟩] 54))) := by
      have g1 := World.grownBy_alloc w1 (.cells #[.int .i64 0, .string s, .string ⟨#[]⟩] 54) none
      have hsz : w.heap.size < w1.heap.size := by have := f1.size; rw [size_alloc] at this; omega
      refine ⟨h1.grown g1, ?_, heap_alloc_new _ _, ((Fr.of (S := Me p) HGA.out).trans f1 (fun _ _ e => e)).trans (.of (S := Me p) g1) (fun _ _ e => e), ⟨Nat.le_refl _, hsz⟩, ⟨k, op, H.out⟩⟩
      rw [g1.block _ hsz (by simp), f1.block _ (by rw [size_alloc]; omega) (fun e => by change w.heap.size = p at e; have := H.out.lt; omega)]
      exact HB0.out
    have HA1 := hid ha1
    have HK1 := hid hk1
    have hlt1 := ha1.lt
    obtain ⟨Bk, eB⟩ : ∃ Bk, Bk = w1.heap.size := ⟨_, rfl⟩
    obtain ⟨Ak, eA⟩ : ∃ Ak, Ak = w.heap.size := ⟨_, rfl⟩
    clear h1 ha1 hk1 f1 HL HGA HB0
    go_wp2_with fail
    refine (f_kinds _).mono ?_
    rintro e w2 ⟨a2, c2, rfl, hr2, g2⟩
    have HQ2 := hid (HQ1.out.grown g2)
    have HR2 := hid hr2
    clear hr2 g2 HQ1
    go_wp2_with fail
    refine (f_here HQ2.out.rd HA1.out).mono ?_
    rintro e w3 ⟨rfl, g3⟩
    have HQ3 := hid (HQ2.out.grown g3)
    have HR3 := hid (HR2.out.grown g3 (by simp))
    clear g3 HQ2 HR2
    go_wp2_with fail
    refine (f_numIn a2 c2 kindsR (hd r) w3 HR3.out (by decide)).mono ?_
    rintro e w4 ⟨rfl, g4⟩
    have HQ4 := hid (HQ3.out.grown g4)
    obtain ⟨z0, z1, z2⟩ := cell3r HQ4.out.rb
    have zf := free_row HQ4.out.rb 0
    obtain ⟨N, eN⟩ : ∃ N, numIn kindsR (hd r) = N := ⟨_, rfl⟩
    have EN := hid eN
    rw [eN]
    have HQ5 := hid (HQ4.out.kind N)
    obtain ⟨y0, y1, y2⟩ := cell3r HQ5.out.rb
    clear g4 HQ3 HR3 HQ4 eN
    by_cases hN : N = 0
    · have q0 : (N != 0) = false := by simpa using hN
      have HE : Hid (∀ α (f : Unit → List Tok → Rs α), (must (!decide (numIn kindsR (hd r) = 0)) r).bind f = .bad (hd r).2.1 (failC r)) := fun α f => by
        rw [EN.out, hN]; rfl
      clear hN
      go_wp2_with fail
      refine (f_must HQ5.out.rd HA1.out false).mono ?_
      rintro e w6 ⟨⟨h, _⟩ | ⟨_, rfl⟩, g6⟩
      · cases h
      · have HF6 := hid (HQ5.out.grown g6).fr
        clear g6
        go_wp2
        refine ⟨rfl, ?_⟩
        rw [HE.out]
        exact ⟨rfl, HF6.out⟩
    · have q0 : (N != 0) = true := by simpa using hN
      have HE : Hid (∀ α (f : Unit → List Tok → Rs α), (must (!decide (numIn kindsR (hd r) = 0)) r).bind f = f () r) := fun α f => by
        rw [EN.out]
        unfold must
        rw [if_pos (by simpa using hN)]
        rfl
      have HA2 := hid (HA1.out.next (numIn_next (row := kindsR) (by rw [EN.out]; exact hN)))
      clear hN
      go_wp2_with fail
      refine (f_must HQ5.out.rd HA1.out true).mono ?_
      rintro e w6 ⟨⟨_, rfl⟩ | ⟨h, _⟩, g6⟩
      · have HQ6 := hid (HQ5.out.grown g6)
        obtain ⟨c0', c1', c2', c3'⟩ := HQ6.out.rd.cells
        have u1 := HQ6.out.rd.free 1
        have hst := HQ6.out.rd.step (World.grownBy.refl _ _)
        have HQ7 := hid (HQ6.out.step hst.1 hst.2)
        obtain ⟨x0, x1, x2⟩ := cell3r HQ7.out.rb
        clear g6 hst c0' c2' c3' HQ5 y0 y1 y2 z0 z1 z2 zf
        have f0 := fld0 (.int .i64 (hd r.tail).1) (.int .i64 (hd r.tail).2.1) (.string (hd r.tail).2.2.1) (.int .i64 (hd r.tail).2.2.2)
        go_wp2_with fail
        refine (f_here HQ7.out.rd HA2.out).mono ?_
        rintro e w8 ⟨rfl, g8⟩
        have HQ8 := hid (HQ7.out.grown g8)
        clear g8 HQ7 x0 x1 x2 HQ6 c1' u1
        unfold tkV
        by_cases h4 : (hd r.tail).1 = 4
        · have q4 : ((hd r.tail).1 == 4) = true := by simpa using h4
          have HE2 : Hid (∀ α (f : Unit → List Tok → Rs α), (must (decide ((hd r.tail).1 = 4)) r.tail).bind f = f () r.tail) := fun α f => by
            unfold must
            rw [if_pos (by simpa using h4)]
            rfl
          clear h4
          go_wp2_with fail
          refine (f_must HQ8.out.rd HA2.out true).mono ?_
          rintro e w9 ⟨⟨_, rfl⟩ | ⟨h, _⟩, g9⟩
          · have HQ9 := hid (HQ8.out.grown g9)
            obtain ⟨x0, x1, x2⟩ := cell3r HQ9.out.rb
            obtain ⟨v0, v1, v2⟩ := cell3r HQ9.out.ra
            have t0 := free_row HQ9.out.ra 0
            have t1 := free_row HQ9.out.ra 1
            have t2 := free_row HQ9.out.ra 2
            have hAB : w.heap.size ≠ w1.heap.size := by have := HQ9.out.lo; omega
            have HD := hid (HQ9.out.done (.int .i64 N) (.string s) (.string ⟨#[]⟩))
            clear g9
            go_wp2
            refine bodyPost_ret (v := .agg #[.int .i64 N, .string s, .string ⟨#[]⟩]) (results_cell_row Tryz.results129 _ _ w.heap.size 54 _ (0, 0) _ rfl HD.out.2.2 Tryz.underlying54 rfl isz44) rfl ?_
            rw [HE.out, HE2.out, EN.out]
            exact ⟨rfl, k1 + 1, HD.out.1, HA2.out, by have := HK1.out; omega, HD.out.2.1⟩
          · cases h
        · have q4 : ((hd r.tail).1 == 4) = false := by simpa using h4
          have HE2 : Hid (∀ α (f : Unit → List Tok → Rs α), (must (decide ((hd r.tail).1 = 4)) r.tail).bind f = .bad (hd r.tail).2.1 (failC r.tail)) := fun α f => by
            unfold must
            rw [if_neg (by simpa using h4)]
            rfl
          clear h4
          go_wp2_with fail
          refine (f_must HQ8.out.rd HA2.out false).mono ?_
          rintro e w9 ⟨⟨h, _⟩ | ⟨_, rfl⟩, g9⟩
          · cases h
          · have HF9 := hid (HQ8.out.grown g9).fr
            clear g9
            go_wp2
            refine ⟨rfl, ?_⟩
            rw [HE.out, HE2.out]
            exact ⟨rfl, HF9.out⟩
      · cases h
end Go.Proofs.YthbodkgcbfplgaaGreat

/- Package parse: a matcher more. (Printed by mk_pr.py.) -/
namespace Go.Proofs.YthbodkgcbfplgaaGreat
open Go.RowKit
set_option linter.unusedVariables false
set_option linter.unusedSimpArgs false
set_option maxRecDepth 20000

theorem quest_four {ts r : List Tok} {q : Int × ByteArray} (h : questR ts = .ok q r) : (hd r).1 = 4 := by
  unfold questR at h
  cases hl : lname ts with
  | out => rw [hl] at h; cases h
  | bad p c => rw [hl, bind_bad] at h; cases h
  | ok s r1 =>
    rw [hl, bind_ok] at h
    unfold must at h
    split at h
    · rw [bind_ok] at h
      split at h
      · rename_i h4
        rw [bind_ok] at h
        cases h
        simpa using h4
      · cases h
    · cases h
theorem mstep_ok {ms : List Mt} {ts r : List Tok} {q : Int × ByteArray} (h : questR ts = .ok q r) : mstep ms ts = withR ms q.1 q.2 r := by unfold mstep; rw [h, bind_ok]
theorem mstep_bad {ms : List Mt} {ts : List Tok} {q c : Int} (h : questR ts = .bad q c) : mstep ms ts = .bad q c := by unfold mstep; rw [h, bind_bad]
/-- The matchers that are in the making. -/
def MtI (w0 : World) (box rbox b p : Nat) (K : Tk) (op : Int) (v : Value) (L : List Row) (ms : List Mt) (k : Nat) (w : World) : Prop := AccAt matE 54 34 w0 box rbox b p K op v L ms k w
set_option maxHeartbeats 4000000 in
theorem f_mstep {w0 w : World} {box rbox b p : Nat} {K : Tk} {op : Int} {v : Value} {L : List Row} {ms : List Mt} {k : Nat} {ts : List Tok} (h : AccAt matE 54 34 w0 box rbox b p K op v L ms k w) (ha : Ahead K k ts) (hn : ms.length ≤ 100000) :
    Calls Tryz.prog 128 #[.pointer (some ⟨rbox, 0, none⟩), .pointer (some ⟨box, 0, none⟩)] w fun e w' => LOut (MtI w0 box rbox b p K op v L) K (Me p) w0 k (mstep ms ts) e w' := by
  have H := hid h
  have HA := hid ha
  obtain ⟨sl, hb, ho⟩ := h.ex
  have gd : w.grownBy w.drew none := gb_drew (World.grownBy.refl w none)
  have HQ := hid (f_question (h.rd.grown gd) ha)
  have r0 := one_cell h.rb
  have b0 := one_cell hb
  have r1 : w.drew.cell? ⟨rbox, 0, none⟩ = _ := r0
  have b1 : w.drew.cell? ⟨box, 0, none⟩ = _ := b0
  have HB := hid hb
  have HO := hid ho
  obtain ⟨k0, op0, h0⟩ := h.old
  have hbl := (Array.getElem?_eq_some_iff.1 hb).1
  have hlo := h.lo
  cases hs : questR ts with
  | out => exact absurd hs (fine_ne (questR_fine ts))
  | bad q c =>
    rw [hs] at HQ
    rw [mstep_bad hs]
    clear hs h ha hb ho h0
    obtain ⟨a0, n0, c0⟩ := sl
    unfold slV at *
    go_enter Tryz.func128, Tryz.ntmps128
    go_wp2_with fail
    refine wp_region_held_drew (S := fun W => W.cell? ⟨rbox, 0, none⟩ = some (.pointer (some ⟨p, 0, none⟩)) ∧ W.cell? ⟨box, 0, none⟩ = some (.slice a0 n0 c0)) (by kernel_rfl) ⟨r1, b1⟩ (fun hHeld => ?_)
    refine wpAnyH_take (i := 0) (v := .pointer (some ⟨p, 0, none⟩)) rfl (by kernel_rfl) (by kernel_rfl) (by kernel_rfl) (fun _ _ _ h => h) (Or.inl ⟨by rfl, fun w hSw => ?_⟩) (by assumption) ?_
    · obtain ⟨x1, x2⟩ := hSw; go_simp
    (try simp only [Act.put]); (try simp only [List.setIfInBounds_toArray]); (try simp only [List.set_cons_succ]); (try simp only [List.set_cons_zero])
    refine wpAnyH_take (i := 1) (v := .slice a0 n0 c0) rfl (by kernel_rfl) (by kernel_rfl) (by kernel_rfl) (fun _ _ _ h => h) (Or.inl ⟨by rfl, fun w hSw => ?_⟩) (by assumption) ?_
    · obtain ⟨x1, x2⟩ := hSw; go_simp
    (try simp only [Act.put]); (try simp only [List.setIfInBounds_toArray]); (try simp only [List.set_cons_succ]); (try simp only [List.set_cons_zero])
    refine wpAnyH_take (i := 2) (v := .pointer (some ⟨p, 0, none⟩)) rfl (by kernel_rfl) (by kernel_rfl) (by kernel_rfl) (fun _ _ _ h => h) (Or.inl ⟨by rfl, fun w hSw => ?_⟩) (by assumption) ?_
    · obtain ⟨x1, x2⟩ := hSw; go_simp
    (try simp only [Act.put]); (try simp only [List.setIfInBounds_toArray]); (try simp only [List.set_cons_succ]); (try simp only [List.set_cons_zero])
    refine wpAnyH_ready (rs := [3]) (by kernel_rfl) (by simp) (AllReadyH.cons (i := 3) rfl (fun K9 hK => ?_) AllReadyH.nil)
    go_simp
    refine HQ.out.mono ?_
    rintro e w1 ⟨rfl, f1⟩
    exact ⟨rfl, rfl, H.out.fr.trans ⟨f1.os, f1.tape, f1.output, f1.size, f1.block⟩ (fun _ _ e => e)⟩
  | ok q r =>
    rw [hs] at HQ
    rw [mstep_ok hs]
    have HWI : Hid (∀ W k1, RdAt W b p K k1 op v L → Ahead K k1 r → SOwn matE 54 W (box + 1) (slV sl) ms.length ms → w.heap.size ≤ W.heap.size → Calls Tryz.prog 127 #[.pointer (some ⟨p, 0, none⟩), slV sl, .agg #[.int .i64 q.1, .string q.2, .string ⟨#[]⟩]] W fun e w' => WOut b p K k1 op v L (box + 1) sl (withR ms q.1 q.2 r) W e w') := fun W k1 hr ha1 ho1 hsz =>
      f_with h0 hr ha1 (box + 1) (by omega) (by omega) sl ms ho1 hn q.1 q.2 ⟨#[]⟩ (by rw [quest_four hs]; decide)
    cases hw : withR ms q.1 q.2 r with
    | out => exact absurd hw (fine_ne (withR_fine _ _ _ _))
    | bad q9 c =>
      have HWR := hid hw
      clear hw
      clear hs h ha hb ho h0
      obtain ⟨a0, n0, c0⟩ := sl
      unfold slV at *
      go_enter Tryz.func128, Tryz.ntmps128
      go_wp2_with fail
      refine wp_region_held_drew (S := fun W => W.cell? ⟨rbox, 0, none⟩ = some (.pointer (some ⟨p, 0, none⟩)) ∧ W.cell? ⟨box, 0, none⟩ = some (.slice a0 n0 c0)) (by kernel_rfl) ⟨r1, b1⟩ (fun hHeld => ?_)
      refine wpAnyH_take (i := 0) (v := .pointer (some ⟨p, 0, none⟩)) rfl (by kernel_rfl) (by kernel_rfl) (by kernel_rfl) (fun _ _ _ h => h) (Or.inl ⟨by rfl, fun w hSw => ?_⟩) (by assumption) ?_
      · obtain ⟨x1, x2⟩ := hSw; go_simp
      (try simp only [Act.put]); (try simp only [List.setIfInBounds_toArray]); (try simp only [List.set_cons_succ]); (try simp only [List.set_cons_zero])
      refine wpAnyH_take (i := 1) (v := .slice a0 n0 c0) rfl (by kernel_rfl) (by kernel_rfl) (by kernel_rfl) (fun _ _ _ h => h) (Or.inl ⟨by rfl, fun w hSw => ?_⟩) (by assumption) ?_
      · obtain ⟨x1, x2⟩ := hSw; go_simp
      (try simp only [Act.put]); (try simp only [List.setIfInBounds_toArray]); (try simp only [List.set_cons_succ]); (try simp only [List.set_cons_zero])
      refine wpAnyH_take (i := 2) (v := .pointer (some ⟨p, 0, none⟩)) rfl (by kernel_rfl) (by kernel_rfl) (by kernel_rfl) (fun _ _ _ h => h) (Or.inl ⟨by rfl, fun w hSw => ?_⟩) (by assumption) ?_
      · obtain ⟨x1, x2⟩ := hSw; go_simp
      (try simp only [Act.put]); (try simp only [List.setIfInBounds_toArray]); (try simp only [List.set_cons_succ]); (try simp only [List.set_cons_zero])
      refine wpAnyH_ready (rs := [3]) (by kernel_rfl) (by simp) (AllReadyH.cons (i := 3) rfl (fun K9 hK => ?_) AllReadyH.nil)
      go_simp
      refine HQ.out.mono ?_
      rintro e w1 ⟨rfl, k1, h1, ha1, hk1, f1⟩
      have F1 : Hid (Fr (Me p) w w1) := ⟨f1.os, f1.tape, f1.output, f1.size, f1.block⟩
      have HA1 := hid ha1
      have HK1 := hid hk1
      have HR1 := hid h1
      have H1 := hid (H.out.step h1 F1.out)
      have b2 := acc_box H.out F1.out HB.out
      have r2 := one_cell H1.out.rb
      have HO1 := hid (acc_own H.out F1.out HB.out HO.out)
      have HWC := hid (HWI.out w1 k1 h1 ha1 HO1.out F1.out.size)
      refine hK.out _ _ ⟨r2, b2⟩ (fun hHeld => ?_)
      clear hK K9 h1 ha1 hk1 f1 hHeld HWI
      unfold qV
      (try simp only [Act.put]); (try simp only [List.setIfInBounds_toArray]); (try simp only [List.set_cons_succ]); (try simp only [List.set_cons_zero])
      refine wpAnyH_ready (rs := [4]) (by kernel_rfl) (by simp) (AllReadyH.cons (i := 4) rfl (fun K9 hK => ?_) AllReadyH.nil)
      go_simp
      refine HWC.out.mono ?_
      intro e w3 h3
      rw [HWR.out] at h3
      obtain ⟨rfl, f3⟩ := h3
      refine ⟨rfl, rfl, (H.out.fr.trans F1.out (fun _ _ e => e)).trans f3 (fun j hj e => ?_)⟩
      rcases e with e | e
      · exact e
      · have := (SOwn.block HO1.out j e).1
        have := H.out.lo
        omega
    | ok ms2 r2 =>
      have HWR := hid hw
      clear hw
      clear hs h ha hb ho h0
      obtain ⟨a0, n0, c0⟩ := sl
      unfold slV at *
      go_enter Tryz.func128, Tryz.ntmps128
      go_wp2_with fail
      refine wp_region_held_drew (S := fun W => W.cell? ⟨rbox, 0, none⟩ = some (.pointer (some ⟨p, 0, none⟩))) (by kernel_rfl) r1 (fun hHeld => ?_)
      refine wpAnyH_take (i := 0) (v := .pointer (some ⟨p, 0, none⟩)) rfl (by kernel_rfl) (by kernel_rfl) (by kernel_rfl) (fun _ _ _ h => h) (Or.inl ⟨by rfl, fun w hSw => ?_⟩) (by assumption) ?_
      · go_simp
      (try simp only [Act.put]); (try simp only [List.setIfInBounds_toArray]); (try simp only [List.set_cons_succ]); (try simp only [List.set_cons_zero])
      refine wpAnyH_take (i := 2) (v := .pointer (some ⟨p, 0, none⟩)) rfl (by kernel_rfl) (by kernel_rfl) (by kernel_rfl) (fun _ _ _ h => h) (Or.inl ⟨by rfl, fun w hSw => ?_⟩) (by assumption) ?_
      · go_simp
      (try simp only [Act.put]); (try simp only [List.setIfInBounds_toArray]); (try simp only [List.set_cons_succ]); (try simp only [List.set_cons_zero])
      refine wpAnyH_ready (rs := [1, 3]) (by kernel_rfl) (by simp) (AllReadyH.cons (i := 1) rfl (fun K9 hK => ?_) (AllReadyH.cons (i := 3) rfl (fun K9 hK => ?_) AllReadyH.nil))
      · go_simp
        refine hK.out _ _ r1 (fun hHeld => ?_)
        clear hK K9 hHeld
        (try simp only [Act.put]); (try simp only [List.setIfInBounds_toArray]); (try simp only [List.set_cons_succ]); (try simp only [List.set_cons_zero])
        refine wpAnyH_ready (rs := [3]) (by kernel_rfl) (by simp) (AllReadyH.cons (i := 3) rfl (fun K9 hK => ?_) AllReadyH.nil)
        go_simp
        refine HQ.out.mono ?_
        rintro e w1 ⟨rfl, k1, h1, ha1, hk1, f1⟩
        have F1 : Hid (Fr (Me p) w w1) := ⟨f1.os, f1.tape, f1.output, f1.size, f1.block⟩
        have HA1 := hid ha1
        have HK1 := hid hk1
        have HR1 := hid h1
        have H1 := hid (H.out.step h1 F1.out)
        have b2 := acc_box H.out F1.out HB.out
        have r2 := one_cell H1.out.rb
        have HO1 := hid (acc_own H.out F1.out HB.out HO.out)
        have HWC := hid (HWI.out w1 k1 h1 ha1 HO1.out F1.out.size)
        refine hK.out _ _ r2 (fun hHeld => ?_)
        clear hK K9 h1 ha1 hk1 f1 hHeld HWI
        unfold qV
        (try simp only [Act.put]); (try simp only [List.setIfInBounds_toArray]); (try simp only [List.set_cons_succ]); (try simp only [List.set_cons_zero])
        refine wpAnyH_ready (rs := [4]) (by kernel_rfl) (by simp) (AllReadyH.cons (i := 4) rfl (fun K9 hK => ?_) AllReadyH.nil)
        go_simp
        refine HWC.out.mono ?_
        intro e w3 h3
        rw [HWR.out] at h3
        obtain ⟨sl2, rfl, ho3, k3, h3, ha3, hk3, f3⟩ := h3
        have HP := hid (AccAt.put (sl := (a0, n0, c0)) (sl2 := sl2) (ys := ms2) H.out HB.out h3 ((F1.out.mono (fun j _ e => .inl e)).trans f3 (fun _ _ e => e)) ho3)
        have HA3 := hid ha3
        have HK3 : Hid (k < k3) := Nat.lt_trans HK1.out hk3
        have s3 := HP.out.1
        have z3 := HP.out.2.1
        obtain ⟨q0, q1, q2⟩ := sl2
        have r4 : w3.cell? ⟨rbox, 0, none⟩ = some (.pointer (some ⟨p, 0, none⟩)) := by
          have h9 := HP.out.2.2.rb
          rw [set_other (by have := H.out.lo; omega)] at h9
          exact one_cell h9
        refine hK.out _ _ r4 (fun hHeld => ?_)
        clear hK K9 hHeld ho3 h3 ha3 hk3 f3
        unfold slV at HP s3 ⊢
        (try simp only [Act.put]); (try simp only [List.setIfInBounds_toArray]); (try simp only [List.set_cons_succ]); (try simp only [List.set_cons_zero])
        refine wpAnyH_ready (rs := [5]) (by kernel_rfl) (by simp) (AllReadyH.cons (i := 5) rfl (fun K9 hK => ?_) AllReadyH.nil)
        go_simp
        have r5 : (w3.setCell ⟨box, 0, none⟩ (.slice q0 q1 q2)).cell? ⟨rbox, 0, none⟩ = some (.pointer (some ⟨p, 0, none⟩)) := one_cell HP.out.2.2.rb
        refine hK.out _ _ r5 (fun hHeld => ?_)
        clear hK K9 hHeld
        (try simp only [Act.put]); (try simp only [List.setIfInBounds_toArray]); (try simp only [List.set_cons_succ]); (try simp only [List.set_cons_zero])
        refine wpAnyH_done (by kernel_rfl) ?_ _
        go_wp2
        go_end0
        exact ⟨rfl, k3, HP.out.2.2, HA3.out, HK3.out⟩
      · go_simp
        refine HQ.out.mono ?_
        rintro e w1 ⟨rfl, k1, h1, ha1, hk1, f1⟩
        have F1 : Hid (Fr (Me p) w w1) := ⟨f1.os, f1.tape, f1.output, f1.size, f1.block⟩
        have HA1 := hid ha1
        have HK1 := hid hk1
        have HR1 := hid h1
        have H1 := hid (H.out.step h1 F1.out)
        have b2 := acc_box H.out F1.out HB.out
        have r2 := one_cell H1.out.rb
        have HO1 := hid (acc_own H.out F1.out HB.out HO.out)
        have HWC := hid (HWI.out w1 k1 h1 ha1 HO1.out F1.out.size)
        refine hK.out _ _ r2 (fun hHeld => ?_)
        clear hK K9 h1 ha1 hk1 f1 hHeld HWI
        unfold qV
        (try simp only [Act.put]); (try simp only [List.setIfInBounds_toArray]); (try simp only [List.set_cons_succ]); (try simp only [List.set_cons_zero])
        refine wpAnyH_ready (rs := [1]) (by kernel_rfl) (by simp) (AllReadyH.cons (i := 1) rfl (fun K9 hK => ?_) AllReadyH.nil)
        go_simp
        refine hK.out _ _ r2 (fun hHeld => ?_)
        clear hK K9 hHeld
        (try simp only [Act.put]); (try simp only [List.setIfInBounds_toArray]); (try simp only [List.set_cons_succ]); (try simp only [List.set_cons_zero])
        refine wpAnyH_ready (rs := [4]) (by kernel_rfl) (by simp) (AllReadyH.cons (i := 4) rfl (fun K9 hK => ?_) AllReadyH.nil)
        go_simp
        refine HWC.out.mono ?_
        intro e w3 h3
        rw [HWR.out] at h3
        obtain ⟨sl2, rfl, ho3, k3, h3, ha3, hk3, f3⟩ := h3
        have HP := hid (AccAt.put (sl := (a0, n0, c0)) (sl2 := sl2) (ys := ms2) H.out HB.out h3 ((F1.out.mono (fun j _ e => .inl e)).trans f3 (fun _ _ e => e)) ho3)
        have HA3 := hid ha3
        have HK3 : Hid (k < k3) := Nat.lt_trans HK1.out hk3
        have s3 := HP.out.1
        have z3 := HP.out.2.1
        obtain ⟨q0, q1, q2⟩ := sl2
        have r4 : w3.cell? ⟨rbox, 0, none⟩ = some (.pointer (some ⟨p, 0, none⟩)) := by
          have h9 := HP.out.2.2.rb
          rw [set_other (by have := H.out.lo; omega)] at h9
          exact one_cell h9
        refine hK.out _ _ r4 (fun hHeld => ?_)
        clear hK K9 hHeld ho3 h3 ha3 hk3 f3
        unfold slV at HP s3 ⊢
        (try simp only [Act.put]); (try simp only [List.setIfInBounds_toArray]); (try simp only [List.set_cons_succ]); (try simp only [List.set_cons_zero])
        refine wpAnyH_ready (rs := [5]) (by kernel_rfl) (by simp) (AllReadyH.cons (i := 5) rfl (fun K9 hK => ?_) AllReadyH.nil)
        go_simp
        have r5 : (w3.setCell ⟨box, 0, none⟩ (.slice q0 q1 q2)).cell? ⟨rbox, 0, none⟩ = some (.pointer (some ⟨p, 0, none⟩)) := one_cell HP.out.2.2.rb
        refine hK.out _ _ r5 (fun hHeld => ?_)
        clear hK K9 hHeld
        (try simp only [Act.put]); (try simp only [List.setIfInBounds_toArray]); (try simp only [List.set_cons_succ]); (try simp only [List.set_cons_zero])
        refine wpAnyH_done (by kernel_rfl) ?_ _
        go_wp2
        go_end0
        exact ⟨rfl, k3, HP.out.2.2, HA3.out, HK3.out⟩
theorem mstep_len {ms a2 : List Mt} {ts r2 : List Tok} (h : mstep ms ts = .ok a2 r2) : a2.length ≤ 8 := by
  unfold mstep at h
  cases hq : questR ts with
  | out => rw [hq] at h; cases h
  | bad q c => rw [hq, bind_bad] at h; cases h
  | ok q r =>
    rw [hq, bind_ok] at h
    unfold withR at h
    split at h
    · rename_i hm
      cases h
      unfold matsB at hm
      simp only [Bool.and_eq_true, decide_eq_true_eq] at hm
      exact hm.1
    · cases h
theorem f_mats {w0 : World} {box rbox b p : Nat} {K : Tk} {op : Int} {v : Value} {L : List Row} (f k : Nat) (ms : List Mt) (ts : List Tok) (w : World) (h : AccAt matE 54 34 w0 box rbox b p K op v L ms k w) (hm : ms.length ≤ 8) (ha : Ahead K k ts) (hf : ts.length < f) :
    Calls Tryz.prog 90 #[.pointer (some ⟨p, 0, none⟩), .string ⟨#[123]⟩, .func (.func 128) #[] #[.pointer (some ⟨rbox, 0, none⟩), .pointer (some ⟨box, 0, none⟩)], .string ⟨#[125]⟩] w fun e w' => LOut (fun ms k w => AccAt matE 54 34 w0 box rbox b p K op v L ms k w ∧ ms.length ≤ 8) K (Me p) w0 k (listR mstep ⟨#[123]⟩ ⟨#[125]⟩ f ms ts) e w' := by
  refine f_list (fun ms k w => AccAt matE 54 34 w0 box rbox b p K op v L ms k w ∧ ms.length ≤ 8) (Me p) w0 mstep 128 _ _ _ (ent84 _) (b := b) (p := p) (op := op) (v := v) (L := L) (fun a k w h => h.1.rd) (fun a k k' w w' hk h hr hf => ⟨h.1.step hr hf, h.2⟩) (fun a k w h => h.1.fr) (fun a k ts w h ha => ?_) f ms k ts w ⟨h, hm⟩ ha (fine_ne (listR_fine mstep_fine f ms ts hf))
  refine (f_mstep h.1 ha (by have := h.2; omega)).mono fun e w' h2 => ?_
  cases hs : mstep a ts with
  | out => rw [hs] at h2; exact h2.elim
  | bad q c => rw [hs] at h2; exact h2
  | ok a2 r2 =>
    rw [hs] at h2
    obtain ⟨e1, k1, h3, ha3, hk3⟩ := h2
    exact ⟨e1, k1, ⟨h3, mstep_len hs⟩, ha3, hk3⟩
end Go.Proofs.YthbodkgcbfplgaaGreat

/- Package parse: matchers. -/
namespace Go.Proofs.YthbodkgcbfplgaaGreat
open Go.RowKit
set_option linter.unusedVariables false
set_option linter.unusedSimpArgs false
set_option maxRecDepth 20000

/-- What matchers answers. -/
def MOut (b p : Nat) (K : Tk) (k : Nat) (op : Int) (v : Value) (L : List Row) (R : Rs (List Mt)) (w : World) (e : Ending) (w' : World) : Prop :=
  match R with
  | .ok ms r => ∃ sl : Sl, e = .returned (slV sl) ∧ SOwn matE 54 w' w.heap.size (slV sl) ms.length ms ∧ ∃ k', RdAt w' b p K k' op v L ∧ Ahead K k' r ∧ k < k' ∧ Fr (Me p) w w'
  | .bad q c => e = .panicked (flt q c) ∧ Fr (Me p) w w'
  | .out => False
theorem AccAt.grown {α : Type} {E : Elem α} {e t : TypeId} {w0 w w' : World} {box rbox b p : Nat} {K : Tk} {op : Int} {v : Value} {L : List Row} {xs : List α} {k : Nat} (h : AccAt E e t w0 box rbox b p K op v L xs k w) (hg : w.grownBy w' none) : AccAt E e t w0 box rbox b p K op v L xs k w' := h.step (h.rd.grown hg) (.of hg)
theorem acc_cell {α : Type} {E : Elem α} {e t : TypeId} {w0 w : World} {box rbox b p : Nat} {K : Tk} {op : Int} {v : Value} {L : List Row} {xs : List α} {k : Nat} (h : AccAt E e t w0 box rbox b p K op v L xs k w) : ∃ sl : Sl, w.cell? ⟨box, 0, none⟩ = some (slV sl) ∧ w.heap[box]? = some (.cells #[slV sl] t (0, 0)) ∧ SOwn E e w (box + 1) (slV sl) xs.length xs := by
  obtain ⟨sl, hb, ho⟩ := h.ex
  exact ⟨sl, one_cell hb, hb, ho⟩
/-- The rest of matchers, behind a first one or none: the list in brackets. -/
theorem mats_tail {w0 w : World} {box rbox b p : Nat} {K : Tk} {op : Int} {v : Value} {L : List Row} (k0 k : Nat) (ms : List Mt) (ts : List Tok) (h : AccAt matE 54 34 w0 box rbox b p K op v L ms k w) (hm : ms.length ≤ 8) (ha : Ahead K k ts) (hk : k0 ≤ k) (Q : Ending → World → Prop)
    (hbad : ∀ q c w', listR mstep ⟨#[123]⟩ ⟨#[125]⟩ 5000 ms ts = .bad q c → Fr (Me p) w0 w' → Q (.panicked (flt q c)) w')
    (hok : ∀ ms2 r k2 w', listR mstep ⟨#[123]⟩ ⟨#[125]⟩ 5000 ms ts = .ok ms2 r → AccAt matE 54 34 w0 box rbox b p K op v L ms2 k2 w' → Ahead K k2 r → k0 < k2 → Q (.returned (.tuple #[])) w') :
    Calls Tryz.prog 90 #[.pointer (some ⟨p, 0, none⟩), .string ⟨#[123]⟩, .func (.func 128) #[] #[.pointer (some ⟨rbox, 0, none⟩), .pointer (some ⟨box, 0, none⟩)], .string ⟨#[125]⟩] w Q := by
  refine (f_mats 5000 k ms ts w h hm ha (by have := take_ahead ha; omega)).mono fun e w' h2 => ?_
  cases hs : listR mstep ⟨#[123]⟩ ⟨#[125]⟩ 5000 ms ts with
  | out => rw [hs] at h2; exact h2.elim
  | bad q c => rw [hs] at h2; obtain ⟨rfl, h3⟩ := h2; exact hbad q c w' hs h3
  | ok ms2 r =>
    rw [hs] at h2
    obtain ⟨rfl, k2, h3, ha2, hk2⟩ := h2
    exact hok ms2 r k2 w' hs h3.1 ha2 (by omega)
theorem tokA (q : Tok) : tkV q = .agg #[.int .i64 q.1, .int .i64 q.2.1, .string q.2.2.1, .int .i64 q.2.2.2] := rfl
set_option maxHeartbeats 4000000 in
theorem f_matchers {w : World} {b p : Nat} {K : Tk} {k : Nat} {op : Int} {v : Value} {L : List Row} {ts : List Tok} (h : RdAt w b p K k op v L) (ha : Ahead K k ts) :
    Calls Tryz.prog 120 #[.pointer (some ⟨p, 0, none⟩)] w fun e w' => MOut b p K k op v L (matchR 5000 ts) w e w' := by
  have H := hid h
  have HA := hid ha
  have g0 := World.grownBy_alloc w (.cells #[.pointer (some ⟨p, 0, none⟩)] 58) none
  have HC0 := hid (acc_start (E := matE) (e := 54) (t := 34) h (h.grown g0) (.of g0) (heap_alloc_new w _) (Nat.le_refl _))
  have r0 := one_cell HC0.out.rb
  have HNX := hid (ha.next)
  have HLT := hid h.lt
  obtain ⟨R, eR⟩ : ∃ R, matchR 5000 ts = R := ⟨_, rfl⟩
  rw [eR]
  have ER := hid eR
  rw [size_alloc] at HC0
  clear h ha g0 eR
  go_enter Tryz.func120, Tryz.ntmps120
  go_wp2_with fail
  refine (f_here HC0.out.rd HA.out).mono ?_
  rintro e w1 ⟨rfl, g1⟩
  have HC1 := hid (HC0.out.grown g1)
  have HC2 := hid (HC1.out.grown (World.grownBy_alloc w1 (.cells #[.int .i64 (hd ts).1, .int .i64 (hd ts).2.1, .string (hd ts).2.2.1, .int .i64 (hd ts).2.2.2] 72) none))
  have HTB := hid (heap_alloc_new w1 (.cells #[.int .i64 (hd ts).1, .int .i64 (hd ts).2.1, .string (hd ts).2.2.1, .int .i64 (hd ts).2.2.2] 72))
  obtain ⟨t0, t1, t2, t3⟩ := cell4 HTB.out
  obtain ⟨T0, eT0⟩ : ∃ T0, T0 = w1.heap.size := ⟨_, rfl⟩
  clear g1 HC0 HC1
  rw [tokA]
  by_cases h3 : (hd ts).1 = 3
  · have q3 : ((hd ts).1 == 3) = true := by simpa using h3
    have HN3 : Hid ((hd ts).1 ≠ 0) := by show _ ≠ _; rw [h3]; decide
    have HK := hid (f_kept (hd ts))
    rw [tokA] at HK
    cases hk : keptB (hd ts) with
    | true =>
      rw [hk] at HK
      have ER2 : Hid (listR mstep ⟨#[123]⟩ ⟨#[125]⟩ 5000 [] ts = R) := by
        have := ER.out
        unfold matchR at this
        rw [hk, if_neg (by simp)] at this
        exact this
      clear hk h3 ER
      go_wp2_with fail
      refine (HK.out _).mono ?_
      rintro e w3 ⟨rfl, g3⟩
      have HC3 := hid (HC2.out.grown g3)
      have r3 := one_cell HC3.out.rb
      clear g3 t0 t1 t2 t3 r0
      go_wp2_with fail
      refine mats_tail k k [] ts HC3.out (by simp) HA.out (Nat.le_refl _) _ (fun q c w' he hf => ?_) (fun ms2 r k2 w' he hc ha2 hk2 => ?_)
      · rw [ER2.out] at he
        subst he
        have HF := hid hf
        clear hf
        go_wp2
        exact ⟨rfl, rfl, HF.out⟩
      · rw [ER2.out] at he
        subst he
        obtain ⟨sl, b4, hb4, ho4⟩ := acc_cell hc
        have HC4 := hid hc
        have HO4 := hid ho4
        have HA4 := hid ha2
        obtain ⟨x1, x2, x3⟩ := sl
        unfold slV at b4
        clear hc ho4 hb4 ha2
        go_wp2
        go_ret
        exact ⟨(x1, x2, x3), rfl, SOwn.base HO4.out (by have := HC4.out.lo; omega), k2, HC4.out.rd, HA4.out, hk2, HC4.out.fr⟩
    | false =>
      rw [hk] at HK
      have ER2 : Hid (((withR [] 1 nameS ts).bind fun ms r => if isB ⟨#[123]⟩ r = true then listR mstep ⟨#[123]⟩ ⟨#[125]⟩ 5000 ms r else .ok ms r) = R) := by
        have := ER.out
        unfold matchR at this
        rw [hk, decide_eq_true h3, if_pos (by rfl)] at this
        exact this
      clear hk h3 ER
      go_wp2_with fail
      refine (HK.out _).mono ?_
      rintro e w3 ⟨rfl, g3⟩
      have HC3 := hid (HC2.out.grown g3)
      have r3 := one_cell HC3.out.rb
      obtain ⟨sl, b4, hb4, ho4⟩ := acc_cell HC3.out
      have HB4 := hid hb4
      have HO4 := hid ho4
      have hbl : w.heap.size + 1 < w3.heap.size := (Array.getElem?_eq_some_iff.1 hb4).1
      have HW := hid (f_with H.out HC3.out.rd HA.out (w.heap.size + 1 + 1) (by omega) (by omega) sl [] ho4 (by simp) 1 nameS ⟨#[]⟩ HN3.out)
      obtain ⟨x1, x2, x3⟩ := sl
      unfold slV nameS at HW
      unfold slV at b4
      clear g3 t0 t1 t2 t3 r0 hb4 ho4
      go_wp2_with fail
      refine HW.out.mono ?_
      intro e w5 h5
      cases hw : withR [] 1 ⟨#[95, 95, 110, 97, 109, 101, 95, 95]⟩ ts with
      | out => rw [hw] at h5; exact h5.elim
      | bad q c =>
        rw [hw] at h5
        obtain ⟨rfl, f5⟩ := h5
        have ER3 : Hid (R = .bad q c) := by
          have := ER2.out
          unfold nameS at this
          rw [hw, bind_bad] at this
          exact this.symm
        have HF : Hid (Fr (Me p) w w5) := HC3.out.fr.trans f5 (fun j hj e => by
          rcases e with e | e
          · exact e
          · have := (SOwn.block HO4.out j e).1
            omega)
        clear hw f5 HW ER2
        go_wp2
        refine ⟨rfl, ?_⟩
        rw [ER3.out]
        exact ⟨rfl, HF.out⟩
      | ok ms5 r5 =>
        rw [hw] at h5
        obtain ⟨sl5, rfl, ho5, k5, h5, ha5, hk5, f5⟩ := h5
        have HP := hid (AccAt.put (sl := (x1, x2, x3)) (sl2 := sl5) (ys := ms5) HC3.out HB4.out h5 f5 ho5)
        have s5 := HP.out.1
        have z5 := HP.out.2.1
        have HC6 := hid HP.out.2.2
        have r6 := one_cell HC6.out.rb
        obtain ⟨sl6, b6, hb6, ho6⟩ := acc_cell HC6.out
        have HB6 := hid hb6
        have HO6 := hid ho6
        have HA5 := hid ha5
        have hl8 : ms5.length ≤ 8 := by
          have := hw
          unfold withR at this
          split at this
          · rename_i hm
            cases this
            unfold matsB at hm
            simp only [Bool.and_eq_true, decide_eq_true_eq] at hm
            exact hm.1
          · cases this
        have ER3 : Hid ((if isB ⟨#[123]⟩ r5 = true then listR mstep ⟨#[123]⟩ ⟨#[125]⟩ 5000 ms5 r5 else .ok ms5 r5) = R) := by
          have := ER2.out
          unfold nameS at this
          rw [hw, bind_ok] at this
          exact this
        obtain ⟨y1, y2, y3⟩ := sl5
        unfold slV at s5 HP HC6 r6 b6 HB6 HO6 ⊢
        clear hw f5 HW ER2 h5 ha5 ho5 b4 hb6 ho6
        go_wp2_with fail
        refine (f_is HC6.out.rd HA5.out ⟨#[123]⟩).mono ?_
        rintro e w7 ⟨rfl, g7⟩
        have HC7 := hid (HC6.out.grown g7)
        have r7 := one_cell HC7.out.rb
        cases hb : isB ⟨#[123]⟩ r5 with
        | true =>
          have ER4 : Hid (listR mstep ⟨#[123]⟩ ⟨#[125]⟩ 5000 ms5 r5 = R) := by
            have := ER3.out
            rw [if_pos hb] at this
            exact this
          clear hb g7 ER3 r6 b6 s5 z5 r3
          go_wp2_with fail
          refine mats_tail k k5 ms5 r5 HC7.out hl8 HA5.out (Nat.le_of_lt hk5) _ (fun q c w' he hf => ?_) (fun ms2 r k2 w' he hc ha2 hk2 => ?_)
          · rw [ER4.out] at he
            subst he
            have HF := hid hf
            clear hf
            go_wp2
            exact ⟨rfl, rfl, HF.out⟩
          · rw [ER4.out] at he
            subst he
            obtain ⟨sl, b4, hb4, ho4⟩ := acc_cell hc
            have HC4 := hid hc
            have HO4 := hid ho4
            have HA4 := hid ha2
            obtain ⟨u1, u2, u3⟩ := sl
            unfold slV at b4
            clear hc ho4 hb4 ha2
            go_wp2
            go_ret
            exact ⟨(u1, u2, u3), rfl, SOwn.base HO4.out (by have := HC4.out.lo; omega), k2, HC4.out.rd, HA4.out, hk2, HC4.out.fr⟩
        | false =>
          have ER4 : Hid (.ok ms5 r5 = R) := by
            have := ER3.out
            rw [if_neg (by rw [hb]; simp)] at this
            exact this
          obtain ⟨sl8, b8, hb8, ho8⟩ := acc_cell HC7.out
          have HO8 := hid ho8
          obtain ⟨u1, u2, u3⟩ := sl8
          unfold slV at b8
          clear hb g7 ER3 r6 b6 s5 z5 r3 hb8 ho8
          go_wp2
          go_ret
          rw [← ER4.out]
          exact ⟨(u1, u2, u3), rfl, SOwn.base HO8.out (by omega), k5, HC7.out.rd, HA5.out, hk5, HC7.out.fr⟩
  · have q3 : ((hd ts).1 == 3) = false := by simpa using h3
    have ER2 : Hid (listR mstep ⟨#[123]⟩ ⟨#[125]⟩ 5000 [] ts = R) := by
      have := ER.out
      unfold matchR at this
      rw [decide_eq_false h3, if_neg (by simp)] at this
      exact this
    have r3 := one_cell HC2.out.rb
    clear h3 ER
    go_wp2_with fail
    refine mats_tail k k [] ts HC2.out (by simp) HA.out (Nat.le_refl _) _ (fun q c w' he hf => ?_) (fun ms2 r k2 w' he hc ha2 hk2 => ?_)
    · rw [ER2.out] at he
      subst he
      have HF := hid hf
      clear hf
      go_wp2
      exact ⟨rfl, rfl, HF.out⟩
    · rw [ER2.out] at he
      subst he
      obtain ⟨sl, b4, hb4, ho4⟩ := acc_cell hc
      have HC4 := hid hc
      have HO4 := hid ho4
      have HA4 := hid ha2
      obtain ⟨x1, x2, x3⟩ := sl
      unfold slV at b4
      clear hc ho4 hb4 ha2
      go_wp2
      go_ret
      exact ⟨(x1, x2, x3), rfl, SOwn.base HO4.out (by have := HC4.out.lo; omega), k2, HC4.out.rd, HA4.out, hk2, HC4.out.fr⟩
end Go.Proofs.YthbodkgcbfplgaaGreat

