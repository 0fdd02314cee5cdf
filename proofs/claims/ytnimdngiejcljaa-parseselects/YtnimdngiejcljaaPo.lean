/- Package parse: group. -/
import Derived.Test.YtnimdngiejcljaaZh
import Derived.Test.YtnimdngiejcljaaZb
namespace Go.Proofs.Ytnimdngiejcljaa
open Go.RowKit
set_option linter.unusedVariables false
set_option linter.unusedSimpArgs false
set_option maxRecDepth 20000

/-- What group answers. -/
def GOut (b p : Nat) (K : Tk) (k : Nat) (op : Int) (v : Value) (L : List Row) (R : Rs (Int × List ByteArray)) (w : World) (e : Ending) (w' : World) : Prop :=
  match R with
  | .ok g r => ∃ sl : Sl, e = .returned (.tuple #[.int .i64 g.1, slV sl]) ∧ SOwn strE 9 w' w.heap.size (slV sl) g.2.length g.2 ∧ ∃ k', RdAt w' b p K k' op v L ∧ Ahead K k' r ∧ k ≤ k' ∧ Fr (Me p) w w'
  | .bad q c => e = .panicked (flt q c) ∧ Fr (Me p) w w'
  | .out => False
theorem acc_start {α : Type} {E : Elem α} {e t : TypeId} {w w3 : World} {b p rbox : Nat} {K : Tk} {k0 k : Nat} {op0 op : Int} {v : Value} {L : List Row} (h0 : RdAt w b p K k0 op0 v L) (h : RdAt w3 b p K k op v L) (hf : Fr (Me p) w w3) (hrb : w3.heap[rbox]? = some (.cells #[.pointer (some ⟨p, 0, none⟩)] 46 (0, 0))) (hlo : w.heap.size ≤ rbox) :
    AccAt E e t w w3.heap.size rbox b p K op v L [] k (w3.alloc (.cells #[.slice none 0 0] t)) := by
  have ga := World.grownBy_alloc w3 (.cells #[.slice none 0 0] t) none
  have hl := (Array.getElem?_eq_some_iff.1 hrb).1
  refine ⟨h.grown ga, hf.trans (.of (S := Me p) ga) (fun _ _ e => e), ⟨(none, 0, 0), heap_alloc_new _ _, SOwn.nil _ _ _⟩, (ga.block _ hl (by simp)).trans hrb, ⟨hlo, hl⟩, ⟨k0, op0, h0⟩⟩
/-- The names that are in the making. -/
def NmI (w0 : World) (box rbox b p : Nat) (K : Tk) (op : Int) (v : Value) (L : List Row) (ns : List ByteArray) (k : Nat) (w : World) : Prop := AccAt strE 9 32 w0 box rbox b p K op v L ns k w ∧ ns.length ≤ k
theorem f_names {w0 : World} {box rbox b p : Nat} {K : Tk} {op : Int} {v : Value} {L : List Row} (f k : Nat) (ts : List Tok) (w : World) (h : AccAt strE 9 32 w0 box rbox b p K op v L [] k w) (ha : Ahead K k ts) (hf : ts.length < f) :
    Calls Try.prog 59 #[.pointer (some ⟨p, 0, none⟩), .string ⟨#[40]⟩, .func (.func 60) #[] #[.pointer (some ⟨box, 0, none⟩), .pointer (some ⟨rbox, 0, none⟩)], .string ⟨#[41]⟩] w fun e w' => LOut (NmI w0 box rbox b p K op v L) K (Me p) w0 k (listR nstep ⟨#[40]⟩ ⟨#[41]⟩ f [] ts) e w' := by
  refine f_list (NmI w0 box rbox b p K op v L) (Me p) w0 nstep 60 _ _ _ (ent60 _) (b := b) (p := p) (op := op) (v := v) (L := L) (fun a k w h => h.1.rd) (fun a k k' w w' hk h hr hf => ⟨h.1.step hr hf, Nat.le_trans h.2 hk⟩) (fun a k w h => h.1.fr) (fun a k ts w h ha => ?_) f [] k ts w ⟨h, Nat.zero_le _⟩ ha (fine_ne (listR_fine nstep_fine f [] ts hf))
  · refine (f_nstep h.1 ha (by have := h.2; have := ha.lt; have := ha.small; omega)).mono fun e w' h2 => ?_
    cases hs : nstep a ts with
    | out => rw [hs] at h2; exact h2.elim
    | bad q c => rw [hs] at h2; exact h2
    | ok a2 r2 =>
      rw [hs] at h2
      obtain ⟨e1, k1, h3, ha3, hk3⟩ := h2
      refine ⟨e1, k1, ⟨h3, ?_⟩, ha3, hk3⟩
      have hl : a2.length = a.length + 1 := by
        unfold nstep at hs
        cases hn : lname ts with
        | ok s r => rw [hn, bind_ok] at hs; cases hs; simp
        | bad q c => rw [hn, bind_bad] at hs; cases hs
        | out => rw [hn] at hs; cases hs
      have := h.2
      omega
theorem take_ahead {K : Tk} {k : Nat} {ts : List Tok} (h : Ahead K k ts) : ts.length ≤ 4097 := by have := h.len; have := h.small; omega
set_option maxHeartbeats 2000000 in
theorem f_group {w : World} {b p : Nat} {K : Tk} {k : Nat} {op : Int} {v : Value} {L : List Row} {ts : List Tok} (h : RdAt w b p K k op v L) (ha : Ahead K k ts) (a2 : Option Addr) (c2 : Nat) (may : List Int) (hm : SRd numE w a2 may) (hl2 : may.length ≤ 1000) (h0 : may.contains 0 = false) :
    Calls Try.prog 52 #[.pointer (some ⟨p, 0, none⟩), .slice a2 may.length c2] w fun e w' => GOut b p K k op v L (groupR 5000 may ts) w e w' := by
  have H := hid h
  have HA := hid ha
  have HM := hid hm
  have H0 := hid h0
  have g0 := World.grownBy_alloc w (.cells #[.pointer (some ⟨p, 0, none⟩)] 46) none
  have hr0 := heap_alloc_new w (.cells #[.pointer (some ⟨p, 0, none⟩)] 46)
  have HR0 := hid hr0
  have HG0 := hid (gb_drew g0)
  have r0 : (w.alloc (.cells #[.pointer (some ⟨p, 0, none⟩)] 46)).drew.cell? ⟨w.heap.size, 0, none⟩ = some (.pointer (some ⟨p, 0, none⟩)) := one_cell hr0
  have HPL := hid h.lt
  have hne : p ≠ w.heap.size := by have := h.lt; omega
  have hw0 : w.heap.size < (w.alloc (.cells #[.pointer (some ⟨p, 0, none⟩)] 46)).drew.heap.size := by show _ < (w.alloc _).heap.size; rw [size_alloc]; omega
  have HW0 := hid hw0
  have HLN : Hid (may.length ≤ 1000) := hl2
  unfold groupR
  obtain ⟨n, hn⟩ : ∃ n, takeN grpsR may ts = n := ⟨_, rfl⟩
  obtain ⟨r, hr⟩ : ∃ r, takeR grpsR may ts = r := ⟨_, rfl⟩
  rw [hn, hr]
  have HN := hid hn
  have HRR := hid hr
  clear h ha hm h0 g0 hr0 hl2 hw0 hn hr
  by_cases hz : n = 0
  · rw [if_pos hz]
    have q0 : (n == 0) = true := by simpa using hz
    have HZ := hid hz
    clear hz
    go_enter Try.func52, Try.ntmps52
    go_wp2_with fail
    generalize hW : (w.alloc (.cells #[.pointer (some ⟨p, 0, none⟩)] 46)) = W at *
    clear hW
    go_region_held3 (fun V => V.cell? ⟨w.heap.size, 0, none⟩ = some (.pointer (some ⟨p, 0, none⟩))) (go_keep) (first
      | (go_at_call 58; refine (f_grps _).mono ?_; rintro e w1 ⟨a1, c1, rfl, h1, g1⟩; have HR1 := hid h1; have HG1 := hid (HG0.out.trans g1); have r1 := g1.cell r0 (by simp); have HB1 := hid ((g1.block _ HW0.out (by simp)).trans HR0.out); have HLT1 : Hid (w.heap.size < w1.heap.size) := Nat.lt_of_lt_of_le HW0.out g1.size; clear h1 g1)
      | (go_at_call 48; refine (f_one (H.out.grown HG1.out) HA.out a1 a2 c1 c2 grpsR may HR1.out (by decide) (HM.out.grown HG1.out (by simp)) HLN.out H0.out).mono ?_; rintro e w2 ⟨rfl, k2, h2, ha2, hk2, hk22, f2⟩; rw [HN.out]; rw [HRR.out] at ha2; have H2 := hid h2; have HA2 := hid ha2; have HK2 := hid hk2; have HF2 : Hid (Fr (Me p) w w2) := (Fr.of (S := Me p) HG1.out).trans f2 (fun _ _ e => e); have HB2 := hid ((f2.block _ HLT1.out (fun e => hne e.symm)).trans HB1.out); have r2 := one_cell HB2.out; clear h2 ha2 hk2 f2 hk22))
    all_goals clear HR1 HG1 HB1 HLT1 HG0 HR0 HW0 HM H0
    go_wp2
    go_ret2
    exact ⟨(none, 0, 0), rfl, SOwn.nil _ _ _, k2, H2.out, HA2.out, HK2.out, HF2.out⟩
  · rw [if_neg hz]
    have q0 : (n == 0) = false := by simpa using hz
    clear hz
    go_enter Try.func52, Try.ntmps52
    go_wp2_with fail
    generalize hW : (w.alloc (.cells #[.pointer (some ⟨p, 0, none⟩)] 46)) = W at *
    clear hW
    go_region_held3 (fun V => V.cell? ⟨w.heap.size, 0, none⟩ = some (.pointer (some ⟨p, 0, none⟩))) (go_keep) (first
      | (go_at_call 58; refine (f_grps _).mono ?_; rintro e w1 ⟨a1, c1, rfl, h1, g1⟩; have HR1 := hid h1; have HG1 := hid (HG0.out.trans g1); have r1 := g1.cell r0 (by simp); have HB1 := hid ((g1.block _ HW0.out (by simp)).trans HR0.out); have HLT1 : Hid (w.heap.size < w1.heap.size) := Nat.lt_of_lt_of_le HW0.out g1.size; clear h1 g1)
      | (go_at_call 48; refine (f_one (H.out.grown HG1.out) HA.out a1 a2 c1 c2 grpsR may HR1.out (by decide) (HM.out.grown HG1.out (by simp)) HLN.out H0.out).mono ?_; rintro e w2 ⟨rfl, k2, h2, ha2, hk2, hk22, f2⟩; rw [HN.out]; rw [HRR.out] at ha2; have H2 := hid h2; have HA2 := hid ha2; have HK2 := hid hk2; have HF2 : Hid (Fr (Me p) w w2) := (Fr.of (S := Me p) HG1.out).trans f2 (fun _ _ e => e); have HB2 := hid ((f2.block _ HLT1.out (fun e => hne e.symm)).trans HB1.out); have r2 := one_cell HB2.out; clear h2 ha2 hk2 f2 hk22))
    all_goals clear HR1 HG1 HB1 HLT1 HG0 HR0 HW0 HM H0
    have HC := hid (acc_start (E := strE) (e := 9) (t := 32) H.out H2.out HF2.out HB2.out (Nat.le_refl _))
    have r3 := one_cell HC.out.rb
    have HNM := hid (f_names 5000 k2 r _ HC.out HA2.out (by have := take_ahead HA2.out; omega))
    have HFN := hid (listR_fine nstep_fine (opens := ⟨#[40]⟩) (closes := ⟨#[41]⟩) 5000 [] r (by have := take_ahead HA2.out; omega))
    go_wp2_with fail
    refine HNM.out.mono ?_
    intro e w3 h3
    cases hs : listR nstep ⟨#[40]⟩ ⟨#[41]⟩ 5000 [] r with
    | out => rw [hs] at h3; exact h3.elim
    | bad q c =>
      rw [hs] at h3
      obtain ⟨rfl, f3⟩ := h3
      have HF3 := hid f3
      have HS := hid hs
      clear f3 hs HNM
      go_wp2
      refine ⟨rfl, ?_⟩
      rw [HS.out, bind_bad]
      exact ⟨rfl, HF3.out⟩
    | ok ns r4 =>
      rw [hs] at h3
      obtain ⟨rfl, k4, h4, ha4, hk4⟩ := h3
      obtain ⟨sl, hb4, ho4⟩ := h4.1.ex
      have H4 := hid h4.1
      have HA4 := hid ha4
      have HO4 := hid ho4
      have HS := hid hs
      have b4 := one_cell hb4
      have HK4 : Hid (k ≤ k4) := Nat.le_trans HK2.out (Nat.le_of_lt hk4)
      obtain ⟨x1, x2, x3⟩ := sl
      unfold slV at b4
      clear h4 hs HNM hb4 ho4 ha4 hk4
      go_wp2_with fail
      go_region
      all_goals go_wp2
      all_goals go_ret2
      all_goals rw [HS.out, bind_ok]
      all_goals exact ⟨(x1, x2, x3), rfl, SOwn.base HO4.out (by have := H4.out.lo; omega), k4, H4.out.rd.grown (gb_drew (World.grownBy.refl _ _)), HA4.out, HK4.out, H4.out.fr.drew⟩
end Go.Proofs.Ytnimdngiejcljaa
