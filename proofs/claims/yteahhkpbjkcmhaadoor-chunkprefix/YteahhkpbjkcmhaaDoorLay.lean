/- Package chunk: lay between two states. -/
import Derived.Test.YteahhkpbjkcmhaaDoorDwr2
import Derived.Test.YteahhkpbjkcmhaaDoorDord
import Derived.Test.YteahhkpbjkcmhaaDoorMh
namespace Go.Proofs.YteahhkpbjkcmhaaDoor
open Go.RowKit
set_option linter.unusedVariables false

def PastF (T V d pa pb : Int) : Nat → Value := fun i => if i = 0 then .int .i64 T else if i = 1 then .int .u64 V else if i = 2 then .int .i64 d else if i = 3 then .int .i64 pa else .int .i64 pb
def OwnF (A B : Int) : Nat → Value := fun i => if i = 0 then .int .i64 A else .int .i64 B
structure LayW (w wr : World) (p P O : Nat) (l : List Bool) (T V d pa pb A B : Int) : Prop where
  out : WrIs wr p p l
  fP : Free wr p P
  fO : Free wr p O
  ne : P ≠ O
  past : wr.rowIs P 66 5 (PastF T V d pa pb)
  own : wr.rowIs O 64 2 (OwnF A B)
  since : w.Since p wr
  base : p = w.heap.size
  lP : p < P
  lO : p < O
theorem LayW.le {w wr : World} {p P O : Nat} {l : List Bool} {T V d pa pb A B : Int} (h : LayW w wr p P O l T V d pa pb A B) : p ≤ wr.heap.size := by have := h.since.size; have := h.base; omega
theorem LayW.gb {w wr : World} {p P O : Nat} {l : List Bool} {T V d pa pb A B : Int} (h : LayW w wr p P O l T V d pa pb A B) : w.grownBy wr none := since_gb (by have := h.since; rw [h.base] at this; exact this)
theorem LayW.grown {w wr w' : World} {p P O : Nat} {l : List Bool} {T V d pa pb A B : Int} (h : LayW w wr p P O l T V d pa pb A B) (hg : wr.grownBy w' none) : LayW w w' p P O l T V d pa pb A B := by
  have hf := frees_grown hg h.out.lt
  exact ⟨wr_grown h.out hg, (hf P h.fP).2, (hf O h.fO).2, h.ne, h.past.of_block (hf P h.fP).1, h.own.of_block (hf O h.fO).1, h.since.grown hg h.le (by simp), h.base, h.lP, h.lO⟩
theorem LayW.call {w wr w' : World} {p P O : Nat} {l l' : List Bool} {T V d pa pb A B : Int} (h : LayW w wr p P O l T V d pa pb A B) (hw : WrIs w' p p l') (hs : wr.Since p w') (hf : Frees wr w' p) : LayW w w' p P O l' T V d pa pb A B :=
  ⟨hw, (hf P h.fP).2, (hf O h.fO).2, h.ne, h.past.of_block (hf P h.fP).1, h.own.of_block (hf O h.fO).1, h.since.trans hs, h.base, h.lP, h.lO⟩
theorem LayW.setP {w wr : World} {p P O : Nat} {l : List Bool} {T V d pa pb A B T' V' d' pa' pb' : Int} (h : LayW w wr p P O l T V d pa pb A B) (i : Nat) (u : Value) (hu : ∀ j, j < 5 → (if j = i then u else PastF T V d pa pb j) = PastF T' V' d' pa' pb' j) : LayW w (wr.setCell ⟨P, i, none⟩ u) p P O l T' V' d' pa' pb' A B := by
  obtain ⟨h1, h2⟩ := wr_set (o := i) (u := u) h.out h.fP
  refine ⟨h1, h2 P h.fP, h2 O h.fO, h.ne, (h.past.set i u).congr hu, World.rowIs.setOther h.own (Ne.symm h.ne) _, h.since.setCell (Nat.le_of_lt h.lP) _, h.base, h.lP, h.lO⟩
theorem LayW.setO {w wr : World} {p P O : Nat} {l : List Bool} {T V d pa pb A B A' B' : Int} (h : LayW w wr p P O l T V d pa pb A B) (i : Nat) (u : Value) (hu : ∀ j, j < 2 → (if j = i then u else OwnF A B j) = OwnF A' B' j) : LayW w (wr.setCell ⟨O, i, none⟩ u) p P O l T V d pa pb A' B' := by
  obtain ⟨h1, h2⟩ := wr_set (o := i) (u := u) h.out h.fO
  refine ⟨h1, h2 P h.fP, h2 O h.fO, h.ne, World.rowIs.setOther h.past h.ne _, (h.own.set i u).congr hu, h.since.setCell (Nat.le_of_lt h.lO) _, h.base, h.lP, h.lO⟩
theorem wr_start (w : World) : WrIs (w.alloc (.cells #[.slice none 0 0, .slice none 0 0, .int .i64 0] 62)) w.heap.size w.heap.size [] := by
  refine ⟨.slice none 0 0, none, 0, 0, ?_, rfl, Nat.le_refl _, ?_, by simp [Value.ownBlock], ⟨.inl rfl, fun z hz => by cases hz⟩, (fun x hx => by cases hx), fun _ => ⟨rfl, rfl⟩, fun x hx => by cases hx⟩
  · refine World.rowIs_alloc w #[.slice none 0 0, .slice none 0 0, .int .i64 0] 62 _ fun i hi => ?_
    match i, hi with
    | 0, _ => rfl
    | 1, _ => rfl
    | 2, _ => rfl
  · exact ⟨rfl, .inl ⟨rfl, rfl⟩⟩
theorem lay_start {w w1 : World} {p : Nat} (hg : w.grownBy w1 none) (hw : WrIs w1 p p []) (hp : p = w.heap.size) :
    LayW w ((w1.alloc (.cells #[.int .i64 0, .int .u64 0, .int .i64 0, .int .i64 64, .int .i64 0] 66)).alloc (.cells #[.int .i64 0, .int .i64 0] 64)) p w1.heap.size (w1.heap.size + 1) [] 0 0 0 64 0 0 0 := by
  have hs1 : ∀ (w : World) o, (w.alloc o).heap.size = w.heap.size + 1 := fun w o => Array.size_push _
  have g1 := World.grownBy_alloc w1 (.cells #[.int .i64 0, .int .u64 0, .int .i64 0, .int .i64 64, .int .i64 0] 66) none
  have g2 := World.grownBy_alloc (w1.alloc (.cells #[.int .i64 0, .int .u64 0, .int .i64 0, .int .i64 64, .int .i64 0] 66)) (.cells #[.int .i64 0, .int .i64 0] 64) none
  have g := gb_trans g1 g2 (by simp)
  have hpl := hw.lt
  refine ⟨wr_grown hw g, wr_new hw g (Nat.le_refl _) (by rw [hs1, hs1]; omega), wr_new hw g (by omega) (by rw [hs1, hs1]; omega), by omega, ?_, ?_, ?_, hp, hpl, by omega⟩
  · refine World.rowIs.alloc ?_ _
    refine World.rowIs_alloc w1 #[.int .i64 0, .int .u64 0, .int .i64 0, .int .i64 64, .int .i64 0] 66 _ fun i hi => ?_
    match i, hi with
    | 0, _ => rfl
    | 1, _ => rfl
    | 2, _ => rfl
    | 3, _ => rfl
    | 4, _ => rfl
  · have h := World.rowIs_alloc (w1.alloc (.cells #[.int .i64 0, .int .u64 0, .int .i64 0, .int .i64 64, .int .i64 0] 66)) #[.int .i64 0, .int .i64 0] 64 (OwnF 0 0) (fun i hi => by
      match i, hi with
      | 0, _ => rfl
      | 1, _ => rfl)
    rw [hs1] at h
    exact h
  · rw [hp]
    exact gb_since (gb_trans hg g (by simp))
theorem encL_len : ∀ (ps : List Pt) (t v d a b : Int), (a = -1 ∨ (0 ≤ a ∧ a ≤ 31 ∧ 0 ≤ b ∧ a + b ≤ 63)) → (∀ q ∈ ps, okV q.2) → okV v → (encL t v d a b ps).length ≤ 160 * ps.length
  | [], _, _, _, _, _, _, _, _ => by simp [encL]
  | q :: r, t, v, d, a, b, hw, hv, hv0 => by
    have hq := hv q (by simp)
    have hx := xorI_bd hq hv0
    have h1 := encZ_len (q.1 - t - d)
    have h2 := encV_len (x := xorI q.2 v) hw
    have h3 := encL_len r q.1 q.2 (q.1 - t) _ _ (encV_win hw hx.1 hx.2) (fun q' h' => hv q' (by simp [h'])) hq
    simp only [encL, List.length_append, List.length_cons] at h3 ⊢
    omega
theorem encP_len {ps : List Pt} {L : Nat} (hL : ps.length = L) (hz : L ≤ 8191) (hv : ∀ q ∈ ps, okV q.2) : (encP ps).length ≤ 1099511627000 := by
  cases ps with
  | nil => simp [encP, bitsI_len]
  | cons q r =>
    have h := encL_len r q.1 q.2 0 (-1) 0 (.inl rfl) (fun q' h' => hv q' (by simp [h'])) (hv q (by simp))
    simp only [encP, List.length_append, bitsI_len, List.length_cons] at h hL ⊢
    omega
end Go.Proofs.YteahhkpbjkcmhaaDoor
