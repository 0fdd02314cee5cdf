/- Package parse: with. -/
import Derived.Test.YtnimdngiejcljaaPo
namespace Go.Proofs.Ytnimdngiejcljaa
open Go.RowKit
set_option linter.unusedVariables false
set_option linter.unusedSimpArgs false
set_option maxRecDepth 20000

/-- What with answers. -/
def WOut (b p : Nat) (K : Tk) (k : Nat) (op : Int) (v : Value) (L : List Row) (base : Nat) (sl : Sl) (R : Rs (List Mt)) (w : World) (e : Ending) (w' : World) : Prop :=
  match R with
  | .ok ms r => ∃ sl2 : Sl, e = .returned (slV sl2) ∧ SOwn matE 44 w' base (slV sl2) ms.length ms ∧ ∃ k', RdAt w' b p K k' op v L ∧ Ahead K k' r ∧ k < k' ∧ Fr (Wr p (slV sl)) w w'
  | .bad q c => e = .panicked (flt q c) ∧ Fr (Wr p (slV sl)) w w'
  | .out => False
theorem row3 {w : World} {g : Nat} {x y z : Value} {t : TypeId} (h : w.heap[g]? = some (.cells #[x, y, z] t (0, 0))) (v : Value) : (w.setCell ⟨g, 2, none⟩ v).heap[g]? = some (.cells #[x, y, v] t (0, 0)) ∧ (w.setCell ⟨g, 0, none⟩ v).heap[g]? = some (.cells #[v, y, z] t (0, 0)) := by
  constructor <;> simp [World.setCell, Array.getElem?_modify, h]
theorem mat_lit1 (w : World) (m : Mt) : SRd matE (w.alloc (.cells #[.int .i64 m.1, .string m.2.1, .string m.2.2] 44)) (some ⟨w.heap.size, 0, none⟩) [m] := by
  have := lit_rd matE w 44 [m]
  simpa [Elem.flat, matE] using this
set_option maxHeartbeats 1000000 in
theorem f_with {w w0 : World} {b p : Nat} {K : Tk} {k k0 : Nat} {op op0 : Int} {v : Value} {L : List Row} {ts : List Tok} (h0 : RdAt w0 b p K k0 op0 v L) (h : RdAt w b p K k op v L) (ha : Ahead K k ts) (base : Nat) (hbs : w0.heap.size ≤ base) (hbs2 : base ≤ w.heap.size) (sl : Sl) (ms : List Mt) (ho : SOwn matE 44 w base (slV sl) ms.length ms) (hn : ms.length ≤ 100000) (kd : Int) (n x : ByteArray) (hk0 : (hd ts).1 ≠ 0) :
    Calls Try.prog 83 #[.pointer (some ⟨p, 0, none⟩), slV sl, .agg #[.int .i64 kd, .string n, .string x]] w fun e w' => WOut b p K k op v L base sl (withR ms kd n ts) w e w' := by
  have H := hid h
  have H00 := hid h0
  have HA := hid ha
  have HO := hid ho
  have hk := ha.lt
  have hs := ha.small
  have ga := World.grownBy_alloc w (.cells #[.int .i64 kd, .string n, .string x] 44) none
  have HGA := hid ga
  have H1 := hid (h.grown ga)
  have HB := hid (heap_alloc_new w (.cells #[.int .i64 kd, .string n, .string x] 44))
  have HNX := hid (ha.next hk0)
  have f2 := fld2 (.int .i64 (hd ts).1) (.int .i64 (hd ts).2.1) (.string (hd ts).2.2.1) (.int .i64 (hd ts).2.2.2)
  have HPL := hid h.lt
  obtain ⟨L1, eL1⟩ : ∃ L1, L1 = ms.length := ⟨_, rfl⟩
  obtain ⟨a0, c0, e0⟩ := sown_slice ho
  have HE0 := hid e0
  have EL := hid eL1
  obtain ⟨R, eR⟩ : ∃ R, R = withR ms kd n ts := ⟨_, rfl⟩
  rw [← eR]
  unfold withR at eR
  have ER := hid eR
  rw [e0, ← eL1]
  rw [← eL1] at hn
  have HO2 : Hid (SOwn matE 44 w base (.slice a0 L1 c0) L1 ms) := by show SOwn _ _ _ _ _ _ _; rw [eL1, ← e0]; exact ho
  have HOB : Hid (∀ j, (Value.slice a0 L1 c0).ownBlock = some j → base ≤ j ∧ j < w.heap.size) := SOwn.block HO2.out
  clear h h0 ha ho ga e0 eL1 hk0 eR
  go_enter Try.func83, Try.ntmps83
  go_wp2_with fail
  refine (f_here H1.out HA.out).mono ?_
  rintro e w1 ⟨rfl, g1⟩
  have B1 := hid ((g1.block w.heap.size (by rw [size_alloc]; omega) (by simp)).trans HB.out)
  have H2 := hid (H1.out.grown g1)
  have G1 : Hid (w.grownBy w1 none) := HGA.out.trans g1
  obtain ⟨z0, z1, z2⟩ := cell3r B1.out
  have zf := free_row B1.out 2
  have HR3 := hid (row3 B1.out (.string (hd ts).2.2.1)).1
  have HFS := hid (fr_set w.heap.size 2 w1 (.string (hd ts).2.2.1))
  have hsz : w.heap.size < w1.heap.size := by have := g1.size; rw [size_alloc] at this; omega
  clear g1
  unfold tkV
  go_upto_region 2 with fail
  have HG2 : Hid (w.grownBy (w1.setCell ⟨w.heap.size, 2, none⟩ (.string (hd ts).2.2.1)) none) := ((Fr.of (S := fun j => j = w.heap.size) G1.out).trans HFS.out (fun _ _ e => e)).grown (fun j hj e => by omega)
  obtain ⟨y0, y1, y2⟩ := cell3r HR3.out
  generalize w1.setCell ⟨w.heap.size, 2, none⟩ (.string (hd ts).2.2.1) = W2 at HG2 y0 y1 y2 ⊢
  clear z0 z1 z2 zf HR3 HFS B1 H2 G1 hsz HGA H1 HB
  have H3 := hid (H.out.grown HG2.out)
  obtain ⟨T, eT⟩ : ∃ T, T = (hd ts).2.2.1 := ⟨_, rfl⟩
  have ET := hid eT
  rw [← eT] at y2
  have ga := World.grownBy_alloc W2 (.cells #[.int .i64 kd, .string n, .string T] 44) none
  have HG3 := hid (HG2.out.trans ga)
  have H4 := hid (H3.out.grown ga)
  have HO3 := hid (SOwn.kept HO2.out HG3.out (Classical.em _))
  have HRD := hid (mat_lit1 W2 (kd, n, T))
  have HSZ : Hid (base ≤ (W2.alloc (.cells #[.int .i64 kd, .string n, .string T] 44)).heap.size) := Nat.le_trans hbs2 HG3.out.size
  clear ga eT
  go_wp2_with (at_builtin; refine wpList_append_s matT rfl (.tmp 11) (.tmp 13) rfl base (.slice a0 L1 c0) L1 ms rfl HO3.out (some ⟨W2.heap.size, 0, none⟩) [(kd, n, T)] 1 1 rfl rfl HRD.out (by simp) (by omega) (by unfold maxLen; omega) HSZ.out ?_; intro v2 w3 ho3 hg3 hn3; obtain ⟨a4, c4, e4⟩ := sown_slice ho3; subst e4; have HO4 := hid ho3; have HG4 := hid hg3; clear ho3 hg3 hn3)
  have HF4 : Hid (Fr (fun j => (Value.slice a0 L1 c0).ownBlock = some j) (W2.alloc (.cells #[.int .i64 kd, .string n, .string T] 44)) w3) := Fr.row HG4.out (fun j hj => hj)
  have H5 := hid (H00.out.past H4.out HF4.out (fun j e => Nat.le_trans hbs (HOB.out j e).1))
  have HF5 : Hid (Fr (Wr p (slV sl)) w w3) := by
    show Fr _ _ _
    rw [HE0.out, ← EL.out]
    exact (Fr.of (S := Wr p (.slice a0 L1 c0)) HG3.out).trans HF4.out (fun j _ e => .inr e)
  have hle : (ms ++ [(kd, n, T)]).length = L1 + 1 := by rw [List.length_append, EL.out]; rfl
  have HLE := hid hle
  have HCK : Hid (Calls Try.prog 87 #[.slice a4 (L1 + 1) c4] w3 fun e w' => ∃ r : Int, e = .returned (.int .i64 r) ∧ Hid (decide (r = 0) = matsB (ms ++ [(kd, n, T)])) ∧ w3.grownBy w' none) := by
    have := m_check a4 c4 (ms ++ [(kd, n, T)]) w3 (SOwn.rd HO4.out) (by omega)
    rw [hle] at this
    exact this
  clear hle HG4 H4 HRD HSZ HG3 HG2 y0 y1 y2
  go_wp2_with fail
  refine HCK.out.mono ?_
  rintro e w5 ⟨r, rfl, HC, g5⟩
  have HG5 := hid g5
  have H6 := hid (H5.out.grown g5)
  have HF6 : Hid (Fr (Wr p (slV sl)) w w5) := HF5.out.trans (.of (S := Wr p (slV sl)) g5) (fun _ _ e => e)
  clear g5 HCK
  by_cases hr : r = 0
  · have hc : matsB (ms ++ [(kd, n, T)]) = true := by rw [← HC.out, hr]; rfl
    have HCC := hid hc
    have q0 : (r != 0) = false := by simpa using hr
    obtain ⟨c0', c1', c2', c3'⟩ := H6.out.cells
    have u1 := H6.out.free 1
    clear hc c0' c2' c3'
    go_wp2
    go_ret
    have er := ER.out
    rw [← ET.out, HCC.out, if_pos rfl] at er
    rw [er]
    have H7 := (H6.out.step (World.grownBy.refl _ _))
    refine ⟨(a4, L1 + 1, c4), rfl, ?_, k + 1, H7.1, HNX.out, by omega, HF6.out.trans H7.2 (fun _ _ e => .inl e)⟩
    rw [HLE.out]
    refine sown_same (SOwn.kept HO4.out HG5.out (Classical.em _)) (fun j hj _ => set_other (fun e => ?_))
    have h8 := (SOwn.block HO4.out j hj).1
    have h9 := H00.out.lt
    omega
  · have hc : matsB (ms ++ [(kd, n, T)]) = false := by rw [← HC.out, decide_eq_false hr]
    have HCC := hid hc
    have q0 : (r != 0) = true := by simpa using hr
    clear hc hr
    go_wp2_with fail
    refine (f_throw H6.out HA.out 183).mono ?_
    rintro e w7 ⟨rfl, g7⟩
    have HF7 : Hid (Fr (Wr p (slV sl)) w w7) := HF6.out.trans (.of (S := Wr p (slV sl)) g7) (fun _ _ e => e)
    clear g7
    go_wp2
    refine ⟨rfl, ?_⟩
    have er := ER.out
    rw [← ET.out, HCC.out, if_neg (by simp)] at er
    rw [er]
    exact ⟨rfl, HF7.out⟩
end Go.Proofs.Ytnimdngiejcljaa
