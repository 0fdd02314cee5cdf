/- One sample of another sender: the maths; a copy's labels set; what comes in, sharper. (Printed by mk_jh.py.) -/
import Derived.Test.YtecnocdffhmkaaaDoorJc
import Derived.Test.YtecnocdffhmkaaaDoorXm
namespace Go.Proofs.YtecnocdffhmkaaaDoor
open Go.ChangeShapes Go.WideShapes Go.ChangeAt Go.RowKit
set_option linter.unusedVariables false
set_option maxRecDepth 20000

theorem com_all (n : ByteArray) (Q : List Smp) (h : comR n Q ≠ noB) : ∀ s ∈ Q, getR s.1 n = comR n Q := by
  cases Q with
  | nil => exact absurd rfl h
  | cons q r =>
    intro s hs
    simp only [comR] at h ⊢
    by_cases h1 : r.all (fun s => decide (getR s.1 n = getR q.1 n)) = true
    · rw [if_pos h1]
      rcases List.mem_cons.1 hs with rfl | h2
      · rfl
      · exact of_decide_eq_true (List.all_eq_true.1 h1 s h2)
    · rw [if_neg h1] at h
      exact absurd rfl h
theorem get_skip : ∀ (xs ys : List Lab) (n : ByteArray), (∀ p ∈ xs, p.1 ≠ n) → getR (xs ++ ys) n = getR ys n := by
  intro xs
  induction xs with
  | nil => intro ys n _; rfl
  | cons p r ih =>
    intro ys n h
    rw [List.cons_append, getR, if_neg (h p (by simp)), ih ys n (fun q hq => h q (by simp [hq]))]
theorem rest_ne {ls : List Lab} {name : ByteArray} : ∀ p ∈ someR ls [name] false, p.1 ≠ name := by
  intro p hp e
  unfold someR at hp
  have := (List.mem_filter.1 hp).2
  simp [inB, e] at this
theorem withR_len (ls : List Lab) (name value : ByteArray) : (withR ls name value).length ≤ ls.length + 1 := by
  have h := someR_len ls [name] false
  unfold withR
  split
  · omega
  · have h2 : ((someR ls [name] false).takeWhile (fun p => leB p.1 name)).length + ((someR ls [name] false).dropWhile (fun p => leB p.1 name)).length = (someR ls [name] false).length := by
      rw [← List.length_append, List.takeWhile_append_dropWhile]
    simp only [List.length_append, List.length_cons, List.length_nil]
    omega
theorem get_with (ls : List Lab) (name value : ByteArray) : getR (withR ls name value) name = value := by
  unfold withR
  split
  · rename_i h
    have := get_skip (someR ls [name] false) [] name rest_ne
    rw [List.append_nil] at this
    rw [this, h]
    rfl
  · rw [List.append_assoc, get_skip _ _ _ (fun p hp => rest_ne p ((List.takeWhile_sublist _).subset hp)), List.singleton_append, getR, if_pos rfl]
theorem strip_bad {Q : List Smp} {k : Nat} {ls : List Lab} {T U : Int} {value : ByteArray} (hs : comR rpB Q ≠ noB) (h2 : 2 ≤ Q.length) (hk : Q[k]? = some (ls, T, U)) (hv : value ≠ comR rpB Q) :
    splitR (Q.set k (withR ls rpB value, T, U)) = (noB, noB, [], 160) := by
  have hall := com_all rpB Q hs
  have hkl := (List.getElem?_eq_some_iff.1 hk).1
  obtain ⟨j, hj, hjk⟩ : ∃ j, j < Q.length ∧ k ≠ j := by
    by_cases h0 : k = 0
    · exact ⟨1, by omega, by omega⟩
    · exact ⟨0, by omega, by omega⟩
  have ej : (Q.set k (withR ls rpB value, T, U))[j]? = some Q[j] := by rw [List.getElem?_set_ne hjk, List.getElem?_eq_getElem hj]
  have ek : (Q.set k (withR ls rpB value, T, U))[k]? = some (withR ls rpB value, T, U) := List.getElem?_set_self hkl
  have mj := List.mem_of_getElem? ej
  have mk := List.mem_of_getElem? ek
  have gj : getR Q[j].1 rpB = comR rpB Q := hall _ (List.getElem_mem hj)
  have hsome : someB rpB (Q.set k (withR ls rpB value, T, U)) = true := by
    unfold someB
    rw [List.any_eq_true]
    exact ⟨Q[j], mj, decide_eq_true (by rw [gj]; exact hs)⟩
  have hcom : comR rpB (Q.set k (withR ls rpB value, T, U)) = noB := by
    rcases Classical.em (comR rpB (Q.set k (withR ls rpB value, T, U)) = noB) with h | h
    · exact h
    · have h1 := com_all rpB _ h _ mj
      have h3 := com_all rpB _ h _ mk
      simp only at h3
      rw [get_with] at h3
      rw [gj] at h1
      exact absurd (h3.trans h1.symm) hv
  unfold splitR
  rw [hsome, if_neg (by simp), if_pos (.inr hcom)]
/-- A sample's labels are set in a copy. -/
theorem own_set1 {w : World} {base g n c k n5 c5 : Nat} {a5 : Option Addr} {Q : List Smp} {raw : List (Sv × Int × Int)} {ls R5 : List Lab} {T U : Int} (h : SmsOwn w base (.slice (some ⟨g, 0, none⟩) n c) Q raw) (hQ : Q[k]? = some (ls, T, U)) (hb : OneIs (w.setCell ⟨g, k * 3, none⟩ (.slice a5 n5 c5)) ((a5, n5, c5), T, U) (R5, T, U)) :
    SmpRd (w.setCell ⟨g, k * 3, none⟩ (.slice a5 n5 c5)) (some ⟨g, 0, none⟩) (raw.set k ((a5, n5, c5), T, U)) (Q.set k (R5, T, U)) := by
  obtain ⟨h1, _, hn⟩ := h.rd
  have hrl := h1.len
  have hkl := (List.getElem?_eq_some_iff.1 hQ).1
  obtain ⟨⟨sv, T0, V0⟩, hx⟩ : ∃ x, raw[k]? = some x := ⟨_, List.getElem?_eq_getElem (by omega)⟩
  have htv := (h.smp k _ _ hx hQ).tv
  simp only at htv
  cases htv
  have hrow := h.row
  rw [hn] at hrow
  have hT := sown_typed hrow
  have f0 := flat_set smpE raw k _ ((a5, n5, c5), T, U) 0 (.slice a5 n5 c5) hx (by decide) rfl
  have o0 := sown_set hrow f0
  refine ⟨SOwn.rd o0, by rw [List.length_set, List.length_set]; exact hrl, fun i r s hr hs => ?_⟩
  by_cases hi : k = i
  · subst hi
    rw [List.getElem?_set_self (by omega)] at hr hs
    cases hr
    cases hs
    exact hb
  · rw [List.getElem?_set_ne hi] at hr hs
    refine ((h.smp i r s hr hs).stay (fun j hj _ => ?_)).rd
    have hne : j ≠ g := Typed.ne hj hT (by decide)
    exact set_other _ hne
theorem Low_any (x : Int) (w : World) : Calls Tryd.prog 28 #[.int .i64 x] w fun e w' => ∃ r, e = .returned (.int .i64 r) ∧ 0 ≤ r ∧ r ≤ 9223372036854775807 ∧ w = w' := by
  have h := and_low x
  have H : Hid (0 ≤ bits .and .i64 x 9223372036854775807 ∧ bits .and .i64 x 9223372036854775807 ≤ 9223372036854775807) := h
  clear h
  go_enter Tryd.func28, Tryd.ntmps28
  go_wp2
  go_ret
  exact ⟨_, rfl, H.out.1, H.out.2, rfl⟩
section
variable {H : Type} {enc : TypeId × Value → H} {W : World}
def SmpS2 (W : World) (q : Sv × Int × Int) : Prop := ∃ ls : List Lab, OneIs W q (ls, q.2) ∧ ls.length ≤ 4398046510976
theorem step47b (fuel : Nat) (cs : List Value) (x : DataW H × List MemPlace) (h : DataW.trod enc Tryd.prog W 0 (fun _ => true) true fuel 47 cs = some x) : ∃ q : Sv × Int × Int, cs = smpE.cells q ∧ ((∀ n ∈ x.1.weights Tryd.prog 47, n ≤ reachBytes) → SmpS2 W q) := by
  obtain ⟨y0, y1, y2, n, rfl, hl, g0, g1, g2⟩ := Go.Deep.trod_struct3 Tryd.underlying47 h
  rw [cells47] at hl
  match cs, hl with
  | [c0, c1, c2], _ =>
    simp only [cells44, cells2, cells45, List.drop, List.take] at g0 g1 g2
    obtain ⟨s1, e1, rfl, _⟩ := DataW.trod_int Tryd.underlying2 g1
    obtain ⟨s2, e2, rfl, _⟩ := DataW.trod_int Tryd.underlying45 g2
    obtain ⟨a0, len0, cap0, e0, hls⟩ := open_cells labE (S := fun _ => True) Tryd.underlying44 cells63 bytes63 step63 g0
    simp only [List.cons.injEq, and_true] at e0 e1 e2
    subst e0; subst e1; subst e2
    refine ⟨((a0, len0, cap0), s1, s2), rfl, fun hw => ?_⟩
    obtain ⟨ls, k1, k2, k3, k4, k5, k6⟩ := hls (fun n hn => hw n (by
      simp only [DataW.weights, Tryd.underlying47]
      simp [DataW.weightsEach, hn]))
    exact ⟨ls, ⟨k1.symm, k2, k3, by simp only [reachBytes] at k4; simp only; omega, rfl⟩, by simp only [reachBytes] at k4; omega⟩
theorem smps_of2 : ∀ (ls : List (Sv × Int × Int)), (∀ q ∈ ls, SmpS2 W q) → ∃ Q : List Smp, ls.length = Q.length ∧ (∀ s ∈ Q, s.1.length ≤ 4398046510976) ∧ ∀ (i : Nat) (r : Sv × Int × Int) (s : Smp), ls[i]? = some r → Q[i]? = some s → OneIs W r s
  | [], _ => ⟨[], rfl, by simp, fun i t r h => by simp at h⟩
  | q :: ls, h => by
    obtain ⟨Q, h1, h3, h2⟩ := smps_of2 ls (fun q hq => h q (List.mem_cons_of_mem _ hq))
    obtain ⟨l, hr, hl⟩ := h q (List.mem_cons_self ..)
    refine ⟨(l, q.2) :: Q, by simp [h1], fun s hs => ?_, fun i t r' ht hr' => ?_⟩
    · rcases List.mem_cons.1 hs with rfl | h4
      · exact hl
      · exact h3 s h4
    · cases i with
      | zero =>
        simp at ht hr'
        subst ht hr'
        exact hr
      | succ i => exact h2 i t r' (by simpa using ht) (by simpa using hr')
theorem open_smps2 {a0 : Option Addr} {len0 cap0 : Nat} {d0 : DataW H} {p0 : List MemPlace} {ts : List TypeId} {ds : List (DataW H)} (h0 : DataW.Trod enc Tryd.prog W 0 (fun _ => true) true 22 (.slice a0 len0 cap0) d0 p0) (hsz : (DataW.weightsEach Tryd.prog ts ds).all (· ≤ reachBytes) = true) {j : Nat} (ht : ts[j]? = some 22) (hd : ds[j]? = some d0) :
    ∃ raw Q, Q.length = len0 ∧ SmpRd W a0 raw Q ∧ Q.length ≤ 3518437208882 ∧ ∀ s ∈ Q, s.1.length ≤ 4398046510976 := by
  obtain ⟨fuel, hf⟩ := h0
  obtain ⟨a, len, cap, e, hls⟩ := open_cells smpE (S := SmpS2 W) Tryd.underlying22 cells47 bytes47 step47b hf
  simp [Value.cells] at e
  obtain ⟨rfl, rfl, rfl⟩ := e
  obtain ⟨ls, k1, k2, k3, k4, k5, k6⟩ := hls (fun n hn => by
    simpa using List.all_eq_true.1 hsz _ (DataW.weights_mem_each ht hd n hn))
  obtain ⟨Q, q1, q3, q2⟩ := smps_of2 ls k6
  exact ⟨ls, Q, by omega, ⟨k2, q1, q2⟩, by simp only [reachBytes] at k4; omega, q3⟩
end
end Go.Proofs.YtecnocdffhmkaaaDoor
