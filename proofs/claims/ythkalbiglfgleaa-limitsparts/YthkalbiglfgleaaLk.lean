/- LimitsParts: its maths; parts of samples; a sample written into a copy. -/
import Derived.Test.YthkalbiglfgleaaLj
namespace Go.Proofs.Ythkalbiglfgleaa
open Go.RowKit
set_option linter.unusedVariables false
set_option maxRecDepth 20000

theorem firstW_ok {m : Int} : ∀ {Q : List Smp} {k : Nat} {A : Int}, firstW m Q k = (A, 0) → ∀ q ∈ Q, wrongR m q.1 q.2.1 = 0
  | [], _, _, _, q, hq => by simp at hq
  | x :: r, k, A, h, q, hq => by
    unfold firstW at h
    by_cases hw : wrongR m x.1 x.2.1 = 0
    · rw [if_neg (by simpa using hw)] at h
      rcases List.mem_cons.1 hq with rfl | hq
      · exact hw
      · exact firstW_ok h q hq
    · rw [if_pos hw] at h
      exact absurd (congrArg Prod.snd h) hw
theorem firstW_all {m : Int} : ∀ {Q : List Smp} {k : Nat}, (∀ q ∈ Q, wrongR m q.1 q.2.1 = 0) → firstW m Q k = (0, 0)
  | [], _, _ => rfl
  | x :: r, k, h => by
    unfold firstW
    rw [if_neg (by simpa using h x (List.mem_cons_self ..))]
    exact firstW_all (fun q hq => h q (List.mem_cons_of_mem _ hq))
theorem firstW_set {m : Int} {b : Smp} : ∀ {Q : List Smp} {k j : Nat}, (∀ q ∈ Q, wrongR m q.1 q.2.1 = 0) → k < Q.length → firstW m (Q.set k b) j = if wrongR m b.1 b.2.1 = 0 then (0, 0) else (((j + k : Nat) : Int), wrongR m b.1 b.2.1)
  | [], k, j, _, hk => by simp at hk
  | x :: r, 0, j, h, _ => by
    rw [List.set_cons_zero]
    unfold firstW
    by_cases hw : wrongR m b.1 b.2.1 = 0
    · rw [if_neg (by simpa using hw), if_pos hw]
      exact firstW_all (fun q hq => h q (List.mem_cons_of_mem _ hq))
    · rw [if_pos hw, if_neg hw]
      rfl
  | x :: r, k + 1, j, h, hk => by
    rw [List.set_cons_succ]
    unfold firstW
    rw [if_neg (by simpa using h x (List.mem_cons_self ..)), firstW_set (fun q hq => h q (List.mem_cons_of_mem _ hq)) (by simpa using hk)]
    rw [show j + 1 + k = j + (k + 1) by omega]
/-- What the law says of the answers. -/
theorem parts_maths {s : ByteArray} {Q : List Smp} {m P A : Int} {b : Smp} {k : Nat} (h : checkL s Q m P = (A, 0)) :
    0 < Q.length ∧ (k < Q.length → checkL s (Q.take (k + 1)) m P = (0, 0) ∧ checkL s (Q.drop k) m P = (0, 0) ∧ checkL s [b] m P = (0, wrongR m b.1 b.2.1) ∧ checkL s (Q.set k b) m P = if wrongR m b.1 b.2.1 = 0 then (0, 0) else ((k : Int), wrongR m b.1 b.2.1)) := by
  unfold checkL at h
  by_cases ht : tenR s = false
  · rw [if_pos ht] at h
    exact absurd (congrArg Prod.snd h) (by simp)
  · rw [if_neg ht] at h
    by_cases hl : Q.length < 1 ∨ min P 256 < (Q.length : Int)
    · rw [if_pos hl] at h
      exact absurd (congrArg Prod.snd h) (by simp)
    · rw [if_neg hl] at h
      have hall := firstW_ok h
      refine ⟨by omega, fun hk => ⟨?_, ?_, ?_, ?_⟩⟩
      · unfold checkL
        rw [if_neg ht, if_neg (by rw [List.length_take]; omega)]
        exact firstW_all (fun q hq => hall q (List.mem_of_mem_take hq))
      · unfold checkL
        rw [if_neg ht, if_neg (by rw [List.length_drop]; omega)]
        exact firstW_all (fun q hq => hall q (List.mem_of_mem_drop hq))
      · unfold checkL
        rw [if_neg ht, if_neg (by simp only [List.length_cons, List.length_nil]; omega)]
        have := firstW_set (m := m) (b := b) (Q := [b]) (k := 0) (j := 0)
        unfold firstW
        by_cases hw : wrongR m b.1 b.2.1 = 0
        · rw [if_neg (by simpa using hw), hw]; rfl
        · rw [if_pos hw]; rfl
      · unfold checkL
        rw [if_neg ht, if_neg (by rw [List.length_set]; omega), firstW_set hall hk, Nat.zero_add]

theorem elem22 : Try.prog.elem 22 = 37 := by simp [Program.elem, Try.underlying22]
theorem sz37 (w : World) : (sizeOf 37).run Try.prog w = .ok 3 w := by
  obtain ⟨i0, hi, _, hz1, _⟩ := info_parts info37
  simp [sizeOf, typeInfo, hi, hz1]
theorem shead {b off : Nat} {raw : List (Sv × Int × Int)} {Q : List Smp} {w : World} (n c k : Nat) (hq : SmpRd w (some ⟨b, off, none⟩) raw Q) (hl : Q.length = n) (hk : k ≤ n) (hc : n ≤ c) :
    ∃ v, (∀ w, (Instr.slice 22 (.slice (some ⟨b, off, none⟩) n c) none (some (.int .i64 (k : Int))) none).run Try.prog w = .ok (.slice v k c) w) ∧ SmpRd w v (raw.take k) (Q.take k) := by
  refine ⟨if c = 0 then some ⟨b, off, none⟩ else (some (⟨b, off, none⟩ : Addr)).map (·.add (0 * 3)), fun w => ?_, ?_⟩
  · rw [run_slice_h w 22 _ n c (by rw [elem22]; exact Try.underlying22) .i64 (k : Int) (by omega) (by omega), elem22, sz37]
    simp [Result.andThen, sliced]
  · refine ⟨?_, by simp [hq.len], fun i r s hr hs => ?_⟩
    · by_cases h0 : c = 0
      · obtain rfl : k = 0 := by omega
        simp only [List.take_zero]
        exact SRd.nil _ _
      · rw [if_neg h0]
        rcases hq.rd with rfl | ⟨b', off', e, h⟩
        · simp only [List.take_nil]; exact SRd.nil _ _
        · refine .inr ⟨b', off', by rw [e]; rfl, fun j v hj => h j v ?_⟩
          rw [smpE.flat_take, List.getElem?_take] at hj
          split at hj
          · exact hj
          · simp at hj
    · rw [List.getElem?_take] at hr hs
      split at hr
      · rename_i hik
        rw [if_pos hik] at hs
        exact hq.smp i r s hr hs
      · simp at hr
theorem stail {b off : Nat} {raw : List (Sv × Int × Int)} {Q : List Smp} {w : World} (n c k : Nat) (hq : SmpRd w (some ⟨b, off, none⟩) raw Q) (hl : Q.length = n) (hk : k ≤ n) (hc : n ≤ c) :
    ∃ v, (∀ w, (Instr.slice 22 (.slice (some ⟨b, off, none⟩) n c) (some (.int .i64 (k : Int))) none none).run Try.prog w = .ok (.slice v (n - k) (c - k)) w) ∧ SmpRd w v (raw.drop k) (Q.drop k) := by
  refine ⟨if c = k then some ⟨b, off, none⟩ else (some (⟨b, off, none⟩ : Addr)).map (·.add (k * 3)), fun w => ?_, ?_⟩
  · rw [run_slice_l w 22 _ n c (by rw [elem22]; exact Try.underlying22) .i64 (k : Int) (by omega) (by omega), elem22, sz37]
    simp [Result.andThen, sliced]
  · refine ⟨?_, by simp [hq.len], fun i r s hr hs => ?_⟩
    · by_cases h0 : c = k
      · rw [List.drop_eq_nil_of_le (by rw [hq.len]; omega)]
        exact SRd.nil _ _
      · rw [if_neg h0]
        rcases hq.rd with rfl | ⟨b', off', e, h⟩
        · simp only [List.drop_nil]; exact SRd.nil _ _
        · refine .inr ⟨b', off' + k * 3, ?_, fun j v hj => ?_⟩
          · rw [e]
            by_cases h1 : k = 0
            · subst h1; rfl
            · have : ¬ k * 3 = 0 := by omega
              simp [Addr.add, this]
          · rw [Nat.add_assoc]
            refine h _ v ?_
            have hrl := hq.len
            have e1 : smpE.flat raw = smpE.flat (raw.take k) ++ smpE.flat (raw.drop k) := by rw [← smpE.flat_app, List.take_append_drop]
            have e2 : (smpE.flat (raw.take k)).length = k * 3 := by
              rw [smpE.flat_len, List.length_take]
              show min k raw.length * 3 = k * 3
              rw [Nat.min_eq_left (by omega)]
            rw [e1, List.getElem?_append_right (by omega), e2, show k * 3 + j - k * 3 = j by omega]
            exact hj
    · rw [List.getElem?_drop] at hr hs
      exact hq.smp _ r s hr hs
abbrev sput3 (w : World) (g k : Nat) (la : Option Addr) (n lc : Nat) (T V : Int) : World := ((w.setCell ⟨g, k * 3, none⟩ (.slice la n lc)).setCell ⟨g, k * 3 + 1, none⟩ (.int .i64 T)).setCell ⟨g, k * 3 + 2, none⟩ (.int .u64 V)
/-- A sample is written into a copy. -/
theorem own_set {w : World} {base g n c k lc : Nat} {la : Option Addr} {Q : List Smp} {raw : List (Sv × Int × Int)} {ls : List Lab} {T V : Int} (h : SmsOwn w base (.slice (some ⟨g, 0, none⟩) n c) Q raw) (hk : k < Q.length) (hb : OneIs (sput3 w g k la ls.length lc T V) ((la, ls.length, lc), T, V) (ls, T, V)) :
    SmpRd (sput3 w g k la ls.length lc T V) (some ⟨g, 0, none⟩) (raw.set k ((la, ls.length, lc), T, V)) (Q.set k (ls, T, V)) := by
  obtain ⟨h1, _, hn⟩ := h.rd
  have hrl := h1.len
  obtain ⟨⟨sv, T0, V0⟩, hx⟩ : ∃ x, raw[k]? = some x := ⟨_, List.getElem?_eq_getElem (by omega)⟩
  have hrow := h.row
  rw [hn] at hrow
  have hT := sown_typed hrow
  have f0 := flat_set smpE raw k _ ((la, ls.length, lc), T0, V0) 0 (.slice la ls.length lc) hx (by decide) rfl
  have o0 := sown_set hrow f0
  have f1 := flat_set smpE (raw.set k ((la, ls.length, lc), T0, V0)) k ((la, ls.length, lc), T0, V0) ((la, ls.length, lc), T, V0) 1 (.int .i64 T) (by rw [List.getElem?_set_self (by omega)]) (by decide) rfl
  have o1 := sown_set o0 f1
  have f2 := flat_set smpE ((raw.set k ((la, ls.length, lc), T0, V0)).set k ((la, ls.length, lc), T, V0)) k ((la, ls.length, lc), T, V0) ((la, ls.length, lc), T, V) 2 (.int .u64 V) (by rw [List.getElem?_set_self (by rw [List.length_set]; omega)]) (by decide) rfl
  have o2 := sown_set o1 f2
  rw [List.set_set, List.set_set] at o2
  refine ⟨SOwn.rd o2, by rw [List.length_set, List.length_set]; exact hrl, fun i r s hr hs => ?_⟩
  by_cases hi : k = i
  · subst hi
    rw [List.getElem?_set_self (by omega)] at hr hs
    cases hr
    cases hs
    exact hb
  · rw [List.getElem?_set_ne hi] at hr hs
    refine ((h.smp i r s hr hs).stay (fun j hj _ => ?_)).rd
    have hne : j ≠ g := Typed.ne hj hT (by decide)
    show (sput3 w g k la ls.length lc T V).heap[j]? = _
    rw [set_other _ hne, set_other _ hne, set_other _ hne]
end Go.Proofs.Ythkalbiglfgleaa
