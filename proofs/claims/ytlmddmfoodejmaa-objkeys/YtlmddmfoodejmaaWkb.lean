/- ObjKeys: what the loops come to. (No program's numbers.) -/
import Derived.Test.YtlmddmfoodejmaaWka
namespace Go.Proofs.Ytlmddmfoodejmaa
open Go.RowKit Go.Maps
set_option linter.unusedVariables false
set_option maxRecDepth 20000

/-- The store behind the first puts. -/
def stO (ks : List ByteArray) (zs : List Int) : Nat → Objs
  | 0 => O0
  | i + 1 => match ks[i]? with
    | some s => if keyB s = true then setO (stO ks zs i) s (some (genO (stO ks zs i s) + 1, zs ++ [((i : Nat) : Int) % 256])) else stO ks zs i
    | none => stO ks zs i
open Classical in
/-- The list of the keys that were put. -/
noncomputable def stT (ks : List ByteArray) : Nat → List ByteArray
  | 0 => []
  | i + 1 => match ks[i]? with
    | some s => if keyB s = true ∧ ¬ s ∈ stT ks i then stT ks i ++ [s] else stT ks i
    | none => stT ks i
/-- Where a text stands last. -/
def lastN (ks : List ByteArray) (s : ByteArray) : Nat → Nat
  | 0 => 0
  | i + 1 => if ks[i]? = some s then i else lastN ks s i
theorem stO_yes {ks : List ByteArray} {zs : List Int} {i : Nat} {s : ByteArray} (hs : ks[i]? = some s) (hk : keyB s = true) : stO ks zs (i + 1) = setO (stO ks zs i) s (some (genO (stO ks zs i s) + 1, zs ++ [((i : Nat) : Int) % 256])) := by
  rw [stO, hs]
  exact if_pos hk
theorem stO_no {ks : List ByteArray} {zs : List Int} {i : Nat} {s : ByteArray} (hs : ks[i]? = some s) (hk : keyB s = false) : stO ks zs (i + 1) = stO ks zs i := by
  rw [stO, hs]
  exact if_neg (by rw [hk]; simp)
theorem stT_new {ks : List ByteArray} {i : Nat} {s : ByteArray} (hs : ks[i]? = some s) (hk : keyB s = true) (hn : ¬ s ∈ stT ks i) : stT ks (i + 1) = stT ks i ++ [s] := by
  rw [stT, hs]
  exact if_pos ⟨hk, hn⟩
theorem stT_old {ks : List ByteArray} {i : Nat} {s : ByteArray} (hs : ks[i]? = some s) (h : keyB s = false ∨ s ∈ stT ks i) : stT ks (i + 1) = stT ks i := by
  rw [stT, hs]
  refine if_neg ?_
  rintro ⟨h1, h2⟩
  rcases h with h | h
  · rw [h] at h1; cases h1
  · exact h2 h
theorem lastN_yes {ks : List ByteArray} {s : ByteArray} {i : Nat} (h : ks[i]? = some s) : lastN ks s (i + 1) = i := by rw [lastN, if_pos h]
theorem lastN_no {ks : List ByteArray} {s : ByteArray} {i : Nat} (h : ks[i]? ≠ some s) : lastN ks s (i + 1) = lastN ks s i := by rw [lastN, if_neg h]
theorem lastN_le (ks : List ByteArray) (s : ByteArray) : ∀ i, lastN ks s i ≤ i
  | 0 => Nat.le_refl _
  | i + 1 => by
    rw [lastN]
    split
    · omega
    · have := lastN_le ks s i; omega
/-- What holds of them all along. -/
structure KeysOk (ks : List ByteArray) (zs : List Int) (i : Nat) : Prop where
  nodup : (stT ks i).Nodup
  mem : ∀ s, s ∈ stT ks i ↔ (stO ks zs i s).isSome = true
  len : (stT ks i).length ≤ i
  gen : ∀ s, genO (stO ks zs i s) ≤ i
  key : ∀ s, (stO ks zs i s).isSome = true → keyB s = true
  data : ∀ s q, stO ks zs i s = some q → 1 ≤ q.1 ∧ q.2 = zs ++ [((lastN ks s i : Nat) : Int) % 256]
theorem keysOk (ks : List ByteArray) (zs : List Int) : ∀ i, i ≤ ks.length → KeysOk ks zs i
  | 0, _ => ⟨List.nodup_nil, fun s => by simp [stT, stO, O0], Nat.le_refl _, fun s => by simp [stO, O0, genO], fun s h => by simp [stO, O0] at h, fun s q h => by simp [stO, O0] at h⟩
  | i + 1, hi => by
    have ih := keysOk ks zs i (by omega)
    obtain ⟨s, hs⟩ : ∃ s, ks[i]? = some s := ⟨_, List.getElem?_eq_getElem (by omega)⟩
    cases hk : keyB s with
    | false =>
      have hT := stT_old hs (.inl hk)
      have hO := stO_no (zs := zs) hs hk
      refine ⟨by rw [hT]; exact ih.nodup, fun t => by rw [hT, hO]; exact ih.mem t, by rw [hT]; have := ih.len; omega, fun t => by rw [hO]; have := ih.gen t; omega, fun t h => ih.key t (by rw [hO] at h; exact h), fun t q h => ?_⟩
      rw [hO] at h
      have hne : ks[i]? ≠ some t := fun e => by
        rw [hs] at e
        have e' : s = t := Option.some.inj e
        subst e'
        have := ih.key s (by rw [h]; rfl)
        rw [hk] at this
        cases this
      rw [lastN_no hne]
      exact ih.data t q h
    | true =>
      have hO := stO_yes (zs := zs) hs hk
      have hmemO : ∀ t, (stO ks zs (i + 1) t).isSome = true ↔ t = s ∨ (stO ks zs i t).isSome = true := fun t => by
        rw [hO]
        by_cases e : t = s
        · subst e; rw [setO_same]; simp
        · rw [setO_other _ _ e]; simp [e]
      have hdata : ∀ t q, stO ks zs (i + 1) t = some q → 1 ≤ q.1 ∧ q.2 = zs ++ [((lastN ks t (i + 1) : Nat) : Int) % 256] := fun t q h => by
        rw [hO] at h
        by_cases e : t = s
        · subst e
          rw [setO_same] at h
          have hq := Option.some.inj h
          rw [lastN_yes hs, ← hq]
          exact ⟨by show 1 ≤ genO _ + 1; omega, rfl⟩
        · rw [setO_other _ _ e] at h
          rw [lastN_no (fun e' => by rw [hs] at e'; exact e (Option.some.inj e').symm)]
          exact ih.data t q h
      have hgen : ∀ t, genO (stO ks zs (i + 1) t) ≤ i + 1 := fun t => by
        rw [hO]
        by_cases e : t = s
        · subst e; rw [setO_same]; show genO (stO ks zs i t) + 1 ≤ i + 1; have := ih.gen t; omega
        · rw [setO_other _ _ e]; have := ih.gen t; omega
      have hkey : ∀ t, (stO ks zs (i + 1) t).isSome = true → keyB t = true := fun t h => by
        rcases (hmemO t).1 h with rfl | h
        · exact hk
        · exact ih.key t h
      by_cases hin : s ∈ stT ks i
      · have hT := stT_old hs (.inr hin)
        refine ⟨by rw [hT]; exact ih.nodup, fun t => ?_, by rw [hT]; have := ih.len; omega, hgen, hkey, hdata⟩
        rw [hT, hmemO t, ih.mem t]
        constructor
        · exact fun h => .inr h
        · rintro (rfl | h)
          · exact (ih.mem t).1 hin
          · exact h
      · have hT := stT_new hs hk hin
        refine ⟨?_, fun t => ?_, by rw [hT, List.length_append]; have := ih.len; simp; omega, hgen, hkey, hdata⟩
        · rw [hT, List.nodup_append]
          refine ⟨ih.nodup, by simp, fun a ha b hb => ?_⟩
          rw [List.mem_singleton] at hb
          subst hb
          intro e
          subst e
          exact hin ha
        · rw [hT, hmemO t, List.mem_append, List.mem_singleton, ih.mem t]
          exact Or.comm
theorem stO_ok {ks : List ByteArray} {zs : List Int} {i : Nat} (h : KeysOk ks zs i) (hi : i ≤ 50) (hz : zs.length ≤ 1000) : ∀ k, (stO ks zs i k).isSome = true → keyB k = true ∧ OkO (stO ks zs i k) := fun k hk => by
  refine ⟨h.key k hk, ?_⟩
  cases hq : stO ks zs i k with
  | none => trivial
  | some q =>
    obtain ⟨h1, h2⟩ := h.data k q hq
    have h3 := h.gen k
    rw [hq] at h3
    have h3' : q.1 ≤ i := h3
    exact ⟨h1, by omega, by rw [h2, List.length_append]; simp; omega⟩
/-- Of a list: those that begin so, and how many. -/
def cntP (p : ByteArray) (T : List ByteArray) : Nat := (T.filter fun t => Lib.hasPrefix t.data.toList p.data.toList).length
theorem cntP_next (p : ByteArray) {T : List ByteArray} {i : Nat} {t : ByteArray} (h : T[i]? = some t) : cntP p (T.take (i + 1)) = cntP p (T.take i) + if Lib.hasPrefix t.data.toList p.data.toList = true then 1 else 0 := by
  unfold cntP
  rw [List.take_add_one, h]
  simp only [Option.toList_some, List.filter_append, List.length_append]
  congr 1
  by_cases hp : Lib.hasPrefix t.data.toList p.data.toList = true
  · simp [List.filter, hp]
  · simp [List.filter, hp]
theorem cntP_le (p : ByteArray) (T : List ByteArray) : cntP p T ≤ T.length := List.length_filter_le _ _
theorem nodup_len {α : Type} : ∀ (l1 l2 : List α), l1.Nodup → (∀ x ∈ l1, x ∈ l2) → l1.length ≤ l2.length
  | [], l2, _, _ => Nat.zero_le _
  | x :: r, l2, hn, h => by
    obtain ⟨a, b, rfl⟩ := List.append_of_mem (h x List.mem_cons_self)
    rw [List.nodup_cons] at hn
    have := nodup_len r (a ++ b) hn.2 (fun y hy => by
      have h1 := h y (List.mem_cons_of_mem _ hy)
      rw [List.mem_append, List.mem_cons] at h1
      rw [List.mem_append]
      rcases h1 with h1 | h1 | h1
      · exact .inl h1
      · subst h1; exact absurd hy hn.1
      · exact .inr h1)
    rw [List.length_append] at this
    rw [List.length_cons, List.length_append, List.length_cons]
    omega
/-- The keys that List tells are as many as those of the list that begin so. -/
theorem cnt_all {ks : List ByteArray} {zs : List Int} {i : Nat} (h : KeysOk ks zs i) {p : ByteArray} {all : List ByteArray} (ha : KeysOf (stO ks zs i) p all) : cntP p (stT ks i) = all.length := by
  unfold cntP
  have hnd : ((stT ks i).filter fun t => Lib.hasPrefix t.data.toList p.data.toList).Nodup := List.Nodup.sublist List.filter_sublist h.nodup
  have hm : ∀ t, t ∈ (stT ks i).filter (fun t => Lib.hasPrefix t.data.toList p.data.toList) ↔ t ∈ all := fun t => by
    rw [List.mem_filter, h.mem t, ha.2.2 t]
  refine Nat.le_antisymm ?_ ?_
  · exact nodup_len _ _ hnd (fun t ht => (hm t).1 ht)
  · exact nodup_len _ _ ha.1 (fun t ht => (hm t).2 ht)
theorem lt_of_keys {O : Objs} {p : ByteArray} {all : List ByteArray} (h : KeysOf O p all) {i : Nat} {s t : ByteArray} (hi : 1 ≤ i) (hs : all[i]? = some s) (ht : all[i - 1]? = some t) : t.data.toList < s.data.toList := by
  obtain ⟨h1, e1⟩ := List.getElem?_eq_some_iff.1 hs
  obtain ⟨h2, e2⟩ := List.getElem?_eq_some_iff.1 ht
  have hle : t.data.toList ≤ s.data.toList := by
    have := List.pairwise_iff_getElem.1 h.2.1 (i - 1) i h2 h1 (by omega)
    rw [e1, e2] at this
    exact this
  have hne : t ≠ s := by
    have := List.pairwise_iff_getElem.1 h.1 (i - 1) i h2 h1 (by omega)
    rw [e1, e2] at this
    exact this
  by_cases hlt : t.data.toList < s.data.toList
  · exact hlt
  · have e := List.le_antisymm hle hlt
    exact absurd (by rw [← bN_self t, e, bN_self]) hne
theorem ext_list (t p : ByteArray) : (t.extract 0 ((p.size : Nat) : Int).toNat).data.toList = t.data.toList.take p.size := by
  rw [Int.toNat_natCast, ByteArray.data_extract, Array.toList_extract, List.extract_eq_take_drop]
  simp
theorem ext_pre (t p : ByteArray) (hs : p.size ≤ t.size) (h : Lib.hasPrefix t.data.toList p.data.toList = true) : t.extract 0 ((p.size : Nat) : Int).toNat = p := by
  unfold Lib.hasPrefix at h
  have h2 := List.prefix_iff_eq_take.1 (List.isPrefixOf_iff_prefix.1 h)
  have h3 : p.data.toList.length = p.size := Array.length_toList
  rw [h3] at h2
  rw [← bN_self (t.extract 0 ((p.size : Nat) : Int).toNat), ext_list, ← h2, bN_self]
theorem pre_ext (t p : ByteArray) (hs : p.size ≤ t.size) (h : t.extract 0 ((p.size : Nat) : Int).toNat = p) : Lib.hasPrefix t.data.toList p.data.toList = true := by
  have h3 : p.data.toList.length = p.size := Array.length_toList
  unfold Lib.hasPrefix
  rw [List.isPrefixOf_iff_prefix, List.prefix_iff_eq_take, h3, ← ext_list t p, h]
theorem rd_lt {w : World} {ad : Addr} {zs : List Int} (h : Rd w (some ad) zs) (hn : zs ≠ []) : ad.block < w.heap.size := by
  obtain ⟨b, off, e, hc⟩ := h.at (List.length_pos_iff.2 hn)
  cases e
  exact World.block_lt_of_cell? w _ (hc 0 (List.length_pos_iff.2 hn))
end Go.Proofs.Ytlmddmfoodejmaa
