/- The files of a folder: their names, in order. (No program's numbers.) -/
import Derived.Test.YtekejnjaiccnbaaGreatDoorWd
import Derived.Test.YtekejnjaiccnbaaGreatDoorMi
namespace Go.Proofs.YtekejnjaiccnbaaGreatDoor
open Go
set_option linter.unusedVariables false

def bN (l : List UInt8) : ByteArray := ⟨l.toArray⟩
theorem bN_list (l : List UInt8) : (bN l).data.toList = l := rfl
theorem bN_inj {l l' : List UInt8} (h : bN l = bN l') : l = l' := by
  have := congrArg (fun b : ByteArray => b.data.toList) h
  exact this
theorem bN_self (s : ByteArray) : bN s.data.toList = s := rfl
theorem bN_size (l : List UInt8) : (bN l).size = l.length := rfl
def segN (dir : ByteArray) (k : Nat) : ByteArray := bN (dir.data.toList ++ ([47, 115] ++ d8 k))
def cpN (dir : ByteArray) (k : Nat) : ByteArray := bN (dir.data.toList ++ ([47, 99] ++ d8 k))
def newN (dir : ByteArray) : ByteArray := bN (dir.data.toList ++ [47, 110, 101, 119])
def inN (dir : ByteArray) : ByteArray := bN (dir.data.toList ++ [47])
theorem pre_lt {a b : List UInt8} (p : List UInt8) (h : a < b) : p ++ a < p ++ b := by
  induction p with
  | nil => exact h
  | cons x p ih => rw [List.cons_append, List.cons_append, List.cons_lt_cons_iff]; exact .inr ⟨rfl, ih⟩
theorem seg_lt (dir : ByteArray) {k j : Nat} (hj : j < 100000000) (h : k < j) : (segN dir k).data.toList < (segN dir j).data.toList := pre_lt _ (pre_lt _ (d8_lt hj h))
theorem cp_lt (dir : ByteArray) {k j : Nat} (hj : j < 100000000) (h : k < j) : (cpN dir k).data.toList < (cpN dir j).data.toList := pre_lt _ (pre_lt _ (d8_lt hj h))
theorem cp_new_lt (dir : ByteArray) (k : Nat) : (cpN dir k).data.toList < (newN dir).data.toList := by
  refine pre_lt _ ?_
  rw [show ([47, 99] ++ d8 k : List UInt8) = 47 :: 99 :: d8 k from rfl, List.cons_lt_cons_iff, List.cons_lt_cons_iff]
  exact .inr ⟨rfl, .inl (by decide)⟩
theorem cp_seg_lt (dir : ByteArray) (k j : Nat) : (cpN dir k).data.toList < (segN dir j).data.toList := by
  refine pre_lt _ ?_
  rw [show ([47, 99] ++ d8 k : List UInt8) = 47 :: 99 :: d8 k from rfl, show ([47, 115] ++ d8 j : List UInt8) = 47 :: 115 :: d8 j from rfl, List.cons_lt_cons_iff, List.cons_lt_cons_iff]
  exact .inr ⟨rfl, .inl (by decide)⟩
theorem new_seg_lt (dir : ByteArray) (j : Nat) : (newN dir).data.toList < (segN dir j).data.toList := by
  refine pre_lt _ ?_
  rw [show ([47, 115] ++ d8 j : List UInt8) = 47 :: 115 :: d8 j from rfl, List.cons_lt_cons_iff, List.cons_lt_cons_iff]
  exact .inr ⟨rfl, .inl (by decide)⟩
theorem ba_ne {x y : ByteArray} (h : x.data.toList < y.data.toList) : x ≠ y := by
  intro e
  subst e
  exact List.lt_irrefl _ h
/-- The names of a folder's files, in order. -/
def namesL (dir : ByteArray) (cps : List Nat) (draft : Bool) (segs : List Nat) : List ByteArray := cps.map (cpN dir) ++ ((if draft = true then [newN dir] else []) ++ segs.map (segN dir))
def Rising (l : List Nat) : Prop := l.Pairwise (· < ·) ∧ ∀ k ∈ l, k < 100000000
theorem rising_map {l : List Nat} (h : Rising l) (f : Nat → ByteArray) (hf : ∀ k j, j < 100000000 → k < j → (f k).data.toList < (f j).data.toList) : (l.map f).Pairwise fun x y => x.data.toList < y.data.toList := by
  rw [List.pairwise_map]
  exact h.1.imp_of_mem (fun {a b} _ hb hab => hf a b (h.2 b hb) hab)
theorem names_lt (dir : ByteArray) {cps segs : List Nat} (draft : Bool) (hc : Rising cps) (hs : Rising segs) : (namesL dir cps draft segs).Pairwise fun x y => x.data.toList < y.data.toList := by
  unfold namesL
  rw [List.pairwise_append, List.pairwise_append]
  refine ⟨rising_map hc _ (fun k j => cp_lt dir), ⟨?_, rising_map hs _ (fun k j => seg_lt dir), ?_⟩, ?_⟩
  · split <;> simp
  · intro a ha b hb
    split at ha
    · simp only [List.mem_singleton] at ha
      obtain ⟨j, _, rfl⟩ := List.mem_map.1 hb
      subst ha
      exact new_seg_lt dir j
    · cases ha
  · intro a ha b hb
    obtain ⟨k, _, rfl⟩ := List.mem_map.1 ha
    rcases List.mem_append.1 hb with hb | hb
    · split at hb
      · simp only [List.mem_singleton] at hb
        subst hb
        exact cp_new_lt dir k
      · cases hb
    · obtain ⟨j, _, rfl⟩ := List.mem_map.1 hb
      exact cp_seg_lt dir k j
/-- The files of a folder are just these. -/
structure Folder (V : Cont) (dir : ByteArray) (cps : List Nat) (draft : Bool) (segs : List Nat) : Prop where
  cpr : Rising cps
  segr : Rising segs
  mem : ∀ s, (V s).isSome = true ∧ Lib.hasPrefix s.data.toList (inN dir).data.toList = true ↔ s ∈ namesL dir cps draft segs
theorem Folder.names {V : Cont} {dir : ByteArray} {cps segs : List Nat} {draft : Bool} (h : Folder V dir cps draft segs) : NamesOf V (inN dir) (namesL dir cps draft segs) := by
  have hl := names_lt dir draft h.cpr h.segr
  refine ⟨?_, hl.imp (fun hab => List.le_of_lt hab), fun s => (h.mem s).symm⟩
  exact hl.imp (fun hab => ba_ne hab)
theorem has_app (p q : List UInt8) : Lib.hasPrefix (p ++ q) p = true := by
  unfold Lib.hasPrefix
  rw [List.isPrefixOf_iff_prefix]
  exact List.prefix_append p q
theorem has_in (dir : ByteArray) (l : List UInt8) : Lib.hasPrefix (dir.data.toList ++ (47 :: l)) (inN dir).data.toList = true := by
  rw [show dir.data.toList ++ (47 :: l) = (inN dir).data.toList ++ l by rw [inN, bN_list]; simp]
  exact has_app _ _
theorem seg_in (dir : ByteArray) (k : Nat) : Lib.hasPrefix (segN dir k).data.toList (inN dir).data.toList = true := has_in dir _
theorem cp_in (dir : ByteArray) (k : Nat) : Lib.hasPrefix (cpN dir k).data.toList (inN dir).data.toList = true := has_in dir _
theorem new_in (dir : ByteArray) : Lib.hasPrefix (newN dir).data.toList (inN dir).data.toList = true := has_in dir _
theorem seg_inj (dir : ByteArray) {k j : Nat} (hk : k < 100000000) (hj : j < 100000000) (h : segN dir k = segN dir j) : k = j := by
  have h1 := bN_inj h
  have h2 := List.append_cancel_left h1
  exact d8_inj hk hj (List.append_cancel_left h2)
theorem cp_inj (dir : ByteArray) {k j : Nat} (hk : k < 100000000) (hj : j < 100000000) (h : cpN dir k = cpN dir j) : k = j := by
  have h1 := bN_inj h
  have h2 := List.append_cancel_left h1
  exact d8_inj hk hj (List.append_cancel_left h2)
theorem cp_ne_seg (dir : ByteArray) (k j : Nat) : cpN dir k ≠ segN dir j := ba_ne (cp_seg_lt dir k j)
theorem cp_ne_new (dir : ByteArray) (k : Nat) : cpN dir k ≠ newN dir := ba_ne (cp_new_lt dir k)
theorem new_ne_seg (dir : ByteArray) (j : Nat) : newN dir ≠ segN dir j := ba_ne (new_seg_lt dir j)
/-- A name that a disk takes, short enough for a folder. -/
def dirB (s : ByteArray) : Bool := nameB s && decide (s.size ≤ 32)
theorem d8_digit (k : Nat) : ∀ b ∈ d8 k, 48 ≤ b.toNat ∧ b.toNat ≤ 57 := by
  intro b hb
  rw [d8, eN_eq] at hb
  obtain ⟨t, _, rfl⟩ := List.mem_map.1 hb
  rw [dgv]
  have : k / 10 ^ (8 - 1 - t) % 10 < 10 := Nat.mod_lt _ (by decide)
  omega
theorem name_app {dir : ByteArray} (h : dirB dir = true) (l : List UInt8) (hl : l.length ≤ 32) (hc : ∀ b ∈ l, nameC (b.toNat : Int) = true) : nameB (bN (dir.data.toList ++ l)) = true := by
  simp only [dirB, nameB, Bool.and_eq_true, decide_eq_true_eq, List.all_eq_true] at h
  obtain ⟨⟨⟨h1, h2⟩, h3⟩, h4⟩ := h
  have e : dir.data.toList.length = dir.size := Array.length_toList
  simp only [nameB, Bool.and_eq_true, decide_eq_true_eq, List.all_eq_true]
  rw [bN_size, List.length_append, e]
  refine ⟨⟨by omega, by omega⟩, fun z hz => ?_⟩
  simp only [sInts, bN_list, List.map_append, List.mem_append] at hz
  rcases hz with hz | hz
  · exact h3 z hz
  · obtain ⟨b, hb, rfl⟩ := List.mem_map.1 hz
    exact hc b hb
theorem name_digits (k : Nat) : ∀ b ∈ d8 k, nameC (b.toNat : Int) = true := by
  intro b hb
  have := d8_digit k b hb
  simp only [nameC, Bool.or_eq_true, Bool.and_eq_true, decide_eq_true_eq]
  omega
theorem seg_name {dir : ByteArray} (h : dirB dir = true) (k : Nat) : nameB (segN dir k) = true := by
  refine name_app h _ (by rw [List.length_append, d8_len]; decide) (fun b hb => ?_)
  rcases List.mem_append.1 hb with hb | hb
  · simp only [List.mem_cons, List.not_mem_nil, or_false] at hb
    rcases hb with rfl | rfl <;> decide
  · exact name_digits k b hb
theorem cp_name {dir : ByteArray} (h : dirB dir = true) (k : Nat) : nameB (cpN dir k) = true := by
  refine name_app h _ (by rw [List.length_append, d8_len]; decide) (fun b hb => ?_)
  rcases List.mem_append.1 hb with hb | hb
  · simp only [List.mem_cons, List.not_mem_nil, or_false] at hb
    rcases hb with rfl | rfl <;> decide
  · exact name_digits k b hb
theorem new_name {dir : ByteArray} (h : dirB dir = true) : nameB (newN dir) = true := by
  refine name_app h _ (by decide) (fun b hb => ?_)
  simp only [List.mem_cons, List.not_mem_nil, or_false] at hb
  rcases hb with rfl | rfl | rfl | rfl <;> decide
end Go.Proofs.YtekejnjaiccnbaaGreatDoor
