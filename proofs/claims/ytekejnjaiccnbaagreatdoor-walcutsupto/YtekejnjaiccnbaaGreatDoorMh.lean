/- Several texts in one: Dk19, Dk20. -/
import Derived.Test.YtekejnjaiccnbaaGreatDoorMg
import Derived.Test.YtekejnjaiccnbaaGreatDoorShelf
import Derived.Sort.OwnSorted
/- Package disk: List of any disk. -/
namespace Go.Proofs.YtekejnjaiccnbaaGreatDoor
open Go.RowKit Go.Maps
set_option linter.unusedVariables false
set_option maxRecDepth 20000

/-- Texts in order. -/
def srt (l : List ByteArray) : List ByteArray := ((l.map fun s => s.data.toList).mergeSort fun x y => decide (x ≤ y)).map fun b => ⟨b.toArray⟩
theorem strE_flat (l : List ByteArray) : strE.flat l = (l.map fun s => s.data.toList).map Go.Proofs.encStr := by
  induction l with
  | nil => rfl
  | cons s l ih =>
    have h : strE.flat (s :: l) = .string s :: strE.flat l := rfl
    rw [h, ih]
    rfl
theorem srt_flat (l : List ByteArray) : strE.flat (srt l) = ((l.map fun s => s.data.toList).mergeSort fun x y => decide (x ≤ y)).map Go.Proofs.encStr := by
  rw [strE_flat]
  unfold srt
  rw [List.map_map, List.map_map]
  rfl
theorem srt_len (l : List ByteArray) : (srt l).length = l.length := by
  unfold srt
  simp
theorem srt_mem (l : List ByteArray) (s : ByteArray) : s ∈ srt l ↔ s ∈ l := by
  unfold srt
  rw [List.mem_map]
  constructor
  · rintro ⟨b, hb, rfl⟩
    rw [List.mem_mergeSort, List.mem_map] at hb
    obtain ⟨t, ht, rfl⟩ := hb
    simpa using ht
  · intro h
    exact ⟨s.data.toList, by rw [List.mem_mergeSort]; exact List.mem_map.2 ⟨s, h, rfl⟩, by simp⟩
theorem d_sortAny (base n : Nat) (v : Value) (l : List ByteArray) (w : World) (h : SOwn strE 9 w base v n l) (hn : n < 4611686018427387904) :
    Calls Tryz.prog 64 #[v] w fun e w' => e = .returned (.tuple #[]) ∧ SOwn strE 9 w' base v n (srt l) ∧ w.grownBy w' v.ownBlock := by
  have hl := h.len
  unfold SOwn at h
  rw [strE_flat] at h
  rcases id h.2 with ⟨rfl, h0⟩ | ⟨g, cap, cur, rfl, hbase, hb, h1, h2, h3, h4⟩
  · subst h0
    obtain rfl : l = [] := List.eq_nil_of_length_eq_zero hl
    refine (Tryz.slices_Sort_string_none none 0 w).mono ?_
    rintro e w' ⟨rfl, rfl⟩
    refine ⟨rfl, ?_, World.grownBy.refl _ _⟩
    rw [show srt [] = [] from List.eq_nil_of_length_eq_zero (srt_len [])]
    exact SOwn.nil 9 _ _
  · subst hl
    have hH := holds_of_block (ss := l.map fun s => s.data.toList) hb (by rw [List.length_map]; rw [show l.length * strE.size = l.length from Nat.mul_one _] at h4; exact h4)
    have := Tryz.slices_Sort_string g 0 cap (l.map fun s => s.data.toList) w hH (Array.getElem?_eq_some_iff.1 hb).1 (by simpa using hn)
    rw [List.length_map] at this
    refine this.mono ?_
    rintro e w' ⟨rfl, k, os, rfl⟩
    refine ⟨rfl, ?_, grownBy_sorted _⟩
    unfold SOwn
    rw [srt_flat]
    have h5 := ownsRow_sorted (n := k) (os := os) (ss := l.map fun s => s.data.toList) (ts := (l.map fun s => s.data.toList).mergeSort fun x y => decide (x ≤ y)) (by simp) hbase hb (by simpa using h1) h2 h3
    rw [List.length_map] at h5
    exact h5
theorem d_prefix (s p : ByteArray) (w : World) : Calls Tryz.prog 63 #[.string s, .string p] w fun e w' => e = .returned (.bool (Lib.hasPrefix s.data.toList p.data.toList)) ∧ w = w' := by
  refine (Tryz.strings_HasPrefix s p w).mono ?_
  rintro e w' ⟨h1, h2⟩
  exact ⟨h1, h2.symm⟩
/-- What List has gathered when the names outside left are seen. -/
structure Seen (D : DataW Unit) (left : Lit → Bool) (cnt : Nat) (p : ByteArray) (l : List ByteArray) : Prop where
  mem : ∀ s, s ∈ l ↔ Maps.has D (kn s) = true ∧ left (kn s) = false ∧ Lib.hasPrefix s.data.toList p.data.toList = true
  nodup : l.Nodup
  count : l.length + cnt ≤ Maps.size D
theorem Seen.step {D : DataW Unit} {left : Lit → Bool} {cnt cnt' : Nat} {p x : ByteArray} {l : List ByteArray} (h : Seen D left cnt p l) (hx : Maps.has D (kn x) = true) (hlx : left (kn x) = true) (hc : cnt' < cnt) :
    Seen D (fun z => left z && !z.sameKey (kn x)) cnt' p (if Lib.hasPrefix x.data.toList p.data.toList = true then l ++ [x] else l) := by
  have hsk : (kn x).sameKey (kn x) = true := by simp [Lit.sameKey]
  have hns : ∀ s, s ≠ x → (left (kn s) && !(kn s).sameKey (kn x)) = left (kn s) := fun s e => by rw [sameKey_ne (kn_ne e)]; simp
  have hxl : x ∉ l := fun e => by have := ((h.mem x).1 e).2.1; rw [hlx] at this; cases this
  refine ⟨fun s => ?_, ?_, ?_⟩
  · by_cases e : s = x
    · subst e
      show _ ↔ _ ∧ (left (kn s) && !(kn s).sameKey (kn s)) = false ∧ _
      rw [hsk]
      by_cases hp : Lib.hasPrefix s.data.toList p.data.toList = true
      · rw [if_pos hp]; simp [hx, hp]
      · rw [if_neg hp]; simp [hp, hxl]
    · show _ ↔ _ ∧ (left (kn s) && !(kn s).sameKey (kn x)) = false ∧ _
      rw [hns s e]
      split
      · rw [List.mem_append, h.mem s]; simp [e]
      · exact h.mem s
  · split
    · rw [List.nodup_append]
      exact ⟨h.nodup, by simp, fun a ha b hb e => by simp at hb; subst hb; subst e; exact hxl ha⟩
    · exact h.nodup
  · have := h.count
    split
    · rw [List.length_append]; simp; omega
    · omega
set_option maxHeartbeats 4000000 in
theorem v_list (base d mb n : Nat) (set : Bool) (ah kp wn : Int) (V : Cont) (B : Nat → Prop) (p : ByteArray) (w : World) (h : DV w base d mb n false set ah kp wn V B) (hn : n ≤ 4194304) :
    Calls Tryz.prog 26 #[.pointer (some ⟨d, 0, none⟩), .string p] w fun e w' => ∃ a c l, e = .returned (.slice a l.length c) ∧ SOwn strE 9 w' w.heap.size (.slice a l.length c) l.length (srt l) ∧ w.grownBy w' none ∧ l.Nodup ∧ l.length ≤ n ∧ ∀ s, s ∈ l ↔ (V s).isSome = true ∧ Lib.hasPrefix s.data.toList p.data.toList = true := by
  obtain ⟨F, G, hd, hv, hB⟩ := h
  obtain ⟨c0, c1, c2, c3, c4, c5⟩ := hd.row.cells
  obtain ⟨D, hm, hda, hdh, hdi⟩ := hd.map
  have HM : Hid (w.ownsMap Tryz.prog 9 ptrE mb n D) := hm
  have HMB : Hid (mb < w.heap.size) := hd.map.lt
  have HSZ : Hid (Maps.size D ≤ n) := hm.size_le
  have HDV : Hid (∀ s, Maps.has D (kn s) = true ↔ (V s).isSome = true) := by
    intro s
    have e1 : (V s).isSome = (F s).isSome := by rw [hv s]; cases F s <;> rfl
    rw [e1]
    constructor
    · intro hs
      obtain ⟨t, e, ht⟩ := hdh _ hs
      obtain rfl := kn_inj e
      exact ht
    · exact hdi s
  clear hd hv hB hm hda hdh hdi c2 c3 c4 c5
  go_enter Tryz.func26, Tryz.ntmps26
  go_wp2_with (first
    | (at_range; refine wpList_range_own _ rfl _ 70 rfl 9 94 law9 Tryz.underlying70 _ mb n _ rfl HM.out ?_; intro w0 hrg0 hg0 hs0)
    | go_in)
  go_frame
  have HRG0 : Hid (w0.ranges Tryz.prog 9 ptrE mb w.heap.size n D (Maps.has D) (Maps.size D)) := hrg0
  have HG0 : Hid (w.grownBy w0 none) := hg0
  have HS0 : Hid (w0.heap.size = w.heap.size + 1) := hs0
  clear hrg0 hg0 hs0
  go_loopw [5] (fun v wr' => ∃ (left : Lit → Bool) (cnt : Nat) (l : List ByteArray), wr'.ranges Tryz.prog 9 ptrE mb w.heap.size n D left cnt ∧ Seen D left cnt p l ∧ SOwn strE 9 wr' (w.heap.size + 1) v l.length l ∧ w.grownBy wr' none)
    (fun _ wr' => wr'.rangeLeft mb w.heap.size)
  case atStart =>
    refine ⟨_, _, [], HRG0.out, ⟨fun s => ?_, List.nodup_nil, by simp⟩, SOwn.nil 9 _ _, HG0.out⟩
    constructor
    · intro hs; cases hs
    · rintro ⟨h1, h2, _⟩; rw [h1] at h2; cases h2
  case round =>
    obtain ⟨left, cnt, l, hrg, hse, hso, hgw⟩ := hrel
    obtain ⟨L, eL⟩ : ∃ L, L = l.length := ⟨_, rfl⟩
    rw [← eL] at hso
    obtain ⟨a5, k5, rfl⟩ := sown_sliceT hso
    have EL : Hid (L = l.length) := eL
    have HRG : Hid (wr.ranges Tryz.prog 9 ptrE mb w.heap.size n D left cnt) := hrg
    have HSE : Hid (Seen D left cnt p l) := hse
    have HSO : Hid (SOwn strE 9 wr (w.heap.size + 1) (.slice a5 L k5) L l) := hso
    have HGW : Hid (w.grownBy wr none) := hgw
    have hLn : L + cnt ≤ 4194304 := by have h1 := hse.count; have h2 := HSZ.out; omega
    have HLW : Hid (w.heap.size + 1 ≤ wr.heap.size) := by have h1 := hrg.lt; exact h1
    clear hrg hse hso hgw HRG0 HG0 eL
    go_wp2_with (first
      | (at_next; refine wpList_next_ranges _ rfl _ rfl 9 law9 ptrE Value.string ptrV (fun key kl hkey => by obtain ⟨x, hx, _⟩ := str_inv hkey; exact ⟨x, hx⟩) (fun v y hv => by obtain ⟨o, ho, _⟩ := ptr_inv hv; exact ⟨o, ho⟩) mb w.heap.size n _ _ _ rfl HRG.out ?_ ?_)
      | go_in)
    · intro _ hl0
      go_wp2_with fail
      refine (d_sortAny (w.heap.size + 1) L _ l wr HSO.out (by omega)).mono ?_
      rintro e w4 ⟨rfl, ho4, hg4⟩
      have HO4 : Hid (SOwn strE 9 w4 (w.heap.size + 1) (.slice a5 L k5) L (srt l)) := ho4
      have HG4 : Hid (w.grownBy w4 none) := gb_trans HGW.out hg4 (fun k hk => .inl (by have := (SOwn.block HSO.out k hk).1; omega))
      clear ho4 hg4
      go_wp2
      go_ret
      refine ⟨a5, k5, l, by rw [← EL.out]; rfl, by rw [← EL.out]; exact SOwn.base HO4.out (Nat.le_succ _), HG4.out, HSE.out.nodup, by have h1 := HSE.out.count; have h2 := HSZ.out; omega, fun s => ?_⟩
      rw [HSE.out.mem s, HDV.out s]
      simp [hl0]
    · intro x o kl yd yp w1 cnt1 hkey hlk hv hat hrg1 hlt hg1 hs1 hen
      obtain ⟨x', ex, rfl, _⟩ := str_inv hkey
      cases ex
      have hhas : Maps.has D (kn x) = true := has_true_of_atKey hat
      have HSE1 : Hid (Seen D (fun z => left z && !z.sameKey (kn x)) cnt1 p (if Lib.hasPrefix x.data.toList p.data.toList = true then l ++ [x] else l)) := HSE.out.step hhas hlk hlt
      have HRG1 : Hid (w1.ranges Tryz.prog 9 ptrE mb w.heap.size n D (fun z => left z && !z.sameKey (kn x)) cnt1) := hrg1
      have HG1 : Hid (w.grownBy w1 none) := gb_trans HGW.out hg1 (fun k hk => .inl (by cases hk; exact Nat.le_refl _))
      have HSO1 : Hid (SOwn strE 9 w1 (w.heap.size + 1) (.slice a5 L k5) L l) := SOwn.kept HSO.out hg1 (.inr (fun e => by have := (SOwn.block HSO.out _ e).1; omega))
      have HLT1 : Hid (cnt1 < cnt) := hlt
      have HLW1 : Hid (w.heap.size + 1 ≤ w1.heap.size) := by show _ ≤ _; rw [hs1]; exact HLW.out
      have hen' : (Instr.entry (.pointer (some ⟨w.heap.size, 0, none⟩))).run Tryz.prog w1 = .ok (.tuple #[.string x, ptrV o]) w1 := hen
      clear hkey hlk hv hat hrg1 hlt hg1 hs1 hen hhas HSE HSO HGW HLW
      go_wp2_with fail
      refine (d_prefix x p w1).mono ?_
      rintro e w2 ⟨rfl, rfl⟩
      by_cases hp : Lib.hasPrefix x.data.toList p.data.toList = true
      · rw [hp]
        rw [if_pos hp] at HSE1
        go_wp2_with (at_builtin; refine wpList_append_s strET rfl (.tmp 23) (.tmp 25) rfl (w.heap.size + 1) (.slice a5 L k5) L l rfl (SOwn.kept HSO1.out (World.grownBy_alloc w1 _ none) (by cases a5 <;> simp [Value.ownBlock])) (some ⟨w1.heap.size, 0, none⟩) [x] 1 1 rfl rfl (slit w1 [x]) (by simp) (by omega) (by unfold maxLen; omega) (Nat.le_of_lt (by rw [show ((w1.alloc (.cells #[.string x] 9)).heap.size) = w1.heap.size + 1 from Array.size_push _]; have := HLW1.out; omega)) ?_; intro v3 w3 ho3 hg3 hn3)
        have HO3 : Hid (SOwn strE 9 w3 (w.heap.size + 1) v3 (L + 1) (l ++ [x])) := ho3
        have HG13 : Hid (w1.grownBy w3 (Value.ownBlock (.slice a5 L k5))) := (gb_any (World.grownBy_alloc w1 _ none) _).trans hg3
        clear ho3 hg3 hn3
        have hrg3 := HRG1.out.kept HG13.out (row_ne_low HSO1.out (Nat.lt_succ_of_lt HMB.out)) (row_ne_low HSO1.out (Nat.lt_succ_self _))
        have hg3 : w.grownBy w3 none := gb_trans HG1.out HG13.out (fun k hk => .inl (by have := (SOwn.block HSO1.out k hk).1; omega))
        refine ⟨⟨_, cnt1, l ++ [x], hrg3, HSE1.out, ?_, hg3⟩, ?_⟩
        · rw [List.length_append, ← EL.out]
          exact HO3.out
        · rw [HRG.out.left_eq, hrg3.left_eq]
          exact HLT1.out
      · have hpf : Lib.hasPrefix x.data.toList p.data.toList = false := by simpa using hp
        rw [hpf]
        rw [if_neg hp] at HSE1
        go_wp2
        refine ⟨⟨_, cnt1, l, HRG1.out, HSE1.out, ?_, HG1.out⟩, ?_⟩
        · rw [← EL.out]
          exact HSO1.out
        · rw [HRG.out.left_eq, HRG1.out.left_eq]
          exact HLT1.out
end Go.Proofs.YtekejnjaiccnbaaGreatDoor

/- Texts in order: what a sorted list of names is by its members. -/
namespace Go.Proofs.YtekejnjaiccnbaaGreatDoor
open Go.RowKit Go.Maps
set_option linter.unusedVariables false

theorem u8_le_trans (a b c : List UInt8) : decide (a ≤ b) = true → decide (b ≤ c) = true → decide (a ≤ c) = true := by
  simp only [decide_eq_true_eq]
  exact List.le_trans
theorem u8_le_total (a b : List UInt8) : (decide (a ≤ b) || decide (b ≤ a)) = true := by
  simp only [Bool.or_eq_true, decide_eq_true_eq]
  exact List.le_total a b
theorem srt_pair (l : List ByteArray) : (srt l).Pairwise fun x y => x.data.toList ≤ y.data.toList := by
  unfold srt
  rw [List.pairwise_map]
  have h := List.pairwise_mergeSort (le := fun x y : List UInt8 => decide (x ≤ y)) u8_le_trans u8_le_total (l.map fun s => s.data.toList)
  exact h.imp (fun hab => by simpa using hab)
theorem ba_ext {x y : ByteArray} (h : x.data.toList = y.data.toList) : x = y := by
  cases x; cases y; congr 1; exact Array.toList_inj.1 h
theorem srt_perm (l : List ByteArray) : (srt l).Perm l := by
  unfold srt
  have h := (List.mergeSort_perm (l.map fun s => s.data.toList) fun x y => decide (x ≤ y)).map fun b => (⟨b.toArray⟩ : ByteArray)
  rw [List.map_map] at h
  have e : (fun s => (⟨s.data.toList.toArray⟩ : ByteArray)) = (id : ByteArray → ByteArray) := by funext s; rfl
  refine h.trans ?_
  have e2 : ((fun b => (⟨b.toArray⟩ : ByteArray)) ∘ fun s : ByteArray => s.data.toList) = id := e
  rw [e2, List.map_id]
/-- A list of texts in order is told by its members. -/
theorem srt_eq {l l' : List ByteArray} (h : l.Nodup) (h' : l'.Nodup) (hm : ∀ s, s ∈ l ↔ s ∈ l') : srt l = srt l' := by
  have hp : l.Perm l' := (List.perm_ext_iff_of_nodup h h').2 hm
  refine List.Perm.eq_of_pairwise (le := fun x y : ByteArray => x.data.toList ≤ y.data.toList) ?_ (srt_pair l) (srt_pair l') (((srt_perm l).trans hp).trans (srt_perm l').symm)
  intro a b _ _ h1 h2
  exact ba_ext (List.le_antisymm h1 h2)
/-- A list that is in order already. -/
theorem srt_self {l : List ByteArray} (h : l.Pairwise fun x y => x.data.toList ≤ y.data.toList) : srt l = l := by
  refine List.Perm.eq_of_pairwise (le := fun x y : ByteArray => x.data.toList ≤ y.data.toList) ?_ (srt_pair l) h (srt_perm l)
  intro a b _ _ h1 h2
  exact ba_ext (List.le_antisymm h1 h2)
theorem srt_nodup {l : List ByteArray} (h : l.Nodup) : (srt l).Nodup := (srt_perm l).nodup_iff.2 h
end Go.Proofs.YtekejnjaiccnbaaGreatDoor

