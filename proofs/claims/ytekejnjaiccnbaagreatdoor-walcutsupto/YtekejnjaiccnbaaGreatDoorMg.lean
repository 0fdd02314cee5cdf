/- Several texts in one: Dk16, Dk17. -/
import Derived.Test.YtekejnjaiccnbaaGreatDoorMf
/- Package disk: List of a disk with one file. -/
namespace Go.Proofs.YtekejnjaiccnbaaGreatDoor
open Go.RowKit Go.Maps
set_option linter.unusedVariables false
set_option maxRecDepth 20000

theorem info9 : (Tryz.prog.info? 9).map (fun i => (i.zero, i.size, i.bytes)) = some (some (.string ByteArray.empty), 1, 16) := by kernel_rfl
theorem strET : ElemOf strE Tryz.prog 53 9 16 := by
  obtain ⟨i0, hi, hz0, hz1, hz2⟩ := info_parts info9
  exact ⟨Tryz.underlying53, i0, _, hi, hz0, hz1, hz2, rfl⟩
theorem d_pre64 (w : World) : Calls Tryz.prog 105 #[.string ⟨#[97]⟩, .string ⟨#[]⟩] w fun e w' => e = .returned (.bool true) ∧ w = w' := by
  go_enter Tryz.func105, Tryz.ntmps105
  go_wp2
  go_ret
  exact ⟨rfl, rfl⟩
theorem d_pre (w : World) : Calls Tryz.prog 63 #[.string ⟨#[97]⟩, .string ⟨#[]⟩] w fun e w' => e = .returned (.bool true) ∧ w = w' := by
  go_enter Tryz.func63, Tryz.ntmps63
  go_wp2_with fail
  refine (d_pre64 w).mono ?_
  rintro e w' ⟨rfl, rfl⟩
  go_wp2
  go_ret
  exact ⟨rfl, rfl⟩
set_option maxHeartbeats 2000000 in
theorem d_len64 (w : World) : Calls Tryz.prog 139 #[.int .u64 1] w fun e w' => e = .returned (.int .i64 1) ∧ w = w' := by
  go_enter Tryz.func139, Tryz.ntmps139
  go_wp2
  go_ret
  exact ⟨by kernel_rfl, rfl⟩
theorem d_len (w : World) : Calls Tryz.prog 107 #[.int .u64 1] w fun e w' => e = .returned (.int .i64 1) ∧ w = w' := by
  go_enter Tryz.func107, Tryz.ntmps107
  go_wp2_with fail
  refine (d_len64 w).mono ?_
  rintro e w' ⟨rfl, rfl⟩
  go_wp2
  go_ret
  exact ⟨rfl, rfl⟩
set_option maxHeartbeats 2000000 in
theorem d_insert (a : Option Addr) (c : Nat) (w : World) : Calls Tryz.prog 129 #[.slice a 1 c, .int .i64 0, .int .i64 1] w fun e w' => e = .returned (.tuple #[]) ∧ w = w' := by
  go_enter Tryz.func129, Tryz.ntmps129
  go_wp2
  refine wp_loop_rounds 1 ?_
  rw [rounds_succ]
  go_wp2
  go_end0
  exact ⟨rfl, rfl⟩
set_option maxHeartbeats 2000000 in
theorem d_pdq (a : Option Addr) (c : Nat) (w : World) : Calls Tryz.prog 106 #[.slice a 1 c, .int .i64 0, .int .i64 1, .int .i64 1] w fun e w' => e = .returned (.tuple #[]) ∧ w = w' := by
  go_enter Tryz.func106, Tryz.ntmps106
  go_wp2_with fail
  refine wp_loop_rounds 1 ?_
  rw [rounds_succ]
  go_wp2_with fail
  refine (d_insert a c w).mono ?_
  rintro e w' ⟨rfl, rfl⟩
  go_wp2
  refine bodyPost_ret (results_none rfl _ _ _) rfl ?_
  exact ⟨rfl, rfl⟩
theorem d_sort (a : Option Addr) (c : Nat) (w : World) : Calls Tryz.prog 64 #[.slice a 1 c] w fun e w' => e = .returned (.tuple #[]) ∧ w = w' := by
  go_enter Tryz.func64, Tryz.ntmps64
  go_wp2_with fail
  refine (d_len w).mono ?_
  rintro e w' ⟨rfl, rfl⟩
  go_wp2_with fail
  refine (d_pdq a c w).mono ?_
  rintro e w' ⟨rfl, rfl⟩
  go_wp2
  go_end0
  exact ⟨rfl, rfl⟩
end Go.Proofs.YtekejnjaiccnbaaGreatDoor

/- Package disk: List of a disk with one file; SameTexts of two slices with one text. -/
namespace Go.Proofs.YtekejnjaiccnbaaGreatDoor
open Go.RowKit Go.Maps
set_option linter.unusedVariables false
set_option maxRecDepth 20000

theorem sown_sliceT {w : World} {base n : Nat} {v : Value} {l : List ByteArray} (h : SOwn strE 9 w base v n l) : ∃ a c, v = .slice a n c := by
  rcases h.2 with ⟨h', h0⟩ | ⟨g, cap, cur, h', _⟩
  · exact ⟨none, 0, by rw [h', h0]⟩
  · exact ⟨_, _, h'⟩
set_option maxHeartbeats 4000000 in
theorem v_list1 (base d mb n : Nat) (set : Bool) (ah kp wn : Int) (V : Cont) (B : Nat → Prop) (p : List Int × Nat) (w : World) (h : DV w base d mb n false set ah kp wn V B) (hA : V nmA = some p) (ho : ∀ s, s ≠ nmA → V s = none) :
    Calls Tryz.prog 26 #[.pointer (some ⟨d, 0, none⟩), .string ⟨#[]⟩] w fun e w' => ∃ a c, e = .returned (.slice a 1 c) ∧ SOwn strE 9 w' w.heap.size (.slice a 1 c) 1 [nmA] ∧ w.grownBy w' none := by
  obtain ⟨F, G, hd, hv, hB⟩ := h
  obtain ⟨c0, c1, c2, c3, c4, c5⟩ := hd.row.cells
  obtain ⟨D, hm, hda, hdh, hdi⟩ := hd.map
  have HM : Hid (w.ownsMap Tryz.prog 9 ptrE mb n D) := hm
  have HMB : Hid (mb < w.heap.size) := hd.map.lt
  have HDI : Hid (Maps.has D (kn nmA) = true) := hdi nmA (by
    rw [hv nmA] at hA
    cases hF : F nmA with
    | none => rw [hF] at hA; cases hA
    | some b => rfl)
  have HDH : Hid (∀ s, Maps.has D (kn s) = true → s = nmA) := by
    intro s hs
    obtain ⟨t, e, ht⟩ := hdh _ hs
    obtain rfl := kn_inj e
    by_cases e' : s = nmA
    · exact e'
    · have h1 := ho s e'
      rw [hv s] at h1
      cases hF : F s with
      | none => rw [hF] at ht; cases ht
      | some b => rw [hF] at h1; cases h1
  clear hd hv hB hm hda hdh hdi hA ho c2 c3 c4 c5
  go_enter Tryz.func26, Tryz.ntmps26
  go_wp2_with (first
    | (at_range; refine wpList_range_own _ rfl _ 70 rfl 9 94 law9 Tryz.underlying70 _ mb n _ rfl HM.out ?_; intro w0 hrg0 hg0 hs0)
    | go_in)
  have HRG0 : Hid (w0.ranges Tryz.prog 9 ptrE mb w.heap.size n D (Maps.has D) (Maps.size D)) := hrg0
  have HG0 : Hid (w.grownBy w0 none) := hg0
  clear hrg0 hg0 hs0
  refine wp_loop_rounds 2 ?_
  rw [rounds_succ]
  go_wp2_with (first
    | (at_next; refine wpList_next_ranges _ rfl _ rfl 9 law9 ptrE Value.string ptrV (fun key kl hkey => by obtain ⟨x, hx, _⟩ := str_inv hkey; exact ⟨x, hx⟩) (fun v y hv => by obtain ⟨o, ho, _⟩ := ptr_inv hv; exact ⟨o, ho⟩) mb w.heap.size n _ _ _ rfl HRG0.out ?_ ?_)
    | go_in)
  · intro _ hl0
    exact absurd (HDI.out.symm.trans (hl0 _)) (by simp)
  · intro x o kl yd yp w1 cnt1 hkey hlk hv hat hrg1 hlt hg1 hs1 hen
    obtain ⟨x', ex, rfl, _⟩ := str_inv hkey
    cases ex
    obtain rfl := HDH.out x hlk
    have HRG1 : Hid (w1.ranges Tryz.prog 9 ptrE mb w.heap.size n D (fun z => Maps.has D z && !z.sameKey (kn nmA)) cnt1) := hrg1
    have HG1 : Hid (w.grownBy w1 none) := gb_trans HG0.out hg1 (fun k hk => .inl (by cases hk; exact Nat.le_refl _))
    have hen' : (Instr.entry (.pointer (some ⟨w.heap.size, 0, none⟩))).run Tryz.prog w1 = .ok (.tuple #[.string nmA, ptrV o]) w1 := hen
    clear hkey hlk hv hat hrg1 hlt hg1 hs1 hen HRG0 HG0
    go_wp2_with fail
    refine (d_pre w1).mono ?_
    rintro e w2 ⟨rfl, rfl⟩
    go_wp2_with (at_builtin; refine wpList_append_s strET rfl (.tmp 23) (.tmp 25) rfl w.heap.size (.slice none 0 0) 0 [] rfl (SOwn.nil 9 _ _) (some ⟨w1.heap.size, 0, none⟩) [nmA] 1 1 rfl rfl (slit w1 [nmA]) (by simp) (by omega) (by unfold maxLen; omega) (Nat.le_of_lt (by rw [show ((w1.alloc (.cells #[.string nmA] 9)).heap.size) = w1.heap.size + 1 from Array.size_push _]; have := HG1.out.size; omega)) ?_; intro v3 w3 ho3 hg3 hn3)
    rw [List.nil_append, Nat.zero_add] at ho3
    have HO3 : Hid (SOwn strE 9 w3 w.heap.size v3 1 [nmA]) := ho3
    have hg13 : w1.grownBy w3 none := (World.grownBy_alloc w1 _ none).trans hg3
    have HG3 : Hid (w.grownBy w3 none) := HG1.out.trans hg13
    have HRG3 : Hid (w3.ranges Tryz.prog 9 ptrE mb w.heap.size n D (fun z => Maps.has D z && !z.sameKey (kn nmA)) cnt1) := HRG1.out.kept hg13 (by simp) (by simp)
    clear ho3 hg3 hn3 hg13 HRG1 HG1 hen'
    obtain ⟨a3, k3, rfl⟩ := sown_sliceT HO3.out
    go_wp2_with fail
    rw [rounds_succ]
    go_wp2_with (first
      | (at_next; refine wpList_next_ranges _ rfl _ rfl 9 law9 ptrE Value.string ptrV (fun key kl hkey => by obtain ⟨x, hx, _⟩ := str_inv hkey; exact ⟨x, hx⟩) (fun v y hv => by obtain ⟨o, ho, _⟩ := ptr_inv hv; exact ⟨o, ho⟩) mb w.heap.size n _ _ _ rfl HRG3.out ?_ ?_)
      | go_in)
    · intro _ _
      go_wp2_with fail
      refine (d_sort a3 k3 w3).mono ?_
      rintro e w4 ⟨rfl, rfl⟩
      go_wp2
      go_ret
      exact ⟨a3, k3, rfl, HO3.out, HG3.out⟩
    · intro x o4 kl yd yp w4 cnt4 hkey hlk hne hv hat hrg4 hlt hg4 hs4 hen
      exfalso
      obtain ⟨x', ex, rfl, _⟩ := str_inv hkey
      cases ex
      obtain rfl := HDH.out x hlk
      have hsk : (kn nmA).sameKey (kn nmA) = true := by simp [Lit.sameKey]
      rw [hsk] at hne
      exact absurd hne (by simp)
set_option maxHeartbeats 2000000 in
theorem same1 (a b : Option Addr) (c c' : Nat) (w : World) (ha : SRd strE w a [nmA]) (hb : SRd strE w b [nmA]) :
    Calls Tryz.prog 75 #[.slice a 1 c, .slice b 1 c'] w fun e w' => e = .returned (.bool true) ∧ w.grownBy w' none := by
  rcases ha with h | ⟨ba, oa, rfl, ha⟩
  · cases h
  rcases hb with h | ⟨bb, ob, rfl, hb⟩
  · cases h
  have a0 : w.cell? ⟨ba, oa, none⟩ = some (.string nmA) := by have := ha 0 _ rfl; simpa using this
  have b0 : w.cell? ⟨bb, ob, none⟩ = some (.string nmA) := by have := hb 0 _ rfl; simpa using this
  clear ha hb
  have HG : Hid (w.grownBy w.drew none) := gb_drew (World.grownBy.refl _ _)
  go_enter Tryz.func75, Tryz.ntmps75
  go_wp2_with fail
  refine wp_loop_rounds 2 ?_
  rw [rounds_succ]
  go_wp2_with fail
  go_region
  all_goals go_wp2_with fail
  all_goals rw [rounds_succ]
  all_goals go_wp2
  all_goals go_ret
  all_goals exact ⟨rfl, HG.out⟩
end Go.Proofs.YtekejnjaiccnbaaGreatDoor

