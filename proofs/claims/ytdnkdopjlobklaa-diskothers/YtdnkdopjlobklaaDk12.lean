/- Package disk: Read, and the small calls as a caller sees them. -/
import Derived.Test.YtdnkdopjlobklaaDk11
namespace Go.Proofs.Ytdnkdopjlobklaa
open Go.RowKit Go.Maps
set_option linter.unusedVariables false
set_option maxRecDepth 20000

theorem d_cloneNil (w : World) : Calls Try.prog 51 #[.slice none 0 0] w fun e w' => e = .returned (.slice none 0 0) ∧ w = w' := by
  have heq : ∀ w, (binOp .eql 31 (.slice none 0 0) (.slice none 0 0)).run Try.prog w = .ok (.bool true) w := fun w => Lib.run_eql_slice_nil w 31 5 none 0 0 0 0 Try.underlying31
  go_enter Try.func51, Try.ntmps51
  go_wp2
  go_ret
  exact ⟨rfl, rfl⟩
theorem d_clone (ad : Addr) (zs : List Int) (k c : Nat) (w : World) (hr : SRd byteE w (some ad) zs) (hk : zs.length = k) (hz : k ≤ 4194304) :
    Calls Try.prog 51 #[.slice (some ad) k c] w fun e w' => ∃ a' c', e = .returned (.slice a' k c') ∧ SOwn byteE 5 w' w.heap.size (.slice a' k c') k zs ∧ w.grownBy w' none := by
  have HR : Hid (SRd byteE w (some ad) zs) := hr
  have HK : Hid (zs.length = k) := hk
  have heq : ∀ w, (binOp .eql 31 (.slice (some ad) k c) (.slice none 0 0)).run Try.prog w = .ok (.bool false) w := fun w => Lib.run_eql_slice_nil w 31 5 (some ad) k c 0 0 Try.underlying31
  clear hr hk
  go_enter Try.func51, Try.ntmps51
  go_wp2_with (at_builtin; refine wpList_append_s byteET rfl (.tmp 5) (.tmp 6) rfl w.heap.size (.slice (some ⟨w.heap.size, 0, none⟩) 0 0) 0 [] rfl (SOwn.empty byteE 5 w) (some ad) zs k c rfl HK.out (HR.out.grown (World.grownBy_alloc w _ none) (by simp)) (by simp) (by omega) (by unfold maxLen; omega) (Nat.le_of_lt (by rw [show ((w.alloc (.cells #[] 5)).heap.size) = w.heap.size + 1 from Array.size_push _]; omega)) ?_; intro v1 w1 ho1 hg1 hn1)
  rw [List.nil_append, Nat.zero_add] at ho1
  have HO : Hid (SOwn byteE 5 w1 w.heap.size v1 k zs) := ho1
  have HG : Hid (w.grownBy w1 none) := gb_trans (World.grownBy_alloc w _ none) hg1 (fun i hi => .inl (by simp [Value.ownBlock] at hi; omega))
  clear ho1 hg1 hn1
  obtain ⟨a', c', rfl⟩ := sown_slice HO.out
  go_wp2
  go_ret
  exact ⟨a', c', rfl, HO.out, HG.out⟩
set_option maxHeartbeats 2000000 in
theorem v_read (base d mb n : Nat) (set : Bool) (ah kp wn : Int) (V : Cont) (B : Nat → Prop) (s : ByteArray) (Z : List Int) (Y : Nat) (w : World) (h : DV w base d mb n false set ah kp wn V B) (hnm : nameB s = true) (hs : V s = some (Z, Y)) :
    Calls Try.prog 20 #[.pointer (some ⟨d, 0, none⟩), .string s] w fun e w' => ∃ a' c', e = .returned (.tuple #[.slice a' Z.length c', .int .i64 0]) ∧ SOwn byteE 5 w' w.heap.size (.slice a' Z.length c') Z.length Z ∧ (∀ z ∈ Z, 0 ≤ z ∧ z ≤ 255) ∧ Z.length ≤ 4194304 ∧ w.grownBy w' none := by
  obtain ⟨F, G, hd, hv, hB⟩ := h
  obtain ⟨b, hF, hZ, hY⟩ : ∃ b, F s = some b ∧ (G b).zs = Z ∧ (G b).syn = Y := by
    rw [hv s] at hs
    cases hF : F s with
    | none => rw [hF] at hs; cases hs
    | some b => rw [hF] at hs; simp only [Option.map_some, Option.some.injEq, Prod.mk.injEq] at hs; exact ⟨b, rfl, hs.1, hs.2⟩
  have hfile : FileIs w base b (G b).a (G b).c Z Y := by have := (hd.file s b hF).1; unfold FIs at this; rw [hZ, hY] at this; exact this
  have hss := nameB_size hnm
  have HF : Hid (Calls Try.prog 47 #[.pointer (some ⟨d, 0, none⟩), .string s] w fun e w' => e = .returned (.tuple #[.pointer (some ⟨b, 0, none⟩), .int .i64 0]) ∧ w.grownBy w' none) := by
    have := d_find d mb n false set ah kp wn F s w hd.row hd.map (by omega)
    rw [show findP false F s = some b by simp [findP, hnm, hF], show findC false F s = 0 by simp [findC, hnm, hF]] at this
    exact this
  obtain ⟨L, eL⟩ : ∃ L, L = Z.length := ⟨_, rfl⟩
  have HB : Hid (∀ w1, w.grownBy w1 none → w1.cell? ⟨b, 0, none⟩ = some (.slice (G b).a L (G b).c) ∧ Calls Try.prog 51 #[.slice (G b).a L (G b).c] w1 fun e w' => ∃ a' c', e = .returned (.slice a' L c') ∧ SOwn byteE 5 w' w1.heap.size (.slice a' L c') L Z ∧ w1.grownBy w' none) := by
    intro w1 hg
    rw [eL]
    refine ⟨hg.cell (hfile.row.cell (i := 0) (by omega)) (by simp), ?_⟩
    have ho := hfile.own
    cases ha : (G b).a with
    | none =>
      rw [ha] at ho
      rcases ho.2 with ⟨h', h0⟩ | ⟨g, cap, cur', h', _⟩
      · simp only [Value.slice.injEq] at h'
        rw [h'.2.2, h'.2.1]
        refine (d_cloneNil w1).mono ?_
        rintro e w' ⟨rfl, rfl⟩
        have hZ0 : Z = [] := List.eq_nil_of_length_eq_zero h0
        subst hZ0
        exact ⟨none, 0, rfl, SOwn.nil 5 _ _, World.grownBy.refl _ _⟩
      · simp at h'
    | some ad =>
      rw [ha] at ho
      exact d_clone ad Z _ _ w1 ((SOwn.rd ho).grown hg (by simp)) rfl hfile.len
  have HBY : Hid (∀ z ∈ Z, 0 ≤ z ∧ z ≤ 255) := hfile.byte
  have HLE : Hid (L ≤ 4194304) := by show L ≤ _; rw [eL]; exact hfile.len
  rw [← eL]
  generalize (G b).a = A, (G b).c = C at HB
  clear hd hv hB hfile hF hZ hY hs eL
  go_enter Try.func20, Try.ntmps20
  go_wp2_with fail
  refine HF.out.mono ?_
  rintro e w1 ⟨rfl, hg1⟩
  have HG1 : Hid (w.grownBy w1 none) := hg1
  obtain ⟨b0, hcl⟩ := HB.out w1 hg1
  have HCL : Hid (Calls Try.prog 51 #[.slice A L C] w1 fun e w' => ∃ a' c', e = .returned (.slice a' L c') ∧ SOwn byteE 5 w' w1.heap.size (.slice a' L c') L Z ∧ w1.grownBy w' none) := hcl
  clear hg1 hcl
  go_wp2_with fail
  refine HCL.out.mono ?_
  rintro e w2 ⟨a', c', rfl, ho, hg2⟩
  have HO : Hid (SOwn byteE 5 w2 w.heap.size (.slice a' L c') L Z) := SOwn.base ho HG1.out.size
  have HG2 : Hid (w.grownBy w2 none) := HG1.out.trans hg2
  clear ho hg2
  go_wp2
  go_ret2
  exact ⟨a', c', rfl, HO.out, HBY.out, HLE.out, HG2.out⟩
set_option maxHeartbeats 2000000 in
theorem v_readNot (base d mb n : Nat) (off set : Bool) (ah kp wn : Int) (V : Cont) (B : Nat → Prop) (s : ByteArray) (c : Int) (w : World) (h : DV w base d mb n off set ah kp wn V B) (hnm : nameB s = true) (hc : (off = true ∧ c = 60) ∨ (off = false ∧ V s = none ∧ c = 62)) :
    Calls Try.prog 20 #[.pointer (some ⟨d, 0, none⟩), .string s] w fun e w' => e = .returned (.tuple #[.slice none 0 0, .int .i64 c]) ∧ w.grownBy w' none := by
  obtain ⟨F, G, hd, hv, hB⟩ := h
  have hss := nameB_size hnm
  have HF : Hid (Calls Try.prog 47 #[.pointer (some ⟨d, 0, none⟩), .string s] w fun e w' => e = .returned (.tuple #[.pointer none, .int .i64 c]) ∧ w.grownBy w' none) := by
    have := d_find d mb n off set ah kp wn F s w hd.row hd.map (by omega)
    rcases hc with ⟨rfl, rfl⟩ | ⟨rfl, hV, rfl⟩
    · exact this
    · have hF : F s = none := by
        rw [hv s] at hV
        cases hF : F s with
        | none => rfl
        | some b => rw [hF] at hV; cases hV
      rw [show findP false F s = none by simp [findP, hF], show findC false F s = 62 by simp [findC, hnm, hF]] at this
      exact this
  have q0 : (c != 0) = true := by rcases hc with ⟨_, rfl⟩ | ⟨_, _, rfl⟩ <;> rfl
  clear hd hv hB hc
  go_enter Try.func20, Try.ntmps20
  go_wp2_with fail
  refine HF.out.mono ?_
  rintro e w1 ⟨rfl, hg1⟩
  have HG1 : Hid (w.grownBy w1 none) := hg1
  clear hg1
  go_wp2
  go_ret2
  exact ⟨rfl, HG1.out⟩
/-- The small calls. -/
theorem v_new (w : World) : Calls Try.prog 8 #[] w fun e w' => ∃ d mb B, e = .returned (.pointer (some ⟨d, 0, none⟩)) ∧ DV w' w.heap.size d mb 0 false false 0 0 0 (fun _ => none) B ∧ w.grownBy w' none ∧ ∀ k, B k → w.heap.size ≤ k := by
  refine (d_new w).mono ?_
  rintro e w' ⟨d, mb, rfl, hr, hm, hd, hmb, hg⟩
  refine ⟨d, mb, fun k => k = d ∨ k = mb, rfl, ⟨fun _ => none, fun _ => ⟨none, 0, [], 0⟩, ⟨hr, hm, (by intro s b h; cases h), (by intro s t b h; cases h), (by intro s t b b' h; cases h), hd, hmb⟩, fun s => rfl, fun k hk => ?_⟩, hg, fun k hk => ?_⟩
  · rcases hk with e | e | ⟨s, b, hs, _⟩
    · exact .inl e
    · exact .inr e
    · cases hs
  · rcases hk with e | e <;> omega
theorem v_on (base d mb n : Nat) (off set : Bool) (ah kp wn : Int) (V : Cont) (B : Nat → Prop) (w : World) (h : DV w base d mb n off set ah kp wn V B) :
    Calls Try.prog 21 #[.pointer (some ⟨d, 0, none⟩)] w fun e w' => e = .returned (.tuple #[]) ∧ DV w' base d mb n false set ah kp wn V B ∧ Step w w' B B := by
  refine (d_on d mb off set ah kp wn w h.row).mono ?_
  rintro e w' ⟨rfl, hr, hg⟩
  exact ⟨rfl, h.rowed hr (Kept.of hg (fun k hk => by cases hk; rfl))⟩
theorem v_arm (base d mb n : Nat) (off set : Bool) (ah kp wn ah' kp' : Int) (V : Cont) (B : Nat → Prop) (w : World) (h : DV w base d mb n off set ah kp wn V B) (h0 : 0 ≤ ah') :
    Calls Try.prog 18 #[.pointer (some ⟨d, 0, none⟩), .int .i64 ah', .int .i64 kp'] w fun e w' => e = .returned (.tuple #[]) ∧ DV w' base d mb n off true ah' kp' wn V B ∧ Step w w' B B := by
  refine (d_arm d mb off set ah kp wn ah' kp' w h.row h0).mono ?_
  rintro e w' ⟨rfl, hr, hg⟩
  exact ⟨rfl, h.rowed hr (Kept.of hg (fun k hk => by cases hk; rfl))⟩
theorem v_off (base d mb n : Nat) (set : Bool) (ah kp wn keep : Int) (V : Cont) (B : Nat → Prop) (w : World) (h : DV w base d mb n false set ah kp wn V B) (hk : -9223372036854775808 ≤ keep ∧ keep ≤ 9223372036854775807) :
    Calls Try.prog 19 #[.pointer (some ⟨d, 0, none⟩), .int .i64 keep] w fun e w' => e = .returned (.tuple #[]) ∧ DV w' base d mb n true false 0 0 wn (fun s => (V s).map (cutV keep)) B ∧ Step w w' B B := by
  obtain ⟨F, G, hd, hv, hB⟩ := h
  refine (d_off base d mb n set ah kp wn keep F G w hd hk).mono ?_
  rintro e w' ⟨rfl, hd', hk'⟩
  exact ⟨rfl, DV.cut (off := false) (set := set) (ah := ah) (kp := kp) (wn := wn) hd' hv hB hk'⟩
end Go.Proofs.Ytdnkdopjlobklaa
