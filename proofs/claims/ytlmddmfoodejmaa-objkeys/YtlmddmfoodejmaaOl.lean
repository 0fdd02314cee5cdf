/- Package obj: Open. -/
import Derived.Test.YtlmddmfoodejmaaOk
namespace Go.Proofs.Ytlmddmfoodejmaa
open Go.RowKit Go.Maps
set_option linter.unusedVariables false
set_option maxRecDepth 20000

theorem cut_t (k : ByteArray) (w : World) : (Instr.slice 9 (.string (tN k)) (some (.int .i64 2)) none none).run Try.prog w = .ok (.string k) w := by
  have hs := tN_size k
  rw [run_slice_string_l w 9 (tN k) Try.underlying9 .i64 2 (by omega) (by omega)]
  have e : (tN k).extract (2 : Int).toNat (tN k).size = k := by
    apply ByteArray.ext
    rw [ByteArray.data_extract, hs]
    show ([116, 47] ++ k.data.toList : List UInt8).toArray.extract 2 (k.size + 2) = k.data
    have hl : k.data.toList.length = k.size := Array.length_toList
    rw [List.extract_toArray, List.extract_eq_take_drop]
    show ((k.data.toList).take (k.size + 2 - 2)).toArray = k.data
    rw [show k.size + 2 - 2 = k.data.toList.length by omega, List.take_length]
  rw [e]
theorem cut_o (k : ByteArray) (w : World) : (Instr.slice 9 (.string (oN k)) (some (.int .i64 2)) none none).run Try.prog w = .ok (.string k) w := by
  have hs := oN_size k
  rw [run_slice_string_l w 9 (oN k) Try.underlying9 .i64 2 (by omega) (by omega)]
  have e : (oN k).extract (2 : Int).toNat (oN k).size = k := by
    apply ByteArray.ext
    rw [ByteArray.data_extract, hs]
    show ([111, 47] ++ k.data.toList : List UInt8).toArray.extract 2 (k.size + 2) = k.data
    have hl : k.data.toList.length = k.size := Array.length_toList
    rw [List.extract_toArray, List.extract_eq_take_drop]
    show ((k.data.toList).take (k.size + 2 - 2)).toArray = k.data
    rw [show k.size + 2 - 2 = k.data.toList.length by omega, List.take_length]
  rw [e]
theorem info73 : (Try.prog.info? 73).map (fun i => (i.zero, i.size, i.bytes)) = some (some .nilFunc, 1, 8) := by kernel_rfl
theorem fnET : ElemOf fnE Try.prog 60 73 8 := by
  obtain ⟨i0, hi, hz0, hz1, hz2⟩ := info_parts info73
  exact ⟨Try.underlying60, i0, _, hi, hz0, hz1, hz2, rfl⟩
def clr (d : Nat) (k : ByteArray) : Nat × Value := (38, drV d k (.slice none 0 0))
/-- The names of a disk that begin with t/ are drafts of these keys. -/
structure Drafts (V : Cont) (ks : List ByteArray) : Prop where
  names : NamesOf V ⟨#[116, 47]⟩ (ks.map tN)
  keys : ∀ k ∈ ks, keyB k = true
theorem sown_sliceF {w : World} {base n : Nat} {v : Value} {l : List (Nat × Value)} (h : SOwn fnE 73 w base v n l) : ∃ a c, v = .slice a n c := by
  rcases h.2 with ⟨h', h2⟩ | ⟨g, cap, cur, h', _⟩
  · have : l.length = n := h.len
    exact ⟨none, 0, by rw [h', h2]⟩
  · exact ⟨_, _, h'⟩
set_option maxHeartbeats 8000000 in
theorem o_deletions (base d mb n : Nat) (x : DSt) (B : Nat → Prop) (ks : List ByteArray) (w : World) (h : DS w base d mb n x B) (hon : x.off = false) (hn : n ≤ 4194304) (hD : Drafts x.V ks) :
    Calls Try.prog 27 #[.pointer (some ⟨d, 0, none⟩)] w fun e w' => ∃ a c, e = .returned (.slice a ks.length c) ∧ SOwn fnE 73 w' w.heap.size (.slice a ks.length c) ks.length (ks.map (clr d)) ∧ w.grownBy w' none := by
  have HL := x_list base d mb n x B ⟨#[116, 47]⟩ w h hon hn
  obtain ⟨L, hL⟩ : ∃ L, L = ks.length := ⟨_, rfl⟩
  have HKL : Hid (ks.length = L) := hL.symm
  rw [← hL]
  have HL : Hid (Calls Try.prog 19 #[.pointer (some ⟨d, 0, none⟩), .string ⟨#[116, 47]⟩] w fun e w' => ∃ a c, e = .returned (.slice a L c) ∧ SRd strE w' a (ks.map tN) ∧ w.grownBy w' none ∧ L ≤ 4194304) := HL.mono (fun e w' ⟨a, c, l, h1, h2, h3, h4, h5⟩ => by
    have el : l = ks.map tN := h4.uniq hD.names
    subst el
    rw [List.length_map, ← hL] at h1 h2 h5
    exact ⟨a, c, h1, h2.rd, h3, by omega⟩)
  have hmf : ∀ (fn : Fn) (first cap : Array Value) (w : World), (Instr.makeFunc fn first cap).run Try.prog w = .ok (.func fn first cap) w := fun _ _ _ _ => rfl
  clear h hon hn hD hL
  go_enter Try.func27, Try.ntmps27
  go_wp2_with fail
  refine HL.out.mono ?_
  rintro e w1 ⟨a, c, rfl, hr, hg, hL4⟩
  have HR : Hid (SRd strE w1 a (ks.map tN)) := hr
  have HG : Hid (w.grownBy w1 none) := hg
  clear HL hr hg
  go_wp2
  go_loopw [3, 9] (fun v i wr => ∃ k : Nat, k ≤ L ∧ i = .int .i64 k ∧ Hid (SOwn fnE 73 wr w1.heap.size v k ((ks.take k).map (clr d)) ∧ w1.grownBy wr none)) (fun _ i _ => L - (intOf i).toNat)
  case atStart => exact ⟨0, Nat.zero_le _, rfl, SOwn.nil 73 _ _, World.grownBy.refl _ _⟩
  case round =>
    obtain ⟨k, hk, rfl, HI⟩ := hrel
    by_cases hlt : k < L
    · have hi : (k : Int) < (L : Int) := by omega
      have hl := HKL.out
      obtain ⟨y, ex⟩ : ∃ y, ks[k]? = some y := ⟨_, List.getElem?_eq_getElem (by omega)⟩
      obtain ⟨ba, off, rfl, hcc⟩ := (HR.out.grown HI.out.2 (by simp)).at (by rw [List.length_map]; omega)
      have a0 : wr.cell? ⟨ba, off + k, none⟩ = some (.string (tN y)) := by
        have h := hcc k (tN y) 0 (.string (tN y)) (by rw [List.getElem?_map, ex]; rfl) rfl
        simpa [strE] using h
      have hsl := fun w => cut_t y w
      obtain ⟨a3, c3, e3⟩ := sown_sliceF HI.out.1
      subst e3
      obtain ⟨hso, hgw⟩ := HI.out
      have HSO : Hid (SOwn fnE 73 wr w1.heap.size (.slice a3 k c3) k ((ks.take k).map (clr d))) := hso
      have HGW : Hid (w1.grownBy wr none) := hgw
      have HT : Hid ((ks.take (k + 1)).map (clr d) = (ks.take k).map (clr d) ++ [clr d y]) := by
        show _ = _
        rw [List.take_add_one, ex]
        simp
      have HSZ : Hid (w1.heap.size ≤ wr.heap.size) := hgw.size
      clear hcc ex HI hso hgw
      go_wp2_with (at_builtin; refine wpList_append_s fnET rfl (.tmp 13) (.tmp 19) rfl w1.heap.size (.slice a3 k c3) k ((ks.take k).map (clr d)) rfl (SOwn.kept HSO.out (World.grownBy_alloc wr _ none) (by cases a3 <;> simp [Value.ownBlock])) (some ⟨wr.heap.size, 0, none⟩) [clr d y] 1 1 rfl rfl (flit wr [clr d y] 73) (by simp) (by omega) (by unfold maxLen; omega) (Nat.le_trans HSZ.out (by simp)) ?_; intro v3 w3 ho3 hg3 hn3)
      have HO3 : Hid (SOwn fnE 73 w3 w1.heap.size v3 (k + 1) ((ks.take (k + 1)).map (clr d))) := by show SOwn _ _ _ _ _ _ _; rw [HT.out]; exact ho3
      have HG3 : Hid (w1.grownBy w3 none) := gb_trans (HGW.out.trans (World.grownBy_alloc wr _ none)) hg3 (fun y hy => .inl (HSO.out.block y hy).1)
      clear ho3 hg3 hn3
      exact ⟨⟨k + 1, by omega, by go_num, HO3.out, HG3.out⟩, by simp [intOf]; omega⟩
    · have hkk : k = L := by omega
      have hi : ¬ (k : Int) < (L : Int) := by omega
      obtain ⟨a3, c3, e3⟩ := sown_sliceF HI.out.1
      subst e3
      have HF : Hid (SOwn fnE 73 wr w.heap.size (.slice a3 L c3) L (ks.map (clr d)) ∧ w.grownBy wr none) := by
        obtain ⟨h1, h2⟩ := HI.out
        rw [hkk] at h1
        rw [show ks.take L = ks by rw [← HKL.out, List.take_length]] at h1
        exact ⟨h1.base HG.out.size, HG.out.trans h2⟩
      have HKK : Hid (k = L) := hkk
      clear HI hkk
      go_wp2
      go_ret
      exact ⟨a3, c3, by rw [HKK.out]; rfl, HF.out.1, HF.out.2⟩
end Go.Proofs.Ytlmddmfoodejmaa
