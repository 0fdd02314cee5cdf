/- Package obj: List. -/
import Derived.Test.YtlmddmfoodejmaaOm
namespace Go.Proofs.Ytlmddmfoodejmaa
open Go.RowKit Go.Maps
set_option linter.unusedVariables false
set_option maxRecDepth 20000

/-- The keys of a store that begin so, in order. -/
def KeysOf (O : Objs) (p : ByteArray) (ks : List ByteArray) : Prop := ks.Nodup ∧ (ks.Pairwise fun x y => x.data.toList ≤ y.data.toList) ∧ ∀ k, k ∈ ks ↔ (O k).isSome = true ∧ Lib.hasPrefix k.data.toList p.data.toList = true
theorem pre_lt {a b : List UInt8} (p : List UInt8) (h : a < b) : p ++ a < p ++ b := by
  induction p with
  | nil => exact h
  | cons x p ih => rw [List.cons_append, List.cons_append, List.cons_lt_cons_iff]; exact .inr ⟨rfl, ih⟩
theorem pre_le {a b : List UInt8} (p : List UInt8) (h : p ++ a ≤ p ++ b) : a ≤ b := fun hlt => h (pre_lt p hlt)
theorem has_oN (k p : ByteArray) : Lib.hasPrefix (oN k).data.toList (oN p).data.toList = Lib.hasPrefix k.data.toList p.data.toList := by
  unfold Lib.hasPrefix oN
  rw [bN_list, bN_list]
  simp [List.isPrefixOf]
theorem keys_of {O : Objs} {p : ByteArray} {l : List ByteArray} (h : NamesOf (objV O) (oN p) l) : ∃ ks, l = ks.map oN ∧ KeysOf O p ks := by
  have hm : ∀ s ∈ l, s = oN (bN (s.data.toList.drop 2)) := fun s hs => by
    have h1 := ((h.2.2 s).1 hs).1
    by_cases h2 : s.data.toList.take 2 = [111, 47]
    · exact o_of h2
    · unfold objV at h1
      rw [if_neg h2] at h1
      cases h1
  have hl : l = (l.map fun s => bN (s.data.toList.drop 2)).map oN := by
    rw [List.map_map]
    have : l.map (oN ∘ fun s => bN (s.data.toList.drop 2)) = l.map id := List.map_congr_left (fun s hs => (hm s hs).symm)
    rw [this, List.map_id]
  generalize (l.map fun s => bN (s.data.toList.drop 2)) = ks at hl
  subst hl
  refine ⟨ks, rfl, ?_, ?_, fun k => ?_⟩
  · exact (List.pairwise_map.1 h.1).imp (fun {a b} hab e => hab (by rw [e]))
  · exact (List.pairwise_map.1 h.2.1).imp (fun {a b} hab => by
      unfold oN at hab
      rw [bN_list, bN_list] at hab
      exact pre_le [111, 47] hab)
  · have := h.2.2 (oN k)
    rw [objV_o, has_oN] at this
    have e : ((O k).map fileV).isSome = (O k).isSome := by cases O k <;> rfl
    rw [e] at this
    rw [← this]
    constructor
    · exact fun hk => List.mem_map_of_mem hk
    · intro hk
      obtain ⟨j, hj, ej⟩ := List.mem_map.1 hk
      rw [← oN_inj ej]
      exact hj
set_option maxHeartbeats 8000000 in
theorem o_list (base d mb n : Nat) (x : DSt) (B : Nat → Prop) (p : Nat) (O : Objs) (pre : ByteArray) (w : World) (h : DS w base d mb n x B) (hs : StRow w p d) (hon : x.off = false) (hn : n ≤ 4194304) (hV : x.V = objV O) (hO : ∀ k, (O k).isSome = true → keyB k = true ∧ OkO (O k)) (hpre : pre.size ≤ 4611686018427387904) :
    Calls Try.prog 23 #[.pointer (some ⟨p, 0, none⟩), .string pre] w fun e w' => ∃ a c ks, e = .returned (.slice a ks.length c) ∧ SOwn strE 9 w' w.heap.size (.slice a ks.length c) ks.length ks ∧ KeysOf O pre ks ∧ w.grownBy w' none := by
  have HL := x_list base d mb n x B (oN pre) w h hon hn
  have HL : Hid (Calls Try.prog 19 #[.pointer (some ⟨d, 0, none⟩), .string (oN pre)] w fun e w' => ∃ a c ks, e = .returned (.slice a (List.length ks) c) ∧ SRd strE w' a (ks.map oN) ∧ w.grownBy w' none ∧ ks.length ≤ 4194304 ∧ KeysOf O pre ks) := HL.mono (fun e w' ⟨a, c, l, h1, h2, h3, h4, h5⟩ => by
    rw [hV] at h4
    obtain ⟨ks, rfl, hk⟩ := keys_of h4
    rw [List.length_map] at h1 h2 h5
    exact ⟨a, c, ks, h1, h2.rd, h3, by omega, hk⟩)
  have HF : Hid (∀ k w1, (O k).isSome = true → w.grownBy w1 none → Calls Try.prog 33 #[.pointer (some ⟨p, 0, none⟩), .string k] w1 fun e w' => ∃ G v N c, e = .returned (.tuple #[.agg #[.int .u64 G, .slice v N c], .int .i64 0]) ∧ w1.grownBy w' none) := fun k w1 hk hg => by
    obtain ⟨h1, h2⟩ := hO k hk
    have := o_find base d mb n x B k p (O k) w1 (DV.kept h hg) (hs.grown hg) h1 (by rw [hV, objV_o]) h2
    have e0 : findE x (O k) = 0 := by
      unfold findE
      rw [hon, if_neg (by simp)]
      cases ho : O k with
      | none => rw [ho] at hk; cases hk
      | some q =>
        rw [ho] at h2
        exact if_neg (show ¬ q.1 = 0 by have := h2.1; omega)
    rw [e0] at this
    exact this.mono (fun e w' ⟨v, N, c, h1, _, h3⟩ => ⟨_, v, N, c, h1, h3⟩)
  have s0 := hs.c0
  have q1 : ¬ (9223372036854775807 : Nat) < 2 + pre.size := by omega
  clear h hs hon hn hV hO hpre
  go_enter Try.func23, Try.ntmps23
  go_wp2_with fail
  rw [oN_eq]
  refine HL.out.mono ?_
  rintro e w1 ⟨a, c, ks, rfl, hr, hg, hL4, hks⟩
  obtain ⟨L, hL⟩ : ∃ L, L = ks.length := ⟨_, rfl⟩
  have HKL : Hid (ks.length = L) := hL.symm
  rw [← hL]
  rw [← hL] at hL4
  have HR : Hid (SRd strE w1 a (ks.map oN)) := hr
  have HG : Hid (w.grownBy w1 none) := hg
  have HKS : Hid (KeysOf O pre ks) := hks
  clear HL hr hg hks hL s0
  go_wp2
  go_loopw [5, 19] (fun v i wr => ∃ k : Nat, k ≤ L ∧ i = .int .i64 k ∧ Hid (SOwn strE 9 wr w1.heap.size v k (ks.take k) ∧ w1.grownBy wr none)) (fun _ i _ => L - (intOf i).toNat)
  case atStart => exact ⟨0, Nat.zero_le _, rfl, SOwn.nil 9 _ _, World.grownBy.refl _ _⟩
  case round =>
    obtain ⟨k, hk, rfl, HI⟩ := hrel
    by_cases hlt : k < L
    · have hi : (k : Int) < (L : Int) := by omega
      have hl := HKL.out
      obtain ⟨y, ex⟩ : ∃ y, ks[k]? = some y := ⟨_, List.getElem?_eq_getElem (by omega)⟩
      obtain ⟨ba, off, rfl, hcc⟩ := (HR.out.grown HI.out.2 (by simp)).at (by rw [List.length_map]; omega)
      have a0 : wr.cell? ⟨ba, off + k, none⟩ = some (.string (oN y)) := by
        have h := hcc k (oN y) 0 (.string (oN y)) (by rw [List.getElem?_map, ex]; rfl) rfl
        simpa [strE] using h
      have hsl := fun w => cut_o y w
      obtain ⟨a3, c3, e3⟩ := sown_sliceT HI.out.1
      subst e3
      obtain ⟨hso, hgw⟩ := HI.out
      have HSO : Hid (SOwn strE 9 wr w1.heap.size (.slice a3 k c3) k (ks.take k)) := hso
      have HGW : Hid (w1.grownBy wr none) := hgw
      have HT : Hid (ks.take (k + 1) = ks.take k ++ [y]) := by
        show _ = _
        rw [List.take_add_one, ex]
        simp
      have HC := HF.out y wr ((HKS.out.2.2 y).1 (List.mem_of_getElem? ex)).1 (HG.out.trans hgw)
      clear hcc ex HI hso hgw
      go_wp2_with fail
      refine HC.mono ?_
      rintro e w2 ⟨G, v, N, cc, rfl, hg2⟩
      obtain ⟨W3, eW3⟩ : ∃ W3, W3 = w2.alloc (.cells #[.int .u64 G, .slice v N cc] 66) := ⟨_, rfl⟩
      have hg3 : w2.grownBy W3 none := by rw [eW3]; exact World.grownBy_alloc w2 _ none
      have HG3 : Hid (wr.grownBy W3 none) := hg2.trans hg3
      clear HC hg2 hg3
      go_upto_region 7 with fail
      rw [← eW3]
      clear eW3
      go_wp2_with (at_builtin; refine wpList_append_s strET rfl (.tmp 33) (.tmp 35) rfl w1.heap.size (.slice a3 k c3) k (ks.take k) rfl (SOwn.kept HSO.out (HG3.out.trans (World.grownBy_alloc W3 _ none)) (by cases a3 <;> simp [Value.ownBlock])) (some ⟨W3.heap.size, 0, none⟩) [y] 1 1 rfl rfl (slit W3 [y]) (by simp) (by omega) (by unfold maxLen; omega) (Nat.le_trans (Nat.le_trans HGW.out.size HG3.out.size) (by simp)) ?_; intro v3 w3 ho3 hg3 hn3)
      have HO3 : Hid (SOwn strE 9 w3 w1.heap.size v3 (k + 1) (ks.take (k + 1))) := by show SOwn _ _ _ _ _ _ _; rw [HT.out]; exact ho3
      have HG4 : Hid (w1.grownBy w3 none) := gb_trans ((HGW.out.trans HG3.out).trans (World.grownBy_alloc W3 _ none)) hg3 (fun y hy => .inl (HSO.out.block y hy).1)
      clear ho3 hg3 hn3
      exact ⟨⟨k + 1, by omega, by go_num, HO3.out, HG4.out⟩, by simp [intOf]; omega⟩
    · have hkk : k = L := by omega
      have hi : ¬ (k : Int) < (L : Int) := by omega
      obtain ⟨a3, c3, e3⟩ := sown_sliceT HI.out.1
      subst e3
      have HF2 : Hid (SOwn strE 9 wr w.heap.size (.slice a3 L c3) L ks ∧ w.grownBy wr none) := by
        obtain ⟨h1, h2⟩ := HI.out
        rw [hkk] at h1
        rw [show ks.take L = ks by rw [← HKL.out, List.take_length]] at h1
        exact ⟨h1.base HG.out.size, HG.out.trans h2⟩
      have HKK : Hid (k = L) := hkk
      clear HI hkk
      go_wp2
      go_ret
      exact ⟨a3, c3, ks, by rw [HKL.out, HKK.out]; rfl, by rw [HKL.out]; exact HF2.out.1, HKS.out, HF2.out.2⟩
end Go.Proofs.Ytlmddmfoodejmaa
