/- The program's number, folded, unfolded, needless, above, eightHalves. -/
import Derived.Test.YtailaehpgmpaaaaCref
import Derived.Test.YtailaehpgmpaaaaCumath
namespace Go.Proofs.Ytailaehpgmpaaaa
open Go.RowKit
set_option linter.unusedVariables false

/-- A slice of bytes that the call made, or none yet. -/
def OwnV (w : World) (base : Nat) (v : Value) (n : Nat) (zs : List Int) : Prop := w.ownsRow base 5 1 v n (bs zs) ∧ ∀ z ∈ zs, 0 ≤ z ∧ z ≤ 255
theorem OwnV.nil (w : World) (base : Nat) : OwnV w base (.slice none 0 0) 0 [] := ⟨World.ownsRow_nil w base 5 1, by simp⟩
theorem Own.v {w : World} {base g n cap : Nat} {zs : List Int} (h : Own w base g n cap zs) : OwnV w base (.slice (some ⟨g, 0, none⟩) n cap) n zs := h
theorem OwnV.len {w : World} {base n : Nat} {v : Value} {zs : List Int} (h : OwnV w base v n zs) : zs.length = n := by
  have := h.1.1; rw [bs_len] at this; omega
theorem OwnV.kept {w w' : World} {row : Option Nat} {base n : Nat} {v : Value} {zs : List Int} (h : OwnV w base v n zs) (hg : w.grownBy w' row) (hne : v.ownBlock = none ∨ v.ownBlock ≠ row) : OwnV w' base v n zs :=
  ⟨h.1.kept hg hne, h.2⟩
theorem OwnV.block {w : World} {base n : Nat} {v : Value} {zs : List Int} (h : OwnV w base v n zs) : ∀ k, v.ownBlock = some k → base ≤ k ∧ k < w.heap.size := h.1.lt

/-- append(out, xs...): out is the call's own or none, xs are some bytes. -/
theorem wpList_append_v {w : World} {ops : Array Oper} {rest : List Oper} {o : Oper} {a : Act} {Q : Exit → Act → World → Prop} (hgd : o.guard = none) (s x : Operand)
    (ho : o.op = .call { callee := .builtin .append, args := #[s, x], argTypes := #[26, 26] }) (base : Nat) (v : Value) (n : Nat) (xs : List Int) (hs : a.eval s = v) (hown : OwnV w base v n xs)
    (src : Addr) (zs : List Int) (m cap : Nat) (hx : a.eval x = .slice (some src) m cap) (hm : zs.length = m) (hr : Rd w (some src) zs) (h0 : 0 < m) (hlen : n + m ≤ 140737488355328) (hb : base ≤ w.heap.size)
    (h : ∀ g c w', Own w' base g (n + m) c (xs ++ zs) → w.grownBy w' v.ownBlock → wpList Try.prog ops Q rest (a.put o.dst (.slice (some ⟨g, 0, none⟩) (n + m) c)) w') : wpList Try.prog ops Q (o :: rest) a w := by
  obtain ⟨i0, hi, hz0, hz1, hz2⟩ := info_parts info5
  subst hm
  refine wpList_append_own _ hgd s x 26 ho base 5 i0 (.int .u8 0) 1 1 Try.underlying26 hi hz0 hz1 hz2 rfl (by decide) _ n (bs xs) hs hown.1 src zs.length cap (bs zs) hx (by rw [bs_len]; omega) hr.news (bs_one zs) (by unfold maxLen; omega) (by omega) hb ?_
  intro v' w' hown' hg hne
  rw [← bs_app] at hown'
  obtain ⟨g, c, rfl, ho'⟩ := Own.of hown' (fun h => by have := (hne.1 h).2; omega) (fun z hz => by
    rcases List.mem_append.1 hz with h1 | h1
    · exact hown.2 z h1
    · exact hr.2 z h1)
  exact h g c w' ho' hg

set_option maxRecDepth 100000 in
theorem or8_128 (v : Int) (h0 : 0 ≤ v) (h1 : v ≤ 255) : bits .or .u8 v 128 = v % 128 + 128 := by
  rw [u8_or v 128 h0 (by omega) (by decide) (by decide)]
  have e : (128 : Int).toNat = 128 := rfl
  rw [e]
  obtain ⟨V, rfl⟩ := Int.eq_ofNat_of_zero_le h0
  rw [Int.toNat_natCast]
  have hV : V ≤ 255 := by omega
  have key : ∀ V : Fin 256, V.val ||| 128 = V.val % 128 + 128 := by decide
  have := key ⟨V, by omega⟩
  simp only at this
  rw [this]
  omega
theorem le_alloc {n : Nat} {w : World} {o : Obj} (h : n ≤ w.heap.size) : n ≤ (w.alloc o).heap.size := Nat.le_trans h (World.grownBy_alloc w o none).size
theorem low_or (u : Int) (h0 : 0 ≤ u) : bits .or .u8 (u % 256) 128 = u % 128 + 128 := by
  rw [or8_128 _ (by omega) (by omega)]
  omega

set_option maxHeartbeats 400000 in
theorem g_number (v : Int) (w : World) (hv : 0 ≤ v ∧ v ≤ 18446744073709551615) :
    Calls Try.prog 70 #[.int .u64 v] w fun e w' => ∃ g c N, e = .returned (.slice (some ⟨g, 0, none⟩) N c) ∧ Own w' w.heap.size g N c (enc v.toNat) ∧ w.grownBy w' none := by
  obtain ⟨Y, hY⟩ : ∃ Y, enc v.toNat = Y := ⟨_, rfl⟩
  have HY : Hid (EncRel Y [] v) := by show [] ++ _ = _; rw [List.nil_append]; exact hY
  have HYL : Hid (Y.length ≤ 10) := by
    show _ ≤ _
    have h2 := enc_len v.toNat (by omega)
    rw [← hY]; omega
  rw [hY]
  clear hY
  go_enter Try.func70, Try.ntmps70
  go_wp2
  go_loopw [0, 3] (fun t0 t3 wr => ∃ (u : Int) (M : Nat) (zk : List Int), 0 ≤ u ∧ u ≤ 18446744073709551615 ∧ t0 = .int .u64 u ∧ OwnV wr w.heap.size t3 M zk ∧ EncRel Y zk u ∧ w.grownBy wr none) (fun t0 _ _ => (intOf t0).toNat)
  case atStart => exact ⟨v, 0, [], hv.1, hv.2, rfl, OwnV.nil _ _, HY.out, World.grownBy.refl _ _⟩
  case round =>
    obtain ⟨u, M, zk, hu0, hu, rfl, ho, he, hg⟩ := hrel
    have HO : Hid (OwnV wr w.heap.size u3 M zk) := ho
    have HE : Hid (EncRel Y zk u) := he
    have hM : M ≤ 100 := by
      have h1 := he.len
      have h2 := HYL.out
      have h3 := ho.len
      omega
    have HG : Hid (∀ (w2 : World) (o : Obj), (wr.alloc o).grownBy w2 u3.ownBlock → w.grownBy w2 none) := fun w2 o hg2 =>
      gb_trans (gb_trans hg (World.grownBy_alloc wr _ none) (by simp)) hg2 (fun i hi => .inl (ho.block i hi).1)
    have HW : Hid (w.heap.size ≤ wr.heap.size) := hg.size
    clear ho he hg hv HY
    by_cases hlt : u < 128
    · have hub : 0 ≤ u ∧ u ≤ 255 := by omega
      have hd : decide (128 ≤ u) = false := by simp; omega
      go_wp2_with (at_builtin; refine wpList_append_v rfl (.tmp 14) (.tmp 17) rfl w.heap.size u3 M zk rfl (HO.out.kept (World.grownBy_alloc wr _ none) (Classical.em _)) ⟨wr.heap.size, 0, none⟩ [u] 1 1 rfl rfl (rd_one wr _ hub) (by omega) (by omega) (le_alloc HW.out) ?_; intro g2 c2 w2 ho2 hg2)
      go_ret
      refine ⟨g2, c2, M + 1, rfl, ?_, HG.out _ _ hg2⟩
      rw [HE.out.small hu0 hlt] at ho2
      exact ho2
    · have hd : decide (128 ≤ u) = true := by simp; omega
      have HX : Hid (bits .or .u8 (u % 256) 128 = u % 128 + 128) := low_or u hu0
      have hxb : 0 ≤ bits .or .u8 (u % 256) 128 ∧ bits .or .u8 (u % 256) 128 ≤ 255 := by rw [HX.out]; omega
      go_wp2_with (at_builtin; refine wpList_append_v rfl (.tmp 6) (.tmp 10) rfl w.heap.size u3 M zk rfl (HO.out.kept (World.grownBy_alloc wr _ none) (Classical.em _)) ⟨wr.heap.size, 0, none⟩ [bits .or .u8 (u % 256) 128] 1 1 rfl rfl (rd_one wr _ hxb) (by omega) (by omega) (le_alloc HW.out) ?_; intro g2 c2 w2 ho2 hg2)
      go_roundw
      case rel => exact ⟨u / 128, M + 1, _, by omega, by omega, rfl, ho2.v, by rw [HX.out]; exact HE.out.big (by omega), HG.out _ _ hg2⟩
      case measure => simp [intOf]; omega

theorem not_any (y : Int) : ((BitVec.ofInt 64 (-1) ^^^ BitVec.ofInt 64 y).toNat : Int) = 18446744073709551615 - y % 18446744073709551616 := by
  have e : BitVec.ofInt 64 (-1) = BitVec.allOnes 64 := by decide
  rw [e, BitVec.allOnes_xor, BitVec.toNat_not, BitVec.toNat_ofInt]
  have : ((2 ^ 64 : Nat) : Int) = 18446744073709551616 := by decide
  rw [this]
  omega
theorem wrap64_nat (t : Int) (h0 : 0 ≤ t) (h1 : t ≤ 18446744073709551615) : IntKind.i64.wrap t = (t + 9223372036854775808) % 18446744073709551616 - 9223372036854775808 := by
  simp [IntKind.wrap, IntKind.bits, IntKind.signed]
  split <;> omega
theorem not64 (y : Int) (h0 : 0 ≤ y) (h1 : y ≤ 18446744073709551615) : bits .xor .u64 18446744073709551615 y = 18446744073709551615 - y := by
  have e : bits .xor .u64 18446744073709551615 y = IntKind.u64.wrap ((BitVec.ofInt 64 18446744073709551615 ^^^ BitVec.ofInt 64 y).toNat : Int) := rfl
  rw [e, show BitVec.ofInt 64 18446744073709551615 = BitVec.ofInt 64 (-1) by decide, not_any, IntKind.wrap_u64]
  omega
theorem noti64 (y : Int) (h0 : 0 ≤ y) (h1 : y ≤ 9223372036854775807) : bits .xor .i64 (-1) y = -y - 1 := by
  have e : bits .xor .i64 (-1) y = IntKind.i64.wrap ((BitVec.ofInt 64 (-1) ^^^ BitVec.ofInt 64 y).toNat : Int) := rfl
  rw [e, not_any, wrap64_nat _ (by omega) (by omega)]
  omega

theorem g_needless (i : Nat) (c : Int) (w : World) (b : Bool) (hb : b = true ↔ 0 < i ∧ c = 0) :
    Calls Try.prog 94 #[.int .i64 i, .int .u8 c] w fun e w' => e = .returned (.bool b) ∧ w = w' := by
  by_cases h0 : 0 < i
  · by_cases h1 : c = 0
    · obtain rfl : b = true := hb.2 ⟨h0, h1⟩
      subst h1
      go_enter Try.func94, Try.ntmps94
      go_wp2
      go_ret
      exact ⟨rfl, rfl⟩
    · obtain rfl : b = false := Bool.eq_false_iff.2 (fun h => by have := hb.1 h; omega)
      have e : (c == 0) = false := by simpa using h1
      go_enter Try.func94, Try.ntmps94
      go_wp2
      go_ret
      exact ⟨rfl, rfl⟩
  · obtain rfl : b = false := Bool.eq_false_iff.2 (fun h => by have := hb.1 h; omega)
    go_enter Try.func94, Try.ntmps94
    go_wp2
    go_ret
    exact ⟨rfl, rfl⟩
theorem g_above (i : Nat) (c : Int) (w : World) (b : Bool) (hb : b = true ↔ i = 9 ∧ 1 < c) :
    Calls Try.prog 95 #[.int .i64 i, .int .u8 c] w fun e w' => e = .returned (.bool b) ∧ w = w' := by
  by_cases h0 : i = 9
  · have e0 : ((i : Int) == 9) = true := by simp; omega
    by_cases h1 : 1 < c
    · obtain rfl : b = true := hb.2 ⟨h0, h1⟩
      have e : decide (1 < c) = true := by simpa using h1
      clear h0 hb
      go_enter Try.func95, Try.ntmps95
      go_wp2
      go_ret
      exact ⟨rfl, rfl⟩
    · obtain rfl : b = false := Bool.eq_false_iff.2 (fun h => by have := hb.1 h; omega)
      have e : decide (1 < c) = false := by simpa using h1
      clear h0 hb
      go_enter Try.func95, Try.ntmps95
      go_wp2
      go_ret
      exact ⟨rfl, rfl⟩
  · obtain rfl : b = false := Bool.eq_false_iff.2 (fun h => by have := hb.1 h; omega)
    have e0 : ((i : Int) == 9) = false := by simp; omega
    clear hb
    go_enter Try.func95, Try.ntmps95
    go_wp2
    go_ret
    exact ⟨rfl, rfl⟩
end Go.Proofs.Ytailaehpgmpaaaa
