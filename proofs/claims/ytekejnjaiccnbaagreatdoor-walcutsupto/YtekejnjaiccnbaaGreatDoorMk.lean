/- Several texts in one: Dnum, Cuint, Csum. -/
import Derived.Test.YtekejnjaiccnbaaGreatDoorMj
/- The program's number, folded, unfolded, needless, above, eightHalves. -/
namespace Go.Proofs.YtekejnjaiccnbaaGreatDoor
open Go.RowKit
set_option linter.unusedVariables false

/-- A slice of bytes that the call made, or none yet. -/
def OwnV (w : World) (base : Nat) (v : Value) (n : Nat) (zs : List Int) : Prop := w.ownsRow base 5 1 v n (bs zs) ∧ ∀ z ∈ zs, 0 ≤ z ∧ z ≤ 255
theorem OwnV.nil (w : World) (base : Nat) : OwnV w base (.slice none 0 0) 0 [] := ⟨World.ownsRow_nil w base 5 1, by simp⟩
theorem Own.v {w : World} {base g n cap : Nat} {zs : List Int} (h : Own w base g n cap zs) : OwnV w base (.slice (some ⟨g, 0, none⟩) n cap) n zs := h
theorem OwnV.len {w : World} {base n : Nat} {v : Value} {zs : List Int} (h : OwnV w base v n zs) : zs.length = n := by
  have := h.1.1; rw [bs_len] at this; omega
theorem OwnV.kept {w w' : World} {row : Option Nat} {base n : Nat} {v : Value} {zs : List Int} (h : OwnV w base v n zs) (hg : w.grownBy w' row) (hne : v.ownBlock = none ∨ v.ownBlock ≠ row) : OwnV w' base v n zs :=
  ⟨h.1.kept hg hne, h.2⟩
theorem OwnV.block {w : World} {base n : Nat} {v : Value} {zs : List Int} (h : OwnV w base v n zs) : ∀ k, v.ownBlock = some k → base ≤ k ∧ k < w.heap.size := h.1.lt

/-- append(out, xs...): out is the call's own or none, xs are some bytes. -/
theorem wpList_append_v {w : World} {ops : Array Oper} {rest : List Oper} {o : Oper} {a : Act} {Q : Exit → Act → World → Prop} (hgd : o.guard = none) (s x : Operand)
    (ho : o.op = .call { callee := .builtin .append, args := #[s, x], argTypes := #[27, 27] }) (base : Nat) (v : Value) (n : Nat) (xs : List Int) (hs : a.eval s = v) (hown : OwnV w base v n xs)
    (src : Addr) (zs : List Int) (m cap : Nat) (hx : a.eval x = .slice (some src) m cap) (hm : zs.length = m) (hr : Rd w (some src) zs) (h0 : 0 < m) (hlen : n + m ≤ 140737488355328) (hb : base ≤ w.heap.size)
    (h : ∀ g c w', Own w' base g (n + m) c (xs ++ zs) → w.grownBy w' v.ownBlock → wpList Tryz.prog ops Q rest (a.put o.dst (.slice (some ⟨g, 0, none⟩) (n + m) c)) w') : wpList Tryz.prog ops Q (o :: rest) a w := by
  obtain ⟨i0, hi, hz0, hz1, hz2⟩ := info_parts info5
  subst hm
  refine wpList_append_own _ hgd s x 27 ho base 5 i0 (.int .u8 0) 1 1 Tryz.underlying27 hi hz0 hz1 hz2 rfl (by decide) _ n (bs xs) hs hown.1 src zs.length cap (bs zs) hx (by rw [bs_len]; omega) hr.news (bs_one zs) (by unfold maxLen; omega) (by omega) hb ?_
  intro v' w' hown' hg hne
  rw [← bs_app] at hown'
  obtain ⟨g, c, rfl, ho'⟩ := Own.of hown' (fun h => by have := (hne.1 h).2; omega) (fun z hz => by
    rcases List.mem_append.1 hz with h1 | h1
    · exact hown.2 z h1
    · exact hr.2 z h1)
  exact h g c w' ho' hg

set_option maxRecDepth 100000 in
theorem or8_128 (v : Int) (h0 : 0 ≤ v) (h1 : v ≤ 255) : bits .or .u8 v 128 = v % 128 + 128 := by
  rw [u8_or v 128 h0 (by omega) (by decide) (by decide)]
  have e : (128 : Int).toNat = 128 := rfl
  rw [e]
  obtain ⟨V, rfl⟩ := Int.eq_ofNat_of_zero_le h0
  rw [Int.toNat_natCast]
  have hV : V ≤ 255 := by omega
  have key : ∀ V : Fin 256, V.val ||| 128 = V.val % 128 + 128 := by decide
  have := key ⟨V, by omega⟩
  simp only at this
  rw [this]
  omega
theorem le_alloc {n : Nat} {w : World} {o : Obj} (h : n ≤ w.heap.size) : n ≤ (w.alloc o).heap.size := Nat.le_trans h (World.grownBy_alloc w o none).size
theorem low_or (u : Int) (h0 : 0 ≤ u) : bits .or .u8 (u % 256) 128 = u % 128 + 128 := by
  rw [or8_128 _ (by omega) (by omega)]
  omega

set_option maxHeartbeats 400000 in
theorem g_number (v : Int) (w : World) (hv : 0 ≤ v ∧ v ≤ 18446744073709551615) :
    Calls Tryz.prog 60 #[.int .u64 v] w fun e w' => ∃ g c N, e = .returned (.slice (some ⟨g, 0, none⟩) N c) ∧ Own w' w.heap.size g N c (enc v.toNat) ∧ w.grownBy w' none := by
  obtain ⟨Y, hY⟩ : ∃ Y, enc v.toNat = Y := ⟨_, rfl⟩
  have HY : Hid (EncRel Y [] v) := by show [] ++ _ = _; rw [List.nil_append]; exact hY
  have HYL : Hid (Y.length ≤ 10) := by
    show _ ≤ _
    have h2 := enc_len v.toNat (by omega)
    rw [← hY]; omega
  rw [hY]
  clear hY
  go_enter Tryz.func60, Tryz.ntmps60
  go_wp2
  go_loopw [0, 3] (fun t0 t3 wr => ∃ (u : Int) (M : Nat) (zk : List Int), 0 ≤ u ∧ u ≤ 18446744073709551615 ∧ t0 = .int .u64 u ∧ OwnV wr w.heap.size t3 M zk ∧ EncRel Y zk u ∧ w.grownBy wr none) (fun t0 _ _ => (intOf t0).toNat)
  case atStart => exact ⟨v, 0, [], hv.1, hv.2, rfl, OwnV.nil _ _, HY.out, World.grownBy.refl _ _⟩
  case round =>
    obtain ⟨u, M, zk, hu0, hu, rfl, ho, he, hg⟩ := hrel
    have HO : Hid (OwnV wr w.heap.size u3 M zk) := ho
    have HE : Hid (EncRel Y zk u) := he
    have hM : M ≤ 100 := by
      have h1 := he.len
      have h2 := HYL.out
      have h3 := ho.len
      omega
    have HG : Hid (∀ (w2 : World) (o : Obj), (wr.alloc o).grownBy w2 u3.ownBlock → w.grownBy w2 none) := fun w2 o hg2 =>
      gb_trans (gb_trans hg (World.grownBy_alloc wr _ none) (by simp)) hg2 (fun i hi => .inl (ho.block i hi).1)
    have HW : Hid (w.heap.size ≤ wr.heap.size) := hg.size
    clear ho he hg hv HY
    by_cases hlt : u < 128
    · have hub : 0 ≤ u ∧ u ≤ 255 := by omega
      have hd : decide (128 ≤ u) = false := by simp; omega
      go_wp2_with (at_builtin; refine wpList_append_v rfl (.tmp 14) (.tmp 17) rfl w.heap.size u3 M zk rfl (HO.out.kept (World.grownBy_alloc wr _ none) (Classical.em _)) ⟨wr.heap.size, 0, none⟩ [u] 1 1 rfl rfl (rd_one wr _ hub) (by omega) (by omega) (le_alloc HW.out) ?_; intro g2 c2 w2 ho2 hg2)
      go_ret
      refine ⟨g2, c2, M + 1, rfl, ?_, HG.out _ _ hg2⟩
      rw [HE.out.small hu0 hlt] at ho2
      exact ho2
    · have hd : decide (128 ≤ u) = true := by simp; omega
      have HX : Hid (bits .or .u8 (u % 256) 128 = u % 128 + 128) := low_or u hu0
      have hxb : 0 ≤ bits .or .u8 (u % 256) 128 ∧ bits .or .u8 (u % 256) 128 ≤ 255 := by rw [HX.out]; omega
      go_wp2_with (at_builtin; refine wpList_append_v rfl (.tmp 6) (.tmp 10) rfl w.heap.size u3 M zk rfl (HO.out.kept (World.grownBy_alloc wr _ none) (Classical.em _)) ⟨wr.heap.size, 0, none⟩ [bits .or .u8 (u % 256) 128] 1 1 rfl rfl (rd_one wr _ hxb) (by omega) (by omega) (le_alloc HW.out) ?_; intro g2 c2 w2 ho2 hg2)
      go_roundw
      case rel => exact ⟨u / 128, M + 1, _, by omega, by omega, rfl, ho2.v, by rw [HX.out]; exact HE.out.big (by omega), HG.out _ _ hg2⟩
      case measure => simp [intOf]; omega

theorem not_any (y : Int) : ((BitVec.ofInt 64 (-1) ^^^ BitVec.ofInt 64 y).toNat : Int) = 18446744073709551615 - y % 18446744073709551616 := by
  have e : BitVec.ofInt 64 (-1) = BitVec.allOnes 64 := by decide
  rw [e, BitVec.allOnes_xor, BitVec.toNat_not, BitVec.toNat_ofInt]
  have : ((2 ^ 64 : Nat) : Int) = 18446744073709551616 := by decide
  rw [this]
  omega
theorem wrap64_nat (t : Int) (h0 : 0 ≤ t) (h1 : t ≤ 18446744073709551615) : IntKind.i64.wrap t = (t + 9223372036854775808) % 18446744073709551616 - 9223372036854775808 := by
  simp [IntKind.wrap, IntKind.bits, IntKind.signed]
  split <;> omega
theorem not64 (y : Int) (h0 : 0 ≤ y) (h1 : y ≤ 18446744073709551615) : bits .xor .u64 18446744073709551615 y = 18446744073709551615 - y := by
  have e : bits .xor .u64 18446744073709551615 y = IntKind.u64.wrap ((BitVec.ofInt 64 18446744073709551615 ^^^ BitVec.ofInt 64 y).toNat : Int) := rfl
  rw [e, show BitVec.ofInt 64 18446744073709551615 = BitVec.ofInt 64 (-1) by decide, not_any, IntKind.wrap_u64]
  omega
theorem noti64 (y : Int) (h0 : 0 ≤ y) (h1 : y ≤ 9223372036854775807) : bits .xor .i64 (-1) y = -y - 1 := by
  have e : bits .xor .i64 (-1) y = IntKind.i64.wrap ((BitVec.ofInt 64 (-1) ^^^ BitVec.ofInt 64 y).toNat : Int) := rfl
  rw [e, not_any, wrap64_nat _ (by omega) (by omega)]
  omega

theorem g_needless (i : Nat) (c : Int) (w : World) (b : Bool) (hb : b = true ↔ 0 < i ∧ c = 0) :
    Calls Tryz.prog 196 #[.int .i64 i, .int .u8 c] w fun e w' => e = .returned (.bool b) ∧ w = w' := by
  by_cases h0 : 0 < i
  · by_cases h1 : c = 0
    · obtain rfl : b = true := hb.2 ⟨h0, h1⟩
      subst h1
      go_enter Tryz.func196, Tryz.ntmps196
      go_wp2
      go_ret
      exact ⟨rfl, rfl⟩
    · obtain rfl : b = false := Bool.eq_false_iff.2 (fun h => by have := hb.1 h; omega)
      have e : (c == 0) = false := by simpa using h1
      go_enter Tryz.func196, Tryz.ntmps196
      go_wp2
      go_ret
      exact ⟨rfl, rfl⟩
  · obtain rfl : b = false := Bool.eq_false_iff.2 (fun h => by have := hb.1 h; omega)
    go_enter Tryz.func196, Tryz.ntmps196
    go_wp2
    go_ret
    exact ⟨rfl, rfl⟩
theorem g_above (i : Nat) (c : Int) (w : World) (b : Bool) (hb : b = true ↔ i = 9 ∧ 1 < c) :
    Calls Tryz.prog 197 #[.int .i64 i, .int .u8 c] w fun e w' => e = .returned (.bool b) ∧ w = w' := by
  by_cases h0 : i = 9
  · have e0 : ((i : Int) == 9) = true := by simp; omega
    by_cases h1 : 1 < c
    · obtain rfl : b = true := hb.2 ⟨h0, h1⟩
      have e : decide (1 < c) = true := by simpa using h1
      clear h0 hb
      go_enter Tryz.func197, Tryz.ntmps197
      go_wp2
      go_ret
      exact ⟨rfl, rfl⟩
    · obtain rfl : b = false := Bool.eq_false_iff.2 (fun h => by have := hb.1 h; omega)
      have e : decide (1 < c) = false := by simpa using h1
      clear h0 hb
      go_enter Tryz.func197, Tryz.ntmps197
      go_wp2
      go_ret
      exact ⟨rfl, rfl⟩
  · obtain rfl : b = false := Bool.eq_false_iff.2 (fun h => by have := hb.1 h; omega)
    have e0 : ((i : Int) == 9) = false := by simp; omega
    clear hb
    go_enter Tryz.func197, Tryz.ntmps197
    go_wp2
    go_ret
    exact ⟨rfl, rfl⟩
end Go.Proofs.YtekejnjaiccnbaaGreatDoor

/- The document's own Uint. -/
namespace Go.Proofs.YtekejnjaiccnbaaGreatDoor
open Go.RowKit

theorem ret3 {a a' b b' c c' : Int} {ka kb kc : IntKind} (h : a = a') (h1 : b = b') (h2 : c = c') : Ending.returned (.tuple #[.int ka a, .int kb b, .int kc c]) = .returned (.tuple #[.int ka a', .int kb b', .int kc c']) := by rw [h, h1, h2]

set_option maxHeartbeats 2000000 in
theorem ruint_in (a : Option Addr) (zs : List Int) (L cap : Nat) (p : Nat) (r1 r2 r3 : Int) (w : World) (hr : Rd w a zs) (hL : zs.length = L) (hz : (L : Int) ≤ 140737488355000) (hp : p ≤ L) (hR : ud zs p 10 0 0 = (r1, r2, r3)) :
    Calls Tryz.prog 159 #[.slice a L cap, .int .i64 p] w fun e w' => e = .returned (.tuple #[.int .u64 r1, .int .i64 r2, .int .i64 r3]) ∧ w = w' := by
  have d1 : decide ((p : Int) < 0) = false := by simp
  have d2 : decide ((L : Int) < (p : Int)) = false := by simp; omega
  have HR : Hid (Rd w a zs) := hr
  have HL : Hid (zs.length = L) := hL
  have H0 : Hid (URel zs p 0 0 r1 r2 r3) := hR
  clear hr hL hR
  go_enter Tryz.func159, Tryz.ntmps159
  go_wp2
  go_loop [4, 5, 6, 7, 8] (fun t4 t5 t6 t7 t8 => ∃ (i : Nat) (v : Int), i ≤ 9 ∧ 0 ≤ v ∧ v ≤ 9223372036854775807 ∧ v < 2 ^ (7 * i) ∧ URel zs p i v r1 r2 r3 ∧ t7 = .int .u64 v ∧ t8 = .int .i64 i ∧ t4 = .int .u64 0 ∧ t5 = .int .i64 0 ∧ t6 = .int .i64 0) (fun _ _ _ _ t8 => 10 - (intOf t8).toNat)
  case atStart => exact ⟨0, 0, by omega, by omega, by omega, by decide, H0.out, rfl, rfl, rfl, rfl, rfl⟩
  case round =>
    obtain ⟨i, v, hi, hv0, hv1, hv2, hu, rfl, rfl, rfl, rfl, rfl⟩ := hrel
    have HU : Hid (URel zs p i v r1 r2 r3) := hu
    have HV : Hid (v < 2 ^ (7 * i)) := hv2
    clear hu hv2 H0
    by_cases hlt : p + i < L
    · have hl := HL.out
      obtain ⟨b, off, rfl, hc⟩ := HR.out.at (by omega)
      have hcell := hc (p + i) (by omega)
      have hby := HR.out.byte (p + i)
      have HlZ : Hid (p + i < zs.length) := by show _ < _; omega
      have hd : decide ((L : Int) ≤ (p : Int) + (i : Int)) = false := by simp; omega
      have HF : Hid (zs.getD (p + i) 0 = zs.getD (p + i) 0) := rfl
      obtain ⟨c, ec⟩ : ∃ c, c = zs.getD (p + i) 0 := ⟨_, rfl⟩
      rw [← ec] at hcell hby
      have HC : Hid (c = zs.getD (p + i) 0) := ec
      clear hc ec hl HF
      by_cases hform : i = 9 ∧ 1 < c ∨ 0 < i ∧ c = 0
      · have HRes : Hid (r1 = 0 ∧ r2 = 0 ∧ r3 = 21) := HU.out.form hi HlZ.out (by rw [← HC.out]; exact hform)
        rcases hform with ⟨h9, h1⟩ | ⟨h0, h1⟩
        · have e9 : ((i : Int) == 9) = true := by simp; omega
          have e1 : decide (1 < c) = true := by simpa using h1
          clear h9 h1
          clear HU HV HlZ HC
          go_wp2
          go_ret3
          exact ⟨ret3 HRes.out.1.symm HRes.out.2.1.symm HRes.out.2.2.symm, rfl⟩
        · subst h1
          clear HU HV HlZ HC
          by_cases h9 : i = 9
          · have e9 : ((i : Int) == 9) = true := by simp; omega
            have h0' : 0 < i := h0
            clear h9 h0
            go_wp2
            go_ret3
            exact ⟨ret3 HRes.out.1.symm HRes.out.2.1.symm HRes.out.2.2.symm, rfl⟩
          · have e9 : ((i : Int) == 9) = false := by simp; omega
            have h0' : 0 < i := h0
            clear h9 h0
            go_wp2
            go_ret3
            exact ⟨ret3 HRes.out.1.symm HRes.out.2.1.symm HRes.out.2.2.symm, rfl⟩
      · have HO7 : Hid (_ ∧ _ ∧ _) := or7 v c i hv0 HV.out hi hby (fun h => by omega)
        have HNF : Hid (¬ (i = 9 ∧ 1 < zs.getD (p + i) 0 ∨ 0 < i ∧ zs.getD (p + i) 0 = 0)) := by rw [← HC.out]; exact hform
        by_cases h9 : i = 9
        · obtain rfl : c = 1 := by omega
          have e9 : ((i : Int) == 9) = true := by simp; omega
          have h0' : 0 < i := by omega
          have HRes : Hid (_ ∧ _ ∧ _) := HU.out.done hi HlZ.out HNF.out (by rw [← HC.out]; omega)
          clear HU HV HNF hform h9
          go_wp2
          go_ret3
          refine ⟨ret3 ?_ ?_ ?_, rfl⟩
          · rw [← HRes.out.1, ← HC.out]; exact HO7.out.1
          · exact HRes.out.2.1
          · exact HRes.out.2.2
        · have e9 : ((i : Int) == 9) = false := by simp; omega
          by_cases h128 : c < 128
          · have e1 : decide (c < 128) = true := by simpa using h128
            have HRes : Hid (_ ∧ _ ∧ _) := HU.out.done hi HlZ.out HNF.out (by rw [← HC.out]; exact h128)
            by_cases h0 : 0 < i
            · have h0' : 0 < i := h0
              have ec0 : (c == 0) = false := by simp; omega
              clear HU HV HNF hform h9 h0 h128
              go_wp2
              go_ret3
              refine ⟨ret3 ?_ ?_ ?_, rfl⟩
              · rw [← HRes.out.1, ← HC.out]; exact HO7.out.1
              · exact HRes.out.2.1
              · exact HRes.out.2.2
            · have h0' : ¬ 0 < i := h0
              clear HU HV HNF hform h9 h0 h128
              go_wp2
              go_ret3
              refine ⟨ret3 ?_ ?_ ?_, rfl⟩
              · rw [← HRes.out.1, ← HC.out]; exact HO7.out.1
              · exact HRes.out.2.1
              · exact HRes.out.2.2
          · have e1 : decide (c < 128) = false := by simpa using h128
            have HS : Hid (URel zs p (i + 1) (v + c % 128 * 2 ^ (7 * i)) r1 r2 r3) := by
              have h := HU.out.step hi HlZ.out HNF.out (by rw [← HC.out]; exact h128)
              rw [← HC.out] at h
              exact h
            have h9' : i < 9 := by omega
            have HNN : Hid (0 ≤ v + c % 128 * 2 ^ (7 * i) ∧ v + c % 128 * 2 ^ (7 * i) ≤ 9223372036854775807) := by
              have hp : (0 : Int) < 2 ^ (7 * i) := Int.pow_pos (by decide)
              have := Int.mul_nonneg (show 0 ≤ c % 128 by omega) (Int.le_of_lt hp)
              have h1 := HO7.out.2.2 h9'
              have h2 : (2 : Int) ^ (7 * (i + 1)) ≤ 2 ^ 63 := by exact_mod_cast Nat.pow_le_pow_right (by decide) (by omega : 7 * (i + 1) ≤ 63)
              constructor <;> omega
            by_cases h0 : 0 < i
            · have h0' : 0 < i := h0
              have ec0 : (c == 0) = false := by simp; omega
              clear HU HV HNF hform h9 h0 h128
              go_wp2
              go_round
              case rel => exact ⟨i + 1, v + c % 128 * 2 ^ (7 * i), by omega, HNN.out.1, HNN.out.2, HO7.out.2.2 h9', HS.out, by rw [HO7.out.1], by go_num, rfl, rfl, rfl⟩
              case measure => simp [intOf]; omega
            · have h0' : ¬ 0 < i := h0
              clear HU HV HNF hform h9 h0 h128
              go_wp2
              go_round
              case rel => exact ⟨i + 1, v + c % 128 * 2 ^ (7 * i), by omega, HNN.out.1, HNN.out.2, HO7.out.2.2 h9', HS.out, by rw [HO7.out.1], by go_num, rfl, rfl, rfl⟩
              case measure => simp [intOf]; omega
    · have hd : decide ((L : Int) ≤ (p : Int) + (i : Int)) = true := by simp; omega
      have HRes : Hid (r1 = 0 ∧ r2 = 0 ∧ r3 = 20) := HU.out.over hi (by have := HL.out; omega)
      go_wp2
      go_ret3
      exact ⟨ret3 HRes.out.1.symm HRes.out.2.1.symm HRes.out.2.2.symm, rfl⟩
end Go.Proofs.YtekejnjaiccnbaaGreatDoor

/- The document's own Sum. -/
namespace Go.Proofs.YtekejnjaiccnbaaGreatDoor
open Go.RowKit

def SumAt (zs : List Int) (j : Nat) (c : Int) : Prop := c = crcL 4294967295 (zs.take j)
theorem SumAt.next {zs : List Int} {j : Nat} {c : Int} (h : SumAt zs j c) (hj : j < zs.length) : SumAt zs (j + 1) (crcB c (zs.getD j 0)) := by
  unfold SumAt at h ⊢
  rw [List.take_succ_eq_append_getElem hj, crcL_snoc, ← h]
  simp [List.getD_eq_getElem?_getD, List.getElem?_eq_getElem hj]
theorem SumAt.bd {zs : List Int} {j : Nat} {c : Int} (h : SumAt zs j c) (hz : ∀ z ∈ zs, 0 ≤ z ∧ z ≤ 255) : 0 ≤ c ∧ c ≤ 4294967295 := by
  unfold SumAt at h
  rw [h]
  exact crcL_bd _ _ (by omega) (fun z hm => hz z (List.mem_of_mem_take hm))
def CrcAt (c0 : Int) (k : Nat) (c : Int) : Prop := c = crcN k c0
theorem CrcAt.odd {c0 : Int} {k : Nat} {c : Int} (h : CrcAt c0 k c) (ho : c % 2 = 1) : CrcAt c0 (k + 1) (bits .xor .u32 (c / 2) 3988292384) := by
  unfold CrcAt at h ⊢
  rw [crcN_succ, ← h, crc1, if_pos ho]
theorem CrcAt.even {c0 : Int} {k : Nat} {c : Int} (h : CrcAt c0 k c) (ho : ¬ c % 2 = 1) : CrcAt c0 (k + 1) (c / 2) := by
  unfold CrcAt at h ⊢
  rw [crcN_succ, ← h, crc1, if_neg ho]
theorem CrcAt.bd {c0 : Int} {k : Nat} {c : Int} (h : CrcAt c0 k c) (h0 : 0 ≤ c0 ∧ c0 ≤ 4294967295) : 0 ≤ c ∧ c ≤ 4294967295 := by
  unfold CrcAt at h
  rw [h]; exact crcN_bd _ _ h0

set_option maxHeartbeats 1000000 in
theorem rsum (a : Option Addr) (zs : List Int) (L cap : Nat) (R : Int) (w : World) (hr : Rd w a zs) (hL : zs.length = L) (hz : (L : Int) ≤ 140737488355328) (hR : sumR zs = R) :
    Calls Tryz.prog 117 #[.slice a L cap] w fun e w' => e = .returned (.int .u32 R) ∧ w = w' := by
  have HR : Hid (Rd w a zs) := hr
  have HL : Hid (zs.length = L) := hL
  have HS : Hid (sumR zs = R) := hR
  clear hr hL hR
  go_enter Tryz.func117, Tryz.ntmps117
  go_wp2
  go_loop [3, 4] (fun t3 t4 => ∃ (j : Nat) (c : Int), j ≤ L ∧ SumAt zs j c ∧ t3 = .int .u32 c ∧ t4 = .int .i64 j) (fun _ t4 => L - (intOf t4).toNat)
  case atStart => exact ⟨0, 4294967295, Nat.zero_le _, rfl, rfl, rfl⟩
  case round =>
    obtain ⟨j, c, hj, hs, rfl, rfl⟩ := hrel
    have HJ : Hid (SumAt zs j c) := hs
    have hcb := hs.bd HR.out.2
    clear hs
    by_cases hlt : j < L
    · have hl := HL.out
      obtain ⟨b, off, rfl, hc⟩ := HR.out.at (by omega)
      have hcell := hc j (by omega)
      have hby := HR.out.byte j
      have HN : Hid (SumAt zs (j + 1) (crcB c (zs.getD j 0))) := HJ.out.next (by omega)
      obtain ⟨z, ez⟩ : ∃ z, z = zs.getD j 0 := ⟨_, rfl⟩
      rw [← ez] at hcell hby HN
      have hxb := xor32_bd c z hcb (by omega)
      have HX : Hid (0 ≤ bits .xor .u32 c z ∧ bits .xor .u32 c z ≤ 4294967295) := hxb
      clear hc ez hl HJ
      go_wp2
      obtain ⟨c0, ec0⟩ : ∃ c0, c0 = bits .xor .u32 c z := ⟨_, rfl⟩
      rw [← ec0] at HX ⊢
      have HN' : Hid (∀ c8, CrcAt c0 8 c8 → SumAt zs (j + 1) c8) := by
        intro c8 h
        unfold CrcAt at h
        rw [h, ec0]
        exact HN.out
      clear ec0 HN hcell hxb
      go_loop [3, 5] (fun t3 t5 => ∃ (k : Nat) (d : Int), k ≤ 8 ∧ CrcAt c0 k d ∧ t3 = .int .u32 d ∧ t5 = .int .i64 k) (fun _ t5 => 8 - (intOf t5).toNat)
      case atStart => exact ⟨0, c0, by omega, rfl, rfl, rfl⟩
      case round =>
        obtain ⟨k, d, hk, hd, rfl, rfl⟩ := hrel
        have HD : Hid (CrcAt c0 k d) := hd
        have hdb := hd.bd HX.out
        clear hd
        by_cases hk8 : k < 8
        · by_cases hodd : d % 2 = 1
          · have e1 : (bits .and .u32 d 1 == 1) = true := by rw [and_one32 d hdb, hodd]; rfl
            have HDN : Hid (CrcAt c0 (k + 1) (bits .xor .u32 (d / 2) 3988292384)) := HD.out.odd hodd
            clear hodd
            go_wp2
            go_round
            case rel => exact ⟨k + 1, _, by omega, HDN.out, rfl, by go_num⟩
            case measure => simp [intOf]; omega
          · have e1 : (bits .and .u32 d 1 == 1) = false := by rw [and_one32 d hdb]; simpa using hodd
            have HDN : Hid (CrcAt c0 (k + 1) (d / 2)) := HD.out.even hodd
            clear hodd
            go_wp2
            go_round
            case rel => exact ⟨k + 1, _, by omega, HDN.out, rfl, by go_num⟩
            case measure => simp [intOf]; omega
        · have hk' : k = 8 := by omega
          subst hk'
          go_wp2
          go_round
          case rel => exact ⟨j + 1, d, by omega, HN'.out d HD.out, rfl, by go_num⟩
          case measure => simp [intOf]; omega
    · have HE : Hid (bits .xor .u32 c 4294967295 = R) := by
        have h1 := HJ.out
        unfold SumAt at h1
        rw [List.take_of_length_le (by have := HL.out; omega)] at h1
        show _ = _
        rw [h1]; exact HS.out
      go_wp2
      go_ret
      exact ⟨ret_int HE.out, rfl⟩
end Go.Proofs.YtekejnjaiccnbaaGreatDoor

