/- Several texts in one: Dnum, Dnumb, Dread, Dnext, Dcat, Dput, Dtext, Hint. -/
import Derived.Test.YtecnocdffhmkaaaDoorMb
import Derived.Lib.SlBytesRow
import Derived.Lib.AppendZeros
import Derived.Lib.ConvBytes
import Derived.Laws.BitsAllLaws
/- The program's number, folded, unfolded, needless, above, eightHalves. -/
namespace Go.Proofs.YtecnocdffhmkaaaDoor
open Go.RowKit
set_option linter.unusedVariables false

/-- A slice of bytes that the call made, or none yet. -/
def OwnV (w : World) (base : Nat) (v : Value) (n : Nat) (zs : List Int) : Prop := w.ownsRow base 5 1 v n (bs zs) ∧ ∀ z ∈ zs, 0 ≤ z ∧ z ≤ 255
theorem OwnV.nil (w : World) (base : Nat) : OwnV w base (.slice none 0 0) 0 [] := ⟨World.ownsRow_nil w base 5 1, by simp⟩
theorem Own.v {w : World} {base g n cap : Nat} {zs : List Int} (h : Own w base g n cap zs) : OwnV w base (.slice (some ⟨g, 0, none⟩) n cap) n zs := h
theorem OwnV.len {w : World} {base n : Nat} {v : Value} {zs : List Int} (h : OwnV w base v n zs) : zs.length = n := by
  have := h.1.1; rw [bs_len] at this; omega
theorem OwnV.kept {w w' : World} {row : Option Nat} {base n : Nat} {v : Value} {zs : List Int} (h : OwnV w base v n zs) (hg : w.grownBy w' row) (hne : v.ownBlock = none ∨ v.ownBlock ≠ row) : OwnV w' base v n zs :=
  ⟨h.1.kept hg hne, h.2⟩
theorem OwnV.block {w : World} {base n : Nat} {v : Value} {zs : List Int} (h : OwnV w base v n zs) : ∀ k, v.ownBlock = some k → base ≤ k ∧ k < w.heap.size := h.1.lt

/-- append(out, xs...): out is the call's own or none, xs are some bytes. -/
theorem wpList_append_v {w : World} {ops : Array Oper} {rest : List Oper} {o : Oper} {a : Act} {Q : Exit → Act → World → Prop} (hgd : o.guard = none) (s x : Operand)
    (ho : o.op = .call { callee := .builtin .append, args := #[s, x], argTypes := #[33, 33] }) (base : Nat) (v : Value) (n : Nat) (xs : List Int) (hs : a.eval s = v) (hown : OwnV w base v n xs)
    (src : Addr) (zs : List Int) (m cap : Nat) (hx : a.eval x = .slice (some src) m cap) (hm : zs.length = m) (hr : Rd w (some src) zs) (h0 : 0 < m) (hlen : n + m ≤ 140737488355328) (hb : base ≤ w.heap.size)
    (h : ∀ g c w', Own w' base g (n + m) c (xs ++ zs) → w.grownBy w' v.ownBlock → wpList Tryd.prog ops Q rest (a.put o.dst (.slice (some ⟨g, 0, none⟩) (n + m) c)) w') : wpList Tryd.prog ops Q (o :: rest) a w := by
  obtain ⟨i0, hi, hz0, hz1, hz2⟩ := info_parts info5
  subst hm
  refine wpList_append_own _ hgd s x 33 ho base 5 i0 (.int .u8 0) 1 1 Tryd.underlying33 hi hz0 hz1 hz2 rfl (by decide) _ n (bs xs) hs hown.1 src zs.length cap (bs zs) hx (by rw [bs_len]; omega) hr.news (bs_one zs) (by unfold maxLen; omega) (by omega) hb ?_
  intro v' w' hown' hg hne
  rw [← bs_app] at hown'
  obtain ⟨g, c, rfl, ho'⟩ := Own.of hown' (fun h => by have := (hne.1 h).2; omega) (fun z hz => by
    rcases List.mem_append.1 hz with h1 | h1
    · exact hown.2 z h1
    · exact hr.2 z h1)
  exact h g c w' ho' hg

set_option maxRecDepth 100000 in
theorem or8_128 (v : Int) (h0 : 0 ≤ v) (h1 : v ≤ 255) : bits .or .u8 v 128 = v % 128 + 128 := by
  rw [u8_or v 128 h0 (by omega) (by decide) (by decide)]
  have e : (128 : Int).toNat = 128 := rfl
  rw [e]
  obtain ⟨V, rfl⟩ := Int.eq_ofNat_of_zero_le h0
  rw [Int.toNat_natCast]
  have hV : V ≤ 255 := by omega
  have key : ∀ V : Fin 256, V.val ||| 128 = V.val % 128 + 128 := by decide
  have := key ⟨V, by omega⟩
  simp only at this
  rw [this]
  omega
theorem le_alloc {n : Nat} {w : World} {o : Obj} (h : n ≤ w.heap.size) : n ≤ (w.alloc o).heap.size := Nat.le_trans h (World.grownBy_alloc w o none).size
theorem low_or (u : Int) (h0 : 0 ≤ u) : bits .or .u8 (u % 256) 128 = u % 128 + 128 := by
  rw [or8_128 _ (by omega) (by omega)]
  omega

set_option maxHeartbeats 400000 in
theorem g_number (v : Int) (w : World) (hv : 0 ≤ v ∧ v ≤ 18446744073709551615) :
    Calls Tryd.prog 59 #[.int .u64 v] w fun e w' => ∃ g c N, e = .returned (.slice (some ⟨g, 0, none⟩) N c) ∧ Own w' w.heap.size g N c (enc v.toNat) ∧ w.grownBy w' none := by
  obtain ⟨Y, hY⟩ : ∃ Y, enc v.toNat = Y := ⟨_, rfl⟩
  have HY : Hid (EncRel Y [] v) := by show [] ++ _ = _; rw [List.nil_append]; exact hY
  have HYL : Hid (Y.length ≤ 10) := by
    show _ ≤ _
    have h2 := enc_len v.toNat (by omega)
    rw [← hY]; omega
  rw [hY]
  clear hY
  go_enter Tryd.func59, Tryd.ntmps59
  go_wp2
  go_loopw [0, 3] (fun t0 t3 wr => ∃ (u : Int) (M : Nat) (zk : List Int), 0 ≤ u ∧ u ≤ 18446744073709551615 ∧ t0 = .int .u64 u ∧ OwnV wr w.heap.size t3 M zk ∧ EncRel Y zk u ∧ w.grownBy wr none) (fun t0 _ _ => (intOf t0).toNat)
  case atStart => exact ⟨v, 0, [], hv.1, hv.2, rfl, OwnV.nil _ _, HY.out, World.grownBy.refl _ _⟩
  case round =>
    obtain ⟨u, M, zk, hu0, hu, rfl, ho, he, hg⟩ := hrel
    have HO : Hid (OwnV wr w.heap.size u3 M zk) := ho
    have HE : Hid (EncRel Y zk u) := he
    have hM : M ≤ 100 := by
      have h1 := he.len
      have h2 := HYL.out
      have h3 := ho.len
      omega
    have HG : Hid (∀ (w2 : World) (o : Obj), (wr.alloc o).grownBy w2 u3.ownBlock → w.grownBy w2 none) := fun w2 o hg2 =>
      gb_trans (gb_trans hg (World.grownBy_alloc wr _ none) (by simp)) hg2 (fun i hi => .inl (ho.block i hi).1)
    have HW : Hid (w.heap.size ≤ wr.heap.size) := hg.size
    clear ho he hg hv HY
    by_cases hlt : u < 128
    · have hub : 0 ≤ u ∧ u ≤ 255 := by omega
      have hd : decide (128 ≤ u) = false := by simp; omega
      go_wp2_with (at_builtin; refine wpList_append_v rfl (.tmp 14) (.tmp 17) rfl w.heap.size u3 M zk rfl (HO.out.kept (World.grownBy_alloc wr _ none) (Classical.em _)) ⟨wr.heap.size, 0, none⟩ [u] 1 1 rfl rfl (rd_one wr _ hub) (by omega) (by omega) (le_alloc HW.out) ?_; intro g2 c2 w2 ho2 hg2)
      go_ret
      refine ⟨g2, c2, M + 1, rfl, ?_, HG.out _ _ hg2⟩
      rw [HE.out.small hu0 hlt] at ho2
      exact ho2
    · have hd : decide (128 ≤ u) = true := by simp; omega
      have HX : Hid (bits .or .u8 (u % 256) 128 = u % 128 + 128) := low_or u hu0
      have hxb : 0 ≤ bits .or .u8 (u % 256) 128 ∧ bits .or .u8 (u % 256) 128 ≤ 255 := by rw [HX.out]; omega
      go_wp2_with (at_builtin; refine wpList_append_v rfl (.tmp 6) (.tmp 10) rfl w.heap.size u3 M zk rfl (HO.out.kept (World.grownBy_alloc wr _ none) (Classical.em _)) ⟨wr.heap.size, 0, none⟩ [bits .or .u8 (u % 256) 128] 1 1 rfl rfl (rd_one wr _ hxb) (by omega) (by omega) (le_alloc HW.out) ?_; intro g2 c2 w2 ho2 hg2)
      go_roundw
      case rel => exact ⟨u / 128, M + 1, _, by omega, by omega, rfl, ho2.v, by rw [HX.out]; exact HE.out.big (by omega), HG.out _ _ hg2⟩
      case measure => simp [intOf]; omega

theorem not_any (y : Int) : ((BitVec.ofInt 64 (-1) ^^^ BitVec.ofInt 64 y).toNat : Int) = 18446744073709551615 - y % 18446744073709551616 := by
  have e : BitVec.ofInt 64 (-1) = BitVec.allOnes 64 := by decide
  rw [e, BitVec.allOnes_xor, BitVec.toNat_not, BitVec.toNat_ofInt]
  have : ((2 ^ 64 : Nat) : Int) = 18446744073709551616 := by decide
  rw [this]
  omega
theorem wrap64_nat (t : Int) (h0 : 0 ≤ t) (h1 : t ≤ 18446744073709551615) : IntKind.i64.wrap t = (t + 9223372036854775808) % 18446744073709551616 - 9223372036854775808 := by
  simp [IntKind.wrap, IntKind.bits, IntKind.signed]
  split <;> omega
theorem not64 (y : Int) (h0 : 0 ≤ y) (h1 : y ≤ 18446744073709551615) : bits .xor .u64 18446744073709551615 y = 18446744073709551615 - y := by
  have e : bits .xor .u64 18446744073709551615 y = IntKind.u64.wrap ((BitVec.ofInt 64 18446744073709551615 ^^^ BitVec.ofInt 64 y).toNat : Int) := rfl
  rw [e, show BitVec.ofInt 64 18446744073709551615 = BitVec.ofInt 64 (-1) by decide, not_any, IntKind.wrap_u64]
  omega
theorem noti64 (y : Int) (h0 : 0 ≤ y) (h1 : y ≤ 9223372036854775807) : bits .xor .i64 (-1) y = -y - 1 := by
  have e : bits .xor .i64 (-1) y = IntKind.i64.wrap ((BitVec.ofInt 64 (-1) ^^^ BitVec.ofInt 64 y).toNat : Int) := rfl
  rw [e, not_any, wrap64_nat _ (by omega) (by omega)]
  omega

theorem g_needless (i : Nat) (c : Int) (w : World) (b : Bool) (hb : b = true ↔ 0 < i ∧ c = 0) :
    Calls Tryd.prog 88 #[.int .i64 i, .int .u8 c] w fun e w' => e = .returned (.bool b) ∧ w = w' := by
  by_cases h0 : 0 < i
  · by_cases h1 : c = 0
    · obtain rfl : b = true := hb.2 ⟨h0, h1⟩
      subst h1
      go_enter Tryd.func88, Tryd.ntmps88
      go_wp2
      go_ret
      exact ⟨rfl, rfl⟩
    · obtain rfl : b = false := Bool.eq_false_iff.2 (fun h => by have := hb.1 h; omega)
      have e : (c == 0) = false := by simpa using h1
      go_enter Tryd.func88, Tryd.ntmps88
      go_wp2
      go_ret
      exact ⟨rfl, rfl⟩
  · obtain rfl : b = false := Bool.eq_false_iff.2 (fun h => by have := hb.1 h; omega)
    go_enter Tryd.func88, Tryd.ntmps88
    go_wp2
    go_ret
    exact ⟨rfl, rfl⟩
theorem g_above (i : Nat) (c : Int) (w : World) (b : Bool) (hb : b = true ↔ i = 9 ∧ 1 < c) :
    Calls Tryd.prog 89 #[.int .i64 i, .int .u8 c] w fun e w' => e = .returned (.bool b) ∧ w = w' := by
  by_cases h0 : i = 9
  · have e0 : ((i : Int) == 9) = true := by simp; omega
    by_cases h1 : 1 < c
    · obtain rfl : b = true := hb.2 ⟨h0, h1⟩
      have e : decide (1 < c) = true := by simpa using h1
      clear h0 hb
      go_enter Tryd.func89, Tryd.ntmps89
      go_wp2
      go_ret
      exact ⟨rfl, rfl⟩
    · obtain rfl : b = false := Bool.eq_false_iff.2 (fun h => by have := hb.1 h; omega)
      have e : decide (1 < c) = false := by simpa using h1
      clear h0 hb
      go_enter Tryd.func89, Tryd.ntmps89
      go_wp2
      go_ret
      exact ⟨rfl, rfl⟩
  · obtain rfl : b = false := Bool.eq_false_iff.2 (fun h => by have := hb.1 h; omega)
    have e0 : ((i : Int) == 9) = false := by simp; omega
    clear hb
    go_enter Tryd.func89, Tryd.ntmps89
    go_wp2
    go_ret
    exact ⟨rfl, rfl⟩
end Go.Proofs.YtecnocdffhmkaaaDoor

/- The program's reader: its method number. -/
namespace Go.Proofs.YtecnocdffhmkaaaDoor
set_option maxRecDepth 20000
open Go.RowKit
set_option linter.unusedVariables false

/-- A reader: its bytes and its place. -/
def At (w : World) (r : Nat) (a : Option Addr) (L cap : Nat) (p : Int) : Prop := w.heap[r]? = some (.cells #[.slice a L cap, .int .i64 p] 93 (0, 0))
section
variable {w w' : World} {r : Nat} {a : Option Addr} {L cap : Nat} {p : Int}
theorem At.bytes (h : At w r a L cap p) : w.cell? ⟨r, 0, none⟩ = some (.slice a L cap) := by rw [cell_of_row w r 0 _ _ _ h]; rfl
theorem At.place (h : At w r a L cap p) : w.cell? ⟨r, 1, none⟩ = some (.int .i64 p) := by rw [cell_of_row w r 1 _ _ _ h]; rfl
theorem At.free (h : At w r a L cap p) : w.frozen? ⟨r, 1, none⟩ = false := by unfold At at h; simp [World.frozen?, h]
theorem At.lt (h : At w r a L cap p) : r < w.heap.size := (Array.getElem?_eq_some_iff.1 h).1
theorem At.set (h : At w r a L cap p) (q : Int) : At (w.setCell ⟨r, 1, none⟩ (.int .i64 q)) r a L cap q := by
  unfold At
  rw [setCell_eq_setRow w r 1 _ 93 (0, 0) _ h, setRow_heap w r _ _ 93 _ h]
  rfl
theorem At.grown (h : At w r a L cap p) (hg : w.grownBy w' none) : At w' r a L cap p := (hg.block r h.lt (by simp)).trans h
theorem At.draw (h : At w r a L cap p) (n : Nat) : At (w.drewN n) r a L cap p := h
end
theorem ret2 {a a' b b' : Int} {ka kb : IntKind} (h : a = a') (h1 : b = b') : Ending.returned (.tuple #[.int ka a, .int kb b]) = .returned (.tuple #[.int ka a', .int kb b']) := by rw [h, h1]

theorem num_out (r : Nat) (a : Option Addr) (L cap : Nat) (p : Int) (w : World) (h : At w r a L cap p) (hp : p < 0 ∨ (L : Int) < p) :
    Calls Tryd.prog 79 #[.pointer (some ⟨r, 0, none⟩)] w fun e w' => e = .returned (.tuple #[.int .u64 0, .int .i64 20]) ∧ w.grownBy w' none := by
  have c0 := h.bytes
  have c1 := h.place
  clear h
  by_cases h0 : p < 0
  · have d1 : decide (p < 0) = true := by simpa using h0
    clear h0 hp
    go_enter Tryd.func79, Tryd.ntmps79
    go_wp2
    go_quiet (fail)
    go_wp2
    go_ret2
    exact ⟨rfl, gb_drewN _ _⟩
  · have d1 : decide (p < 0) = false := by simpa using h0
    have d2 : decide ((L : Int) < p) = true := by simp; omega
    clear h0 hp
    go_enter Tryd.func79, Tryd.ntmps79
    go_wp2
    go_quiet (fail)
    go_wp2
    go_ret2
    exact ⟨rfl, gb_drewN _ _⟩

theorem or7b (v c : Int) (i : Nat) (hv0 : 0 ≤ v) (hv : v < 2 ^ (7 * i)) (hi : i ≤ 9) (hc : 0 ≤ c ∧ c ≤ 255) (h9 : i = 9 → c ≤ 1) :
    bits .or .u64 v (IntKind.u64.wrap (c % 128 * 2 ^ (i * 7))) = v + c % 128 * 2 ^ (7 * i) ∧ v + c % 128 * 2 ^ (7 * i) ≤ 18446744073709551615 ∧ (i < 9 → v + c % 128 * 2 ^ (7 * i) < 2 ^ (7 * (i + 1))) := by
  have h := or7 v c i hv0 hv hi hc h9
  have e1 : bits .and .u8 c 127 = c % 128 := by
    rw [u8_and c 127 hc.1 (by omega) (by decide) (by decide)]
    have : (127 : Int).toNat = 127 := rfl
    rw [this, nat_mask7]
    omega
  rw [e1, show IntKind.u64.wrap (c % 128) = c % 128 by rw [IntKind.wrap_u64]; omega] at h
  rw [Nat.mul_comm i 7]
  exact h

set_option maxHeartbeats 2000000 in
theorem num_in (r : Nat) (a : Option Addr) (zs : List Int) (L cap : Nat) (p : Nat) (r1 r2 r3 : Int) (w : World) (h : At w r a L cap p) (hr : Rd w a zs) (hL : zs.length = L) (hcap : L ≤ cap) (hz : (L : Int) ≤ 140737488355000) (hp : p ≤ L) (hR : ud zs p 10 0 0 = (r1, r2, r3)) :
    Calls Tryd.prog 79 #[.pointer (some ⟨r, 0, none⟩)] w fun e w' => e = .returned (.tuple #[.int .u64 r1, .int .i64 r3]) ∧ w.grownBy w' (some r) ∧ (r3 = 0 → At w' r a L cap r2) := by
  have d1 : decide ((p : Int) < 0) = false := by simp
  have d2 : decide ((L : Int) < (p : Int)) = false := by simp; omega
  have d3 : decide (L < p) = false := by simp; omega
  have c0 := h.bytes
  have c1 := h.place
  have HA : Hid (At w r a L cap p) := h
  have HR : Hid (Rd w a zs) := hr
  have HL : Hid (zs.length = L) := hL
  have H0 : Hid (URel zs p 0 0 r1 r2 r3) := hR
  have hsl : ∀ w, (Instr.slice 33 (.slice a L cap) (some (.int .i64 (p : Int))) none none).run Tryd.prog w = .ok (.slice (if cap = p then a else a.map (·.add p)) (L - p) (cap - p)) w := by
    intro w
    have e5 : Tryd.prog.elem 33 = 5 := by simp [Program.elem, Tryd.underlying33]
    rw [run_slice_l w 33 a L cap (by rw [e5]; exact Tryd.underlying33) .i64 (p : Int) (by omega) (by omega), e5]
    have hz5 : (sizeOf 5).run Tryd.prog w = .ok 1 w := by
      obtain ⟨i0, hi, _, hz1, _⟩ := info_parts info5
      simp [sizeOf, typeInfo, hi, hz1]
    rw [hz5]
    simp [Result.andThen, sliced]
  generalize hv : (if cap = p then a else a.map (·.add p)) = v at hsl
  have HG0 : Hid (w.grownBy w none) := World.grownBy.refl _ _
  clear h hr hL hR
  obtain ⟨w0, ew⟩ : ∃ w0, w0 = w := ⟨_, rfl⟩
  have HW : Hid (w0 = w) := ew
  rw [← HW.out]
  rw [ew.symm] at c0 c1 HA HR
  have HG0 : Hid (w0.grownBy w0 none) := World.grownBy.refl _ _
  clear ew
  go_enter Tryd.func79, Tryd.ntmps79
  go_wp2
  go_quiet (fail)
  obtain ⟨w1, ew⟩ : ∃ w1, w1 = w0.drewN nq := ⟨_, rfl⟩
  rw [← ew]
  have d0 : w1.cell? ⟨r, 0, none⟩ = some (.slice a L cap) := by rw [ew]; exact c0
  have d1 : w1.cell? ⟨r, 1, none⟩ = some (.int .i64 (p : Int)) := by rw [ew]; exact c1
  have HA1 : Hid (At w1 r a L cap p) := by show At _ _ _ _ _ _; rw [ew]; exact HA.out
  have HR1 : Hid (Rd w1 a zs) := by show Rd _ _ _; rw [ew]; exact HR.out
  have HG1 : Hid (w0.grownBy w1 none) := by show World.grownBy _ _ _; rw [ew]; exact gb_drewN _ _
  clear ew c0 c1 HA HR
  go_wp2
  go_quiet (fail)
  obtain ⟨w2, ew⟩ : ∃ w2, w2 = w1.drewN nq := ⟨_, rfl⟩
  rw [← ew]
  have c0 : w2.cell? ⟨r, 0, none⟩ = some (.slice a L cap) := by rw [ew]; exact d0
  have c1 : w2.cell? ⟨r, 1, none⟩ = some (.int .i64 (p : Int)) := by rw [ew]; exact d1
  have HA : Hid (At w2 r a L cap p) := by show At _ _ _ _ _ _; rw [ew]; exact HA1.out
  have HR : Hid (Rd w2 a zs) := by show Rd _ _ _; rw [ew]; exact HR1.out
  have HG : Hid (w0.grownBy w2 none) := by show World.grownBy _ _ _; rw [ew]; exact HG1.out.trans (gb_drewN _ _)
  clear ew d0 d1 HA1 HR1 HG1
  go_wp2
  go_loop [4, 34] (fun t4 t34 => ∃ (i : Nat) (v : Int), i ≤ 9 ∧ 0 ≤ v ∧ v ≤ 9223372036854775807 ∧ v < 2 ^ (7 * i) ∧ URel zs p i v r1 r2 r3 ∧ t4 = .int .u64 v ∧ t34 = .int .i64 i) (fun _ t34 => 10 - (intOf t34).toNat)
  case atStart => exact ⟨0, 0, by omega, by omega, by omega, by decide, H0.out, rfl, rfl⟩
  case round =>
    obtain ⟨i, x, hi, hx0, hx1, hx2, hu, rfl, rfl⟩ := hrel
    have HU : Hid (URel zs p i x r1 r2 r3) := hu
    have HV : Hid (x < 2 ^ (7 * i)) := hx2
    clear hu hx2 H0
    by_cases hlt : i < L - p
    · have hl := HL.out
      obtain ⟨b, off, rfl, hc⟩ := HR.out.at (by omega)
      obtain rfl : v = some ⟨b, off + p, none⟩ := by
        rw [← hv, if_neg (by omega)]
        by_cases h0 : p = 0
        · subst h0; rfl
        · simp [Addr.add, h0]
      have hcell := hc (p + i) (by omega)
      rw [← Nat.add_assoc] at hcell
      have hby := HR.out.byte (p + i)
      have HlZ : Hid (p + i < zs.length) := by show _ < _; omega
      obtain ⟨c, ec⟩ : ∃ c, c = zs.getD (p + i) 0 := ⟨_, rfl⟩
      rw [← ec] at hcell hby
      have HC : Hid (c = zs.getD (p + i) 0) := ec
      clear hc ec hl hv
      have HB1 : Hid (∀ w b, (b = true ↔ 0 < i ∧ c = 0) → Calls Tryd.prog 88 #[.int .i64 i, .int .u8 c] w fun e w' => e = .returned (.bool b) ∧ w = w') := fun w b h => g_needless i c w b h
      have HB2 : Hid (∀ w b, (b = true ↔ i = 9 ∧ 1 < c) → Calls Tryd.prog 89 #[.int .i64 i, .int .u8 c] w fun e w' => e = .returned (.bool b) ∧ w = w') := fun w b h => g_above i c w b h
      by_cases hform : i = 9 ∧ 1 < c ∨ 0 < i ∧ c = 0
      · have HRes : Hid (r1 = 0 ∧ r2 = 0 ∧ r3 = 21) := HU.out.form hi HlZ.out (by rw [← HC.out]; exact hform)
        by_cases hn : 0 < i ∧ c = 0
        · have HQ : Hid (0 < i ∧ c = 0) := hn
          clear HU HV HlZ HC hform hn
          go_wp2_with (go_at_call 88; refine (HB1.out _ true (by simpa using HQ.out)).mono ?_; rintro e w1 ⟨rfl, rfl⟩)
          go_ret2
          exact ⟨ret2 HRes.out.1.symm HRes.out.2.2.symm, gb_any HG.out _, fun h => by have := HRes.out.2.2; omega⟩
        · have HQ : Hid ((i = 9 ∧ 1 < c) ∧ ¬ (0 < i ∧ c = 0)) := ⟨by omega, hn⟩
          clear HU HV HlZ HC hform hn
          go_wp2_with (first | (go_at_call 88; refine (HB1.out _ false (by simpa using HQ.out.2)).mono ?_; rintro e w1 ⟨rfl, rfl⟩) | (go_at_call 89; refine (HB2.out _ true (by simpa using HQ.out.1)).mono ?_; rintro e w1 ⟨rfl, rfl⟩))
          go_ret2
          exact ⟨ret2 HRes.out.1.symm HRes.out.2.2.symm, gb_any HG.out _, fun h => by have := HRes.out.2.2; omega⟩
      · have HQ : Hid (¬ (i = 9 ∧ 1 < c) ∧ ¬ (0 < i ∧ c = 0)) := ⟨by omega, by omega⟩
        have HNF : Hid (¬ (i = 9 ∧ 1 < zs.getD (p + i) 0 ∨ 0 < i ∧ zs.getD (p + i) 0 = 0)) := by rw [← HC.out]; exact hform
        have HO7 : Hid (_ ∧ _ ∧ _) := or7b x c i hx0 HV.out hi hby (fun h => by omega)
        have hi7 : ((i : Int) * 7) ≤ 63 := by omega
        by_cases h128 : c < 128
        · have e1 : decide (c < 128) = true := by simpa using h128
          have HRes : Hid (_ ∧ _ ∧ _) := HU.out.done hi HlZ.out HNF.out (by rw [← HC.out]; exact h128)
          have hfro := HA.out.free
          have hpi : (p : Int) + ((i : Int) + 1) ≤ 140737488355001 := by omega
          clear HU HV HNF hform h128
          go_wp2_with (first | (go_at_call 88; refine (HB1.out _ false (by simpa using HQ.out.2)).mono ?_; rintro e w1 ⟨rfl, rfl⟩) | (go_at_call 89; refine (HB2.out _ false (by simpa using HQ.out.1)).mono ?_; rintro e w1 ⟨rfl, rfl⟩))
          go_ret2
          refine ⟨ret2 ?_ HRes.out.2.2, ?_, fun h => ?_⟩
          · rw [← HRes.out.1, ← HC.out]; exact HO7.out.1
          · exact gb_trans (gb_any HG.out (some r)) (gb_set rfl) (fun k hk => .inr hk)
          · rw [← HRes.out.2.1, Int.add_assoc]
            exact HA.out.set _
        · have e1 : decide (c < 128) = false := by simpa using h128
          have HS : Hid (URel zs p (i + 1) (x + c % 128 * 2 ^ (7 * i)) r1 r2 r3) := by
            have h := HU.out.step hi HlZ.out HNF.out (by rw [← HC.out]; exact h128)
            rw [← HC.out] at h
            exact h
          have h9' : i < 9 := by omega
          have HNN : Hid (0 ≤ x + c % 128 * 2 ^ (7 * i) ∧ x + c % 128 * 2 ^ (7 * i) ≤ 9223372036854775807) := by
            have hp : (0 : Int) < 2 ^ (7 * i) := Int.pow_pos (by decide)
            have := Int.mul_nonneg (show 0 ≤ c % 128 by omega) (Int.le_of_lt hp)
            have h1 := HO7.out.2.2 h9'
            have h2 : (2 : Int) ^ (7 * (i + 1)) ≤ 2 ^ 63 := by exact_mod_cast Nat.pow_le_pow_right (by decide) (by omega : 7 * (i + 1) ≤ 63)
            constructor <;> omega
          clear HU HV HNF hform h128
          go_wp2_with (first | (go_at_call 88; refine (HB1.out _ false (by simpa using HQ.out.2)).mono ?_; rintro e w1 ⟨rfl, rfl⟩) | (go_at_call 89; refine (HB2.out _ false (by simpa using HQ.out.1)).mono ?_; rintro e w1 ⟨rfl, rfl⟩))
          go_round
          case rel => exact ⟨i + 1, x + c % 128 * 2 ^ (7 * i), by omega, HNN.out.1, HNN.out.2, HO7.out.2.2 h9', HS.out, by rw [HO7.out.1], by go_num⟩
          case measure => simp [intOf]; omega
    · have HRes : Hid (r1 = 0 ∧ r2 = 0 ∧ r3 = 20) := HU.out.over hi (by have := HL.out; omega)
      go_wp2
      go_ret2
      exact ⟨ret2 HRes.out.1.symm HRes.out.2.2.symm, gb_any HG.out _, fun h => by have := HRes.out.2.2; omega⟩

/-- What the method number answers, and where the reader stands then. -/
theorem g_num (r : Nat) (a : Option Addr) (zs : List Int) (L cap : Nat) (p r1 r2 r3 : Int) (w : World) (h : At w r a L cap p) (hr : Rd w a zs) (hL : zs.length = L) (hcap : L ≤ cap) (hz : (L : Int) ≤ 140737488355000) (hR : uintR zs p = (r1, r2, r3)) :
    Calls Tryd.prog 79 #[.pointer (some ⟨r, 0, none⟩)] w fun e w' => e = .returned (.tuple #[.int .u64 r1, .int .i64 r3]) ∧ w.grownBy w' (some r) ∧ (r3 = 0 → At w' r a L cap r2) := by
  unfold uintR at hR
  by_cases hp : p < 0 ∨ (zs.length : Int) < p
  · rw [if_pos hp] at hR
    simp only [Prod.mk.injEq] at hR
    obtain ⟨rfl, rfl, rfl⟩ := hR
    refine (num_out r a L cap p w h (by omega)).mono ?_
    rintro e w' ⟨rfl, hg⟩
    exact ⟨rfl, gb_any hg _, fun h => by omega⟩
  · rw [if_neg hp] at hR
    obtain ⟨q, rfl⟩ := Int.eq_ofNat_of_zero_le (show 0 ≤ p by omega)
    rw [Int.toNat_natCast] at hR
    exact num_in r a zs L cap q r1 r2 r3 w h hr hL hcap hz (by omega) hR
end Go.Proofs.YtecnocdffhmkaaaDoor

/- The program's readers: read at each of its types. -/
namespace Go.Proofs.YtecnocdffhmkaaaDoor
set_option maxRecDepth 20000
open Go.RowKit
set_option linter.unusedVariables false

set_option maxHeartbeats 400000 in
theorem read_s (r : Nat) (V : Value) (q e3 : Int) (w : World) (Q : World → Prop) (HC : Calls Tryd.prog 69 #[.pointer (some ⟨r, 0, none⟩)] w fun e w' => e = .returned (.tuple #[V, .int .i64 e3]) ∧ Q w')
    (hq : ∀ w', Q w' → e3 = 0 → w'.cell? ⟨r, 1, none⟩ = some (.int .i64 q)) (hd : ∀ w' n, Q w' → Q (w'.drewN n)) :
    Calls Tryd.prog 68 #[.pointer (some ⟨r, 0, none⟩), .func (.func 69) #[.pointer (some ⟨r, 0, none⟩)] #[]] w fun e w' => e = .returned (.tuple #[if e3 = 0 then V else .string ⟨#[]⟩, .int .i64 (if e3 = 0 then q else 0), .int .i64 e3]) ∧ Q w' := by
  have HQ : Hid (∀ w', Q w' → e3 = 0 → w'.cell? ⟨r, 1, none⟩ = some (.int .i64 q)) := hq
  have HD : Hid (∀ w' n, Q w' → Q (w'.drewN n)) := hd
  have HCC : Hid (Calls Tryd.prog 69 #[.pointer (some ⟨r, 0, none⟩)] w fun e w' => e = .returned (.tuple #[V, .int .i64 e3]) ∧ Q w') := HC
  clear hq hd HC
  by_cases h3 : e3 = 0
  · rw [if_pos h3, if_pos h3]
    have HE : Hid (e3 = 0) := h3
    have hb3 : (e3 != 0) = false := by simpa using h3
    clear h3
    go_enter Tryd.func68, Tryd.ntmps68
    go_wp2_with fail
    refine HCC.out.mono ?_
    rintro e w1 ⟨rfl, hw1⟩
    have HW : Hid (Q w1) := hw1
    have hc := HQ.out w1 hw1 HE.out
    clear hw1
    go_wp2
    go_quiet (fail)
    go_wp2
    go_ret3
    exact ⟨by rw [HE.out]; rfl, HD.out _ _ HW.out⟩
  · rw [if_neg h3, if_neg h3]
    have hb3 : (e3 != 0) = true := by simpa using h3
    clear h3
    go_enter Tryd.func68, Tryd.ntmps68
    go_wp2_with fail
    refine HCC.out.mono ?_
    rintro e w1 ⟨rfl, hw1⟩
    have HW : Hid (Q w1) := hw1
    clear hw1
    go_wp2
    go_ret3
    exact ⟨rfl, HW.out⟩

theorem ud_err (zs : List Int) (p : Nat) : ∀ (f i : Nat) (v r1 r2 r3 : Int), ud zs p f i v = (r1, r2, r3) → r3 ≠ 0 → r1 = 0 ∧ r2 = 0 := by
  intro f
  induction f with
  | zero => intro i v r1 r2 r3 h h3; simp only [ud, Prod.mk.injEq] at h; omega
  | succ f ih =>
    intro i v r1 r2 r3 h h3
    rw [ud] at h
    split at h
    · simp only [Prod.mk.injEq] at h; omega
    · split at h
      · simp only [Prod.mk.injEq] at h; omega
      · split at h
        · simp only [Prod.mk.injEq] at h; omega
        · exact ih _ _ _ _ _ h h3
theorem uintR_err {zs : List Int} {p r1 r2 r3 : Int} (h : uintR zs p = (r1, r2, r3)) (h3 : r3 ≠ 0) : r1 = 0 ∧ r2 = 0 := by
  unfold uintR at h
  split at h
  · simp only [Prod.mk.injEq] at h; omega
  · exact ud_err _ _ _ _ _ _ _ _ h h3
theorem at_new (w : World) (a : Option Addr) (L cap : Nat) (p : Int) : At (w.alloc (.cells #[.slice a L cap, .int .i64 p] 93)) w.heap.size a L cap p := heap_alloc_new w _
theorem gb_reader {w w' : World} {o : Obj} (h : (w.alloc o).grownBy w' (some w.heap.size)) : w.grownBy w' none := gb_trans (World.grownBy_alloc w o none) h (fun k hk => .inl (by simp at hk; omega))
theorem gb_drewR {w w' : World} {row : Option Nat} (h : w.grownBy w' row) (n : Nat) : w.grownBy (w'.drewN n) row := ⟨h.os, h.tape, h.output, h.size, h.block⟩

end Go.Proofs.YtecnocdffhmkaaaDoor

/- The program's readers: signed, next, text; Int, Text. -/
namespace Go.Proofs.YtecnocdffhmkaaaDoor
set_option maxRecDepth 20000
open Go.RowKit
set_option linter.unusedVariables false

theorem next_end (r : Nat) (a : Option Addr) (L cap k : Nat) (n : Int) (w : World) (h : At w r a L cap k) (hz : (L : Int) ≤ 140737488355000) (hk : k ≤ L) (hn : (L : Int) - k < n) (hn64 : n ≤ 18446744073709551615) :
    Calls Tryd.prog 80 #[.pointer (some ⟨r, 0, none⟩), .int .u64 n] w fun e w' => e = .returned (.tuple #[.slice none 0 0, .int .i64 20]) ∧ w.grownBy w' none := by
  have c0 := h.bytes
  have c1 := h.place
  have hd : decide ((L : Int) - (k : Int) < n) = true := by simpa using hn
  have hk' : (k : Int) ≤ (L : Int) := by omega
  clear h hn
  go_enter Tryd.func80, Tryd.ntmps80
  go_wp2
  go_quiet (fail)
  go_wp2
  go_ret2
  exact ⟨rfl, gb_drewN _ _⟩

set_option maxHeartbeats 400000 in
theorem next_ok (r : Nat) (a : Option Addr) (zs : List Int) (L cap k n : Nat) (w : World) (h : At w r a L cap k) (hr : Rd w a zs) (hne : ∀ x, a = some x → x.block ≠ r) (hL : zs.length = L) (hcap : L ≤ cap) (hz : (L : Int) ≤ 140737488355000) (hn : k + n ≤ L) :
    Calls Tryd.prog 80 #[.pointer (some ⟨r, 0, none⟩), .int .u64 n] w fun e w' => ∃ v, e = .returned (.tuple #[.slice v n (cap - k), .int .i64 0]) ∧ Rd w' v ((zs.drop k).take n) ∧ w.grownBy w' (some r) ∧ At w' r a L cap (k + n : Nat) := by
  have c0 := h.bytes
  have c1 := h.place
  have hd : decide ((L : Int) - (k : Int) < (n : Int)) = false := by simp; omega
  have hk' : (k : Int) ≤ (L : Int) := by omega
  have HA : Hid (At w r a L cap k) := h
  have hsl : ∀ w, (Instr.slice 33 (.slice a L cap) (some (.int .i64 (k : Int))) (some (.int .i64 ((k : Int) + (n : Int)))) none).run Tryd.prog w = .ok (.slice (if cap = k then a else a.map (·.add k)) n (cap - k)) w := by
    intro w
    have e5 : Tryd.prog.elem 33 = 5 := by simp [Program.elem, Tryd.underlying33]
    rw [run_slice_lh w 33 a L cap (by rw [e5]; exact Tryd.underlying33) .i64 .i64 (k : Int) ((k : Int) + (n : Int)) (by omega) (by omega) (by omega), e5]
    have hz5 : (sizeOf 5).run Tryd.prog w = .ok 1 w := by
      obtain ⟨i0, hi, _, hz1, _⟩ := info_parts info5
      simp [sizeOf, typeInfo, hi, hz1]
    rw [hz5, show ((k : Int) + (n : Int)).toNat = k + n by omega]
    simp [Result.andThen, sliced]
  have HV : Hid (∀ w', Rd w' a zs → Rd w' (if cap = k then a else a.map (·.add k)) ((zs.drop k).take n)) := by
    intro w' hr'
    by_cases h0 : n = 0
    · subst h0
      exact ⟨.inl (by simp), by simp⟩
    · obtain ⟨b, off, rfl, hc⟩ := hr'.at (by omega)
      have e : (if cap = k then some (⟨b, off, none⟩ : Addr) else (some (⟨b, off, none⟩ : Addr)).map (·.add k)) = some ⟨b, off + k, none⟩ := by
        rw [if_neg (by omega)]
        by_cases h0 : k = 0
        · subst h0; rfl
        · simp [Addr.add, h0]
      rw [e]
      exact (rd_window hc hr'.2 k n (by omega)).1
  have hR0 : Rd w a zs := hr
  generalize (if cap = k then a else a.map (·.add k)) = v at hsl HV
  have HR : Hid (Rd w a zs) := hR0
  have HNE : Hid (∀ x, a = some x → some x.block ≠ some r) := fun x hx e => hne x hx (Option.some.inj e)
  have hkn : (k : Int) + (n : Int) ≤ 140737488355000 := by omega
  have hnl : (n : Int) ≤ 140737488355000 := by omega
  clear h hr hL hR0 hn hne
  go_enter Tryd.func80, Tryd.ntmps80
  go_wp2
  go_quiet (fail)
  obtain ⟨w1, ew⟩ : ∃ w1, w1 = w.drewN nq := ⟨_, rfl⟩
  rw [← ew]
  have d0 : w1.cell? ⟨r, 0, none⟩ = some (.slice a L cap) := by rw [ew]; exact c0
  have d1 : w1.cell? ⟨r, 1, none⟩ = some (.int .i64 (k : Int)) := by rw [ew]; exact c1
  have HA1 : Hid (At w1 r a L cap k) := by show At _ _ _ _ _ _; rw [ew]; exact HA.out
  have hfro := HA1.out.free
  have HA2 : Hid (At (w1.setCell ⟨r, 1, none⟩ (.int .i64 ((k : Int) + (n : Int)))) r a L cap ((k : Int) + (n : Int))) := HA1.out.set _
  have HG2 : Hid (w.grownBy (w1.setCell ⟨r, 1, none⟩ (.int .i64 ((k : Int) + (n : Int)))) (some r)) := by
    show World.grownBy _ _ _
    rw [ew]
    exact gb_trans (gb_any (gb_drewN w nq) (some r)) (gb_set rfl) (fun k hk => .inr hk)
  clear ew c0 c1 HA
  go_wp2
  obtain ⟨w2, ew⟩ : ∃ w2, w2 = w1.setCell ⟨r, 1, none⟩ (.int .i64 ((k : Int) + (n : Int))) := ⟨_, rfl⟩
  rw [← ew] at HA2 HG2 ⊢
  have c0 := HA2.out.bytes
  have c1 := HA2.out.place
  have HR2 : Hid (Rd w2 a zs) := HR.out.grown HG2.out HNE.out
  clear ew d0 d1 hfro HA1
  go_quiet (fail)
  go_wp2
  go_ret2
  refine ⟨v, rfl, (HV.out w2 HR2.out).drewN _, gb_drewR HG2.out _, ?_⟩
  have := HA2.out.draw nq
  rwa [← Int.natCast_add] at this
end Go.Proofs.YtecnocdffhmkaaaDoor

/- slices.Concat over slices of bytes, as the program calls it. -/
namespace Go.Proofs.YtecnocdffhmkaaaDoor
set_option maxRecDepth 20000
open Go.RowKit
set_option linter.unusedVariables false

/-- append(out, xs...): out is the call's own or none, xs whatever is read. -/
theorem wpList_append_vv {w : World} {ops : Array Oper} {rest : List Oper} {o : Oper} {a : Act} {Q : Exit → Act → World → Prop} (hgd : o.guard = none) (s x : Operand)
    (ho : o.op = .call { callee := .builtin .append, args := #[s, x], argTypes := #[33, 33] }) (base : Nat) (v : Value) (n : Nat) (xs : List Int) (hs : a.eval s = v) (hown : OwnV w base v n xs)
    (src : Option Addr) (zs : List Int) (m cap : Nat) (hx : a.eval x = .slice src m cap) (hm : zs.length = m) (hr : Rd w src zs) (hnil : src = none → cap = 0) (hlen : n + m ≤ 140737488355328) (hb : base ≤ w.heap.size)
    (h : ∀ v' w', OwnV w' base v' (n + m) (xs ++ zs) → w.grownBy w' v.ownBlock → wpList Tryd.prog ops Q rest (a.put o.dst v') w') : wpList Tryd.prog ops Q (o :: rest) a w := by
  obtain ⟨i0, hi, hz0, hz1, hz2⟩ := info_parts info5
  subst hm
  cases src with
  | none =>
    obtain rfl := hnil rfl
    obtain rfl := hr.none
    refine wpList_append_own_none hgd s x 33 ho base 5 i0 1 Tryd.underlying33 hi v n (bs xs) hs hown.1 hx ?_
    have := h v w (by simpa using hown) (World.grownBy.refl _ _)
    simpa using this
  | some ad =>
    refine wpList_append_own _ hgd s x 33 ho base 5 i0 (.int .u8 0) 1 1 Tryd.underlying33 hi hz0 hz1 hz2 rfl (by decide) _ n (bs xs) hs hown.1 ad zs.length cap (bs zs) hx (by rw [bs_len]; omega) hr.news (bs_one zs) (by unfold maxLen; omega) (by omega) hb ?_
    intro v' w' hown' hg hne
    rw [← bs_app] at hown'
    exact h v' w' ⟨hown', fun z hz => by
      rcases List.mem_append.1 hz with h1 | h1
      · exact hown.2 z h1
      · exact hr.2 z h1⟩ hg

theorem zero_cells_size (z : Value) (hz : z.cells.size = 1) (n : Nat) : (Builtin.zeroCells z.cells n).size = n := by
  rw [size_zeroCells, hz]; omega

set_option maxHeartbeats 400000 in
theorem g_grow (n : Nat) (w : World) (hn : n ≤ 140737488355328) :
    Calls Tryd.prog 72 #[.slice none 0 0, .int .i64 n] w fun e w' => ∃ v, e = .returned v ∧ OwnV w' w.heap.size v 0 [] ∧ w.grownBy w' none := by
  obtain ⟨i0, hi, hz0, hz1, hz2⟩ := info_parts info5
  by_cases h0 : 0 < n
  · have hrz := fun ty => Lib.run_append_nil_zeros (P := Tryd.prog) w 33 3 ty 5 i0 (.int .u8 0) .i64 .i64 Tryd.underlying33 Tryd.underlying3 hi hz0 n h0 (by omega) (by omega) (by rw [hz2]; omega)
    have hGn : n ≤ grownCap w n 0 5 := grownCap_ge w _ _ _
    have hG63 := grownCap_le_maxLen w n 0 5 (by unfold maxLen; omega)
    obtain ⟨G, hG⟩ : ∃ G, G = grownCap w n 0 5 := ⟨_, rfl⟩
    rw [← hG] at hrz hGn hG63
    have HO : Hid (OwnV (w.drew.alloc (.cells (Builtin.zeroCells (Value.int .u8 0).cells n ++ Builtin.zeroCells (Value.int .u8 0).cells (G - n)) 5)) w.heap.size (.slice (some ⟨w.heap.size, 0, none⟩) 0 G) 0 []) :=
      ⟨World.ownsRow_made (e := 5) (size := 1) w.drew _ G (Nat.le_refl _) hG63 (by rw [Array.size_append, zero_cells_size _ rfl, zero_cells_size _ rfl]; omega), by simp⟩
    have HG : Hid (w.grownBy (w.drew.alloc (.cells (Builtin.zeroCells (Value.int .u8 0).cells n ++ Builtin.zeroCells (Value.int .u8 0).cells (G - n)) 5)) none) := (gb_drew (World.grownBy.refl w none)).trans (World.grownBy_alloc w.drew _ none)
    generalize Builtin.zeroCells (Value.int .u8 0).cells n ++ Builtin.zeroCells (Value.int .u8 0).cells (G - n) = Z at hrz HO HG
    have hGm : (G : Int) ≤ 9223372036854775807 := by unfold maxLen at hG63; omega
    clear hG hz0 hz1 hz2 hi hG63
    go_enter Tryd.func72, Tryd.ntmps72
    go_wp2_with (at_builtin; refine Lib.wpList_append_run _ rfl _ _ _ _ rfl _ _ rfl rfl _ _ (hrz _) ?_)
    go_ret
    exact ⟨_, rfl, HO.out, HG.out⟩
  · obtain rfl : n = 0 := by omega
    go_enter Tryd.func72, Tryd.ntmps72
    go_wp2
    go_ret
    exact ⟨_, rfl, OwnV.nil _ _, World.grownBy.refl _ _⟩

/-- One of the slices that are joined. -/
structure Piece where
  a : Option Addr
  n : Nat
  c : Nat
  zs : List Int
def Piece.val (p : Piece) : Value := .slice p.a p.n p.c
def Piece.ok (w : World) (p : Piece) : Prop := Rd w p.a p.zs ∧ p.zs.length = p.n ∧ (p.a = none → p.c = 0)
def total (ps : List Piece) : Nat := (ps.map (·.n)).sum
def joined (ps : List Piece) : List Int := ps.flatMap (·.zs)
theorem total_next {ps : List Piece} {i : Nat} {p : Piece} (h : ps[i]? = some p) : total (ps.take (i + 1)) = total (ps.take i) + p.n := by
  unfold total
  rw [List.take_add_one, h]
  simp
theorem joined_next {ps : List Piece} {i : Nat} {p : Piece} (h : ps[i]? = some p) : joined (ps.take (i + 1)) = joined (ps.take i) ++ p.zs := by
  unfold joined
  rw [List.take_add_one, h]
  simp
theorem total_le (ps : List Piece) (i : Nat) : total (ps.take i) ≤ total ps := by
  have h : total ps = total (ps.take i) + total (ps.drop i) := by
    unfold total
    rw [← List.sum_append, ← List.map_append, List.take_append_drop]
  omega

set_option maxHeartbeats 1000000 in
theorem g_concat (b : Nat) (ps : List Piece) (k : Nat) (w : World) (hk : ps.length = k) (hk8 : k ≤ 8) (hcells : ∀ i p, ps[i]? = some p → w.cell? ⟨b, i, none⟩ = some p.val) (hok : ∀ p ∈ ps, p.ok w) (hsz : total ps ≤ 140737488355328) (hpos : 0 < total ps) :
    Calls Tryd.prog 58 #[.slice (some ⟨b, 0, none⟩) k k] w fun e w' => ∃ g c N, e = .returned (.slice (some ⟨g, 0, none⟩) N c) ∧ Own w' w.heap.size g N c (joined ps) ∧ w.grownBy w' none := by
  have HK : Hid (ps.length = k) := hk
  have HC : Hid (∀ i p, ps[i]? = some p → w.cell? ⟨b, i, none⟩ = some p.val) := hcells
  have HO : Hid (∀ p ∈ ps, p.ok w) := hok
  have HP : Hid (0 < total ps) := hpos
  clear hk hcells hok hpos
  go_enter Tryd.func58, Tryd.ntmps58
  go_wp2
  go_loop [3, 11] (fun t3 t11 => ∃ (i : Nat), i ≤ k ∧ t11 = .int .i64 i ∧ t3 = .int .i64 (total (ps.take i) : Nat)) (fun _ t11 => k - (intOf t11).toNat)
  case atStart => exact ⟨0, Nat.zero_le _, rfl, by simp [total]⟩
  case round =>
    obtain ⟨i, hi, rfl, rfl⟩ := hrel
    by_cases hlt : i < k
    · obtain ⟨p, hp⟩ : ∃ p, ps[i]? = some p := ⟨_, List.getElem?_eq_getElem (by have := HK.out; omega)⟩
      have hcell := HC.out i p hp
      unfold Piece.val at hcell
      have HT : Hid (total (ps.take (i + 1)) = total (ps.take i) + p.n) := total_next hp
      have htl := total_le ps (i + 1)
      rw [HT.out] at htl
      generalize total (ps.take i) = S at HT htl ⊢
      clear hp
      obtain ⟨pa, pn, pc, pz⟩ := p
      simp only at hcell HT htl
      go_wp2
      go_round
      case rel => exact ⟨i + 1, by omega, by go_num, by rw [HT.out]; go_num⟩
      case measure => simp [intOf]; omega
    · obtain rfl : i = k := by omega
      have HT : Hid (total (ps.take i) = total ps) := by
        show _ = _
        rw [List.take_of_length_le (by have := HK.out; omega)]
      rw [HT.out]
      have HGR := g_grow (total ps) w hsz
      go_wp2_with fail
      refine HGR.mono ?_
      rintro e w1 ⟨v1, rfl, ho1, hg1⟩
      have HO1 : Hid (OwnV w1 w.heap.size v1 0 []) := ho1
      have HG1 : Hid (w.grownBy w1 none) := hg1
      clear ho1 hg1
      go_wp2
      go_loopw [6, 27] (fun t6 t27 wr => ∃ (m : Nat), m ≤ i ∧ t27 = .int .i64 m ∧ OwnV wr w.heap.size t6 (total (ps.take m)) (joined (ps.take m)) ∧ w.grownBy wr none) (fun _ t27 _ => i - (intOf t27).toNat)
      case atStart => exact ⟨0, Nat.zero_le _, rfl, by simpa [total, joined] using HO1.out, HG1.out⟩
      case round =>
        obtain ⟨m, hm, rfl, ho, hg⟩ := hrel
        have HV : Hid (OwnV wr w.heap.size u6 (total (ps.take m)) (joined (ps.take m))) := ho
        have HG : Hid (w.grownBy wr none) := hg
        clear ho hg HO1 HG1
        by_cases hlt2 : m < i
        · obtain ⟨p, hp⟩ : ∃ p, ps[m]? = some p := ⟨_, List.getElem?_eq_getElem (by have := HK.out; omega)⟩
          have hcell := HG.out.cell (HC.out m p hp) (by simp)
          have hpo := HO.out p (List.mem_of_getElem? hp)
          unfold Piece.val at hcell
          unfold Piece.ok at hpo
          have HR : Hid (Rd wr p.a p.zs) := hpo.1.grown HG.out (by simp)
          have HL : Hid (p.zs.length = p.n) := hpo.2.1
          have HNil : Hid (p.a = none → p.c = 0) := hpo.2.2
          have HT : Hid (total (ps.take (m + 1)) = total (ps.take m) + p.n) := total_next hp
          have HJ : Hid (joined (ps.take (m + 1)) = joined (ps.take m) ++ p.zs) := joined_next hp
          have htl := total_le ps (m + 1)
          rw [HT.out] at htl
          have HW : Hid (w.heap.size ≤ wr.heap.size) := HG.out.size
          have HGo : Hid (∀ w2, wr.grownBy w2 u6.ownBlock → w.grownBy w2 none) := fun w2 h => gb_trans HG.out h (fun q hq => .inl (HV.out.block q hq).1)
          generalize total (ps.take m) = S at HT HV htl ⊢
          generalize joined (ps.take m) = J at HJ HV ⊢
          clear hp hpo
          obtain ⟨pa, pn, pc, pz⟩ := p
          simp only at hcell HR HL HNil HT HJ htl
          go_wp2_with (at_builtin; refine wpList_append_vv rfl (.tmp 31) (.tmp 32) rfl w.heap.size u6 S J rfl HV.out pa pz pn pc rfl HL.out HR.out HNil.out (by omega) HW.out ?_; intro v2 w2 ho2 hg2)
          go_roundw
          case rel => exact ⟨m + 1, by omega, by go_num, by rw [HT.out, HJ.out]; exact ho2, HGo.out _ hg2⟩
          case measure => simp [intOf]; omega
        · obtain rfl : m = i := by omega
          have HV2 : Hid (∃ g c, u6 = .slice (some ⟨g, 0, none⟩) (total ps) c ∧ Own wr w.heap.size g (total ps) c (joined ps)) := by
            have h := HV.out
            rw [List.take_of_length_le (by have := HK.out; omega)] at h
            refine Own.of h.1 ?_ h.2
            intro e
            rcases h.1.2 with ⟨_, h'⟩ | ⟨g, cap, cur, h', _⟩
            · have := HP.out; omega
            · rw [e] at h'; simp at h'
          clear HV
          go_wp2
          go_ret
          obtain ⟨g, c, e, h⟩ := HV2.out
          exact ⟨g, c, _, by rw [e]; rfl, h, HG.out⟩
end Go.Proofs.YtecnocdffhmkaaaDoor

/- The program's PutUint, PutInt, PutText, Frame. -/
namespace Go.Proofs.YtecnocdffhmkaaaDoor
set_option maxRecDepth 20000
open Go.RowKit
set_option linter.unusedVariables false

theorem g_join (ps : List Piece) (k : Nat) (w : World) (t : TypeId) (arr : Array Value) (harr : arr = (ps.map Piece.val).toArray) (hk : ps.length = k) (hk8 : k ≤ 8) (hok : ∀ p ∈ ps, p.ok w) (hsz : total ps ≤ 140737488355328) (hpos : 0 < total ps) :
    Calls Tryd.prog 58 #[.slice (some ⟨w.heap.size, 0, none⟩) k k] (w.alloc (.cells arr t)) fun e w' => ∃ g c N, e = .returned (.slice (some ⟨g, 0, none⟩) N c) ∧ Own w' w.heap.size g N c (joined ps) ∧ w.grownBy w' none := by
  refine (g_concat w.heap.size ps k (w.alloc (.cells arr t)) hk hk8 ?_ ?_ hsz hpos).mono ?_
  · intro i p h
    rw [cell_of_row _ w.heap.size i arr t _ (heap_alloc_new w _), harr]
    simp [h]
  · intro p hp
    have h := hok p hp
    exact ⟨h.1.grown (World.grownBy_alloc w _ none) (by simp), h.2⟩
  · rintro e w' ⟨g, c, N, rfl, ho, hg⟩
    exact ⟨g, c, N, rfl, ho.base (le_alloc (Nat.le_refl _)), (World.grownBy_alloc w _ none).trans hg⟩

theorem f_putuint (a : Option Addr) (zs : List Int) (L cap : Nat) (v : Int) (w : World) (hr : Rd w a zs) (hL : zs.length = L) (hnil : a = none → cap = 0) (hz : L ≤ 140737488355000) (hv : 0 ≤ v ∧ v ≤ 18446744073709551615) :
    Calls Tryd.prog 73 #[.slice a L cap, .int .u64 v] w fun e w' => ∃ g c N, e = .returned (.slice (some ⟨g, 0, none⟩) N c) ∧ Own w' w.heap.size g N c (zs ++ enc v.toNat) ∧ w.grownBy w' none := by
  have HC := g_number v w hv
  have HY : Hid ((enc v.toNat).length ≤ 10 ∧ 1 ≤ (enc v.toNat).length) := ⟨enc_len v.toNat (by omega), enc_len_pos _⟩
  generalize enc v.toNat = Y at HC HY ⊢
  have HJ : Hid (∀ g1 c1 N1 w1, Own w1 w.heap.size g1 N1 c1 Y → w.grownBy w1 none → ∀ t, Calls Tryd.prog 58 #[.slice (some ⟨w1.heap.size, 0, none⟩) 2 2] (w1.alloc (.cells #[.slice a L cap, .slice (some ⟨g1, 0, none⟩) N1 c1] t)) fun e w' => ∃ g c N, e = .returned (.slice (some ⟨g, 0, none⟩) N c) ∧ Own w' w.heap.size g N c (zs ++ Y) ∧ w.grownBy w' none) := by
    intro g1 c1 N1 w1 ho hg t
    have hl := ho.len
    have hy := HY.out
    refine (g_join [⟨a, L, cap, zs⟩, ⟨some ⟨g1, 0, none⟩, N1, c1, Y⟩] 2 w1 t _ rfl rfl (by omega) ?_ (by simp [total]; omega) (by simp [total]; omega)).mono ?_
    · intro p hp
      simp only [List.mem_cons, List.mem_nil_iff, or_false] at hp
      rcases hp with rfl | rfl
      · exact ⟨hr.grown hg (by simp), hL, hnil⟩
      · exact ⟨ho.rd, ho.len, by simp⟩
    · rintro e w' ⟨g, c, N, rfl, ho', hg'⟩
      refine ⟨g, c, N, rfl, ?_, hg.trans hg'⟩
      have := ho'.base hg.size
      simpa [joined] using this
  clear hr hL hnil HY
  go_enter Tryd.func73, Tryd.ntmps73
  go_wp2_with fail
  refine HC.mono ?_
  rintro e w1 ⟨g1, c1, N1, rfl, ho1, hg1⟩
  have HO1 : Hid (Own w1 w.heap.size g1 N1 c1 Y) := ho1
  have HG1 : Hid (w.grownBy w1 none) := hg1
  clear ho1 hg1
  go_wp2_with (go_at_call 58; refine (HJ.out _ _ _ _ HO1.out HG1.out _).mono ?_; rintro e w2 ⟨g2, c2, N2, rfl, ho2, hg2⟩)
  go_ret
  exact ⟨g2, c2, N2, rfl, ho2, hg2⟩

theorem conv_text (w : World) (s : ByteArray) : ∃ C w2, (convert 9 33 (.string s)).run Tryd.prog w = .ok (.slice (some ⟨w.heap.size, 0, none⟩) s.size C) w2 ∧ Rd w2 (some ⟨w.heap.size, 0, none⟩) (sInts s) ∧ w.grownBy w2 none := by
  refine ⟨_, _, Go.Lib.run_convert_string_bytes w 9 33 5 s Tryd.underlying9 Tryd.underlying33 Tryd.underlying5, ⟨.inr ⟨w.heap.size, 0, rfl, fun i hi => ?_⟩, sInts_byte s⟩, ?_⟩
  · rw [sInts_len] at hi
    rw [Nat.zero_add, Go.Lib.bytesWorld_cell w 5 s i hi]
    simp [sInts, List.getD_eq_getElem?_getD, hi]
  · exact ⟨rfl, rfl, rfl, by rw [Go.Lib.bytesWorld_size]; omega, fun k hk _ => Go.Lib.bytesWorld_at_old w 5 s k hk⟩

set_option maxHeartbeats 400000 in
theorem f_puttext (a : Option Addr) (zs : List Int) (L cap : Nat) (s : ByteArray) (w : World) (hr : Rd w a zs) (hL : zs.length = L) (hnil : a = none → cap = 0) (hz : L + s.size ≤ 140737488355000) :
    Calls Tryd.prog 43 #[.slice a L cap, .string s] w fun e w' => ∃ g c N, e = .returned (.slice (some ⟨g, 0, none⟩) N c) ∧ Own w' w.heap.size g N c (zs ++ enc s.size ++ sInts s) ∧ w.grownBy w' none := by
  have HC := g_number (s.size : Int) w (by omega)
  rw [Int.toNat_natCast] at HC
  have HY : Hid ((enc s.size).length ≤ 10 ∧ 1 ≤ (enc s.size).length) := ⟨enc_len s.size (by omega), enc_len_pos _⟩
  generalize enc s.size = Y at HC HY ⊢
  have HJ : Hid (∀ g1 c1 N1 w1 c2 w2, Own w1 w.heap.size g1 N1 c1 Y → w.grownBy w1 none → w1.grownBy w2 none → Rd w2 (some ⟨w1.heap.size, 0, none⟩) (sInts s) → ∀ t, Calls Tryd.prog 58 #[.slice (some ⟨w2.heap.size, 0, none⟩) 3 3] (w2.alloc (.cells #[.slice a L cap, .slice (some ⟨g1, 0, none⟩) N1 c1, .slice (some ⟨w1.heap.size, 0, none⟩) s.size c2] t)) fun e w' => ∃ g c N, e = .returned (.slice (some ⟨g, 0, none⟩) N c) ∧ Own w' w.heap.size g N c (zs ++ Y ++ sInts s) ∧ w.grownBy w' none) := by
    intro g1 c1 N1 w1 c2 w2 ho hg hg12 hrd t
    have hl := ho.len
    have hy := HY.out
    have hgg := hg.trans hg12
    refine (g_join [⟨a, L, cap, zs⟩, ⟨some ⟨g1, 0, none⟩, N1, c1, Y⟩, ⟨some ⟨w1.heap.size, 0, none⟩, s.size, c2, sInts s⟩] 3 w2 t _ rfl rfl (by omega) ?_ (by simp [total]; omega) (by simp [total]; omega)).mono ?_
    · intro p hp
      simp only [List.mem_cons, List.mem_nil_iff, or_false] at hp
      rcases hp with rfl | rfl | rfl
      · exact ⟨hr.grown hgg (by simp), hL, hnil⟩
      · exact ⟨ho.rd.grown hg12 (by simp), ho.len, by simp⟩
      · exact ⟨hrd, sInts_len s, by simp⟩
    · rintro e w' ⟨g, c, N, rfl, ho', hg'⟩
      refine ⟨g, c, N, rfl, ?_, hgg.trans hg'⟩
      have := ho'.base hgg.size
      simpa [joined] using this
  clear hr hL hnil HY
  go_enter Tryd.func43, Tryd.ntmps43
  go_wp2_with fail
  refine HC.mono ?_
  rintro e w1 ⟨g1, c1, N1, rfl, ho1, hg1⟩
  have HO1 : Hid (Own w1 w.heap.size g1 N1 c1 Y) := ho1
  have HG1 : Hid (w.grownBy w1 none) := hg1
  obtain ⟨C, w2, hcv, hrd, hg12⟩ := conv_text w1 s
  have HRD : Hid (Rd w2 (some ⟨w1.heap.size, 0, none⟩) (sInts s)) := hrd
  have HG12 : Hid (w1.grownBy w2 none) := hg12
  clear ho1 hg1 hrd hg12
  go_wp2_with (go_at_call 58; refine (HJ.out _ _ _ _ _ _ HO1.out HG1.out HG12.out HRD.out _).mono ?_; rintro e w3 ⟨g2, c2, N2, rfl, ho2, hg2⟩)
  go_ret
  exact ⟨g2, c2, N2, rfl, ho2, hg2⟩

end Go.Proofs.YtecnocdffhmkaaaDoor

/- The program's readers: text, record; Text, Unframe. -/
namespace Go.Proofs.YtecnocdffhmkaaaDoor
set_option maxRecDepth 20000
open Go.RowKit
set_option linter.unusedVariables false

theorem str_empty : strOfNums [] = ⟨#[]⟩ := rfl

set_option maxHeartbeats 400000 in
theorem g_text (r : Nat) (a : Option Addr) (zs : List Int) (L cap : Nat) (p : Int) (s : ByteArray) (r2 r3 : Int) (w : World) (h : At w r a L cap p) (hr : Rd w a zs) (hne : 0 < L → ∀ x, a = some x → x.block ≠ r) (hL : zs.length = L) (hcap : L ≤ cap) (hz : (L : Int) ≤ 140737488355000) (hR : textR zs p = (s, r2, r3)) :
    Calls Tryd.prog 69 #[.pointer (some ⟨r, 0, none⟩)] w fun e w' => e = .returned (.tuple #[.string s, .int .i64 r3]) ∧ w.grownBy w' (some r) ∧ (r3 = 0 → At w' r a L cap r2) := by
  obtain ⟨u1, u2, u3, hU⟩ : ∃ u1 u2 u3, uintR zs p = (u1, u2, u3) := ⟨_, _, _, rfl⟩
  have HC := g_num r a zs L cap p u1 u2 u3 w h hr hL hcap hz hU
  unfold textR at hR
  rw [hU] at hR
  by_cases h3 : u3 = 0
  · subst h3
    have hok := uintR_ok hr.byte hU
    obtain ⟨k, rfl⟩ := Int.eq_ofNat_of_zero_le (show 0 ≤ u2 by omega)
    obtain ⟨n, rfl⟩ := Int.eq_ofNat_of_zero_le (show 0 ≤ u1 by omega)
    simp only [if_true] at hR
    have HRG : Hid (∀ w1, w.grownBy w1 (some r) → Rd w1 a zs) := fun w1 hg => hr.grown hg (fun x hx e => hne (by omega) x hx (Option.some.inj e))
    by_cases hlt : (zs.length : Int) - (k : Int) < (n : Int)
    · rw [if_pos hlt] at hR
      simp only [Prod.mk.injEq] at hR
      obtain ⟨rfl, rfl, rfl⟩ := hR
      have HN : Hid (∀ w1, At w1 r a L cap k → Calls Tryd.prog 80 #[.pointer (some ⟨r, 0, none⟩), .int .u64 n] w1 fun e w' => e = .returned (.tuple #[.slice none 0 0, .int .i64 20]) ∧ w1.grownBy w' none) := fun w1 ha => next_end r a L cap k n w1 ha hz (by omega) (by omega) (by omega)
      have hcv : ∀ w, (convert 33 9 (.slice none 0 0)).run Tryd.prog w = .ok (.string ⟨#[]⟩) w := fun w => conv_rd w none [] 0 0 ⟨.inl rfl, by simp⟩ rfl
      clear hlt hok hr hU hL h hne
      go_enter Tryd.func69, Tryd.ntmps69
      go_wp2_with fail
      refine HC.mono ?_
      rintro e w1 ⟨rfl, hg, ha⟩
      have HG : Hid (w.grownBy w1 (some r)) := hg
      have HA : Hid (At w1 r a L cap k) := (show At w1 r a L cap k by simpa using ha)
      clear ha hg
      go_wp2_with fail
      refine (HN.out w1 HA.out).mono ?_
      rintro e w2 ⟨rfl, hg2⟩
      have HG2 : Hid (w.grownBy w2 (some r)) := gb_trans HG.out hg2 (by simp)
      clear hg2
      go_wp2
      go_ret2
      exact ⟨rfl, HG2.out, fun h => by omega⟩
    · rw [if_neg hlt] at hR
      simp only [Prod.mk.injEq, Int.toNat_natCast] at hR
      obtain ⟨rfl, rfl, rfl⟩ := hR
      have HN : Hid (∀ w1, At w1 r a L cap k → w.grownBy w1 (some r) → Calls Tryd.prog 80 #[.pointer (some ⟨r, 0, none⟩), .int .u64 n] w1 fun e w' => ∃ v, e = .returned (.tuple #[.slice v n (cap - k), .int .i64 0]) ∧ Rd w' v ((zs.drop k).take n) ∧ w1.grownBy w' (some r) ∧ At w' r a L cap (k + n : Nat)) := fun w1 ha hg => next_ok r a zs L cap k n w1 ha (HRG.out w1 hg) (hne (by omega)) hL hcap hz (by omega)
      have HLn : Hid (((zs.drop k).take n).length = n) := by show _ = _; rw [List.length_take, List.length_drop]; omega
      generalize (zs.drop k).take n = X at HN HLn ⊢
      clear hlt hok hr hU hL h hne HRG
      go_enter Tryd.func69, Tryd.ntmps69
      go_wp2_with fail
      refine HC.mono ?_
      rintro e w1 ⟨rfl, hg, ha⟩
      have HG : Hid (w.grownBy w1 (some r)) := hg
      have HA : Hid (At w1 r a L cap k) := (show At w1 r a L cap k by simpa using ha)
      clear ha hg
      go_wp2_with fail
      refine (HN.out w1 HA.out HG.out).mono ?_
      rintro e w2 ⟨v, rfl, hrd, hg2, ha2⟩
      have HG2 : Hid (w.grownBy w2 (some r)) := gb_trans HG.out hg2 (fun k hk => .inr hk)
      have HA2 : Hid (At w2 r a L cap (k + n : Nat)) := ha2
      have hcv := conv_rd w2 v X n (cap - k) hrd HLn.out
      clear hg2 ha2 hrd
      go_wp2
      go_ret2
      exact ⟨rfl, HG2.out, fun _ => by have := HA2.out; rwa [Int.natCast_add] at this⟩
  · rw [if_neg h3] at hR
    simp only [Prod.mk.injEq] at hR
    obtain ⟨rfl, rfl, rfl⟩ := hR
    have hb3 : (u3 != 0) = true := by simpa using h3
    have HE : Hid (u3 ≠ 0) := h3
    clear hr hL hU h3 h
    go_enter Tryd.func69, Tryd.ntmps69
    go_wp2_with fail
    refine HC.mono ?_
    rintro e w1 ⟨rfl, hg, _⟩
    have HG : Hid (w.grownBy w1 (some r)) := hg
    clear hg
    go_wp2
    go_ret2
    exact ⟨rfl, HG.out, fun h => absurd h HE.out⟩

theorem textR_err {zs : List Int} {p r2 r3 : Int} {s : ByteArray} (h : textR zs p = (s, r2, r3)) (h3 : r3 ≠ 0) : s = ⟨#[]⟩ ∧ r2 = 0 := by
  unfold textR at h
  split at h
  · split at h
    · simp only [Prod.mk.injEq] at h
      exact ⟨h.1.symm, h.2.1.symm⟩
    · simp only [Prod.mk.injEq] at h
      exact absurd h.2.2.symm h3
  · simp only [Prod.mk.injEq] at h
    exact ⟨h.1.symm, h.2.1.symm⟩
theorem fresh_ne {w : World} {a : Option Addr} {zs : List Int} {L : Nat} (hr : Rd w a zs) (hL : zs.length = L) : 0 < L → ∀ x, a = some x → x.block ≠ w.heap.size := by
  intro h0 x hx
  obtain ⟨b, off, e, hc⟩ := hr.at (by omega)
  rw [e] at hx
  cases hx
  have := World.block_lt_of_cell? w _ (hc 0 (by omega))
  simp only at this
  intro e
  simp only at e
  omega

theorem f_text (a : Option Addr) (zs : List Int) (L cap : Nat) (p : Int) (s : ByteArray) (r2 r3 : Int) (w : World) (hr : Rd w a zs) (hL : zs.length = L) (hcap : L ≤ cap) (hz : (L : Int) ≤ 140737488355000) (hR : textR zs p = (s, r2, r3)) :
    Calls Tryd.prog 55 #[.slice a L cap, .int .i64 p] w fun e w' => e = .returned (.tuple #[.string s, .int .i64 r2, .int .i64 r3]) ∧ w.grownBy w' none := by
  have hmf : ∀ (fn : Fn) (first cap : Array Value) (w : World), (Instr.makeFunc fn first cap).run Tryd.prog w = .ok (.func fn first cap) w := fun _ _ _ _ => rfl
  have HN := g_text w.heap.size a zs L cap p s r2 r3 (w.alloc (.cells #[.slice a L cap, .int .i64 p] 93)) (at_new w a L cap p) (hr.grown (World.grownBy_alloc w _ none) (by simp)) (fresh_ne hr hL) hL hcap hz hR
  have HC : Hid (Calls Tryd.prog 68 #[.pointer (some ⟨w.heap.size, 0, none⟩), .func (.func 69) #[.pointer (some ⟨w.heap.size, 0, none⟩)] #[]] (w.alloc (.cells #[.slice a L cap, .int .i64 p] 93)) fun e w' => e = .returned (.tuple #[.string s, .int .i64 r2, .int .i64 r3]) ∧ w.grownBy w' none) := by
    refine (read_s w.heap.size _ r2 r3 _ _ HN (fun w' h h3 => (h.2 h3).place) (fun w' n h => ⟨gb_drewR h.1 n, fun h3 => (h.2 h3).draw n⟩)).mono ?_
    rintro e w' ⟨rfl, h, _⟩
    refine ⟨?_, gb_reader h⟩
    by_cases h3 : r3 = 0
    · rw [if_pos h3, if_pos h3]
    · rw [if_neg h3, if_neg h3, (textR_err hR h3).1, (textR_err hR h3).2]
  clear HN hr hL hR
  go_enter Tryd.func55, Tryd.ntmps55
  go_wp2_with fail
  refine HC.out.mono ?_
  rintro e w' ⟨rfl, hg⟩
  have HG : Hid (w.grownBy w' none) := hg
  clear hg
  go_wp2
  go_ret3
  exact ⟨rfl, HG.out⟩
end Go.Proofs.YtecnocdffhmkaaaDoor

/- Signed numbers of the codec, the program's and the document's; what is laid is read back. -/
namespace Go.Proofs.YtecnocdffhmkaaaDoor
open Go.ChangeShapes Go.WideShapes Go.ChangeAt Go.RowKit
set_option linter.unusedVariables false
set_option maxRecDepth 20000

set_option maxHeartbeats 400000 in
theorem rputint (a : Option Addr) (zs : List Int) (L cap : Nat) (x : Int) (w : World) (hr : Rd w a zs) (hL : zs.length = L) (hnil : a = none → cap = 0) (hz : L ≤ 140737488355000) (hx : -9223372036854775808 ≤ x ∧ x ≤ 9223372036854775807) :
    Calls Tryd.prog 44 #[.slice a L cap, .int .i64 x] w fun e w' => ∃ g c N, e = .returned (.slice (some ⟨g, 0, none⟩) N c) ∧ Own w' w.heap.size g N c (zs ++ enc (zz x).toNat) ∧ w.grownBy w' none := by
  have hb := zz_bd x hx
  obtain ⟨Y, hY⟩ : ∃ Y, zs ++ enc (zz x).toNat = Y := ⟨_, rfl⟩
  have HC := rputuint a zs L cap (zz x) w hr hL hnil hz hb
  rw [hY] at HC ⊢
  by_cases h : 0 ≤ x
  · have e : zz x = x * 2 := by simp [zz, h]
    rw [e] at HC
    have hd : decide (0 ≤ x) = true := by simpa using h
    clear hb e hY hr hL hnil
    go_enter Tryd.func44, Tryd.ntmps44
    go_wp2_with fail
    refine HC.mono ?_
    rintro e w1 ⟨g, c, N, rfl, ho, hg⟩
    go_wp2
    go_ret
    exact ⟨g, c, N, rfl, ho, hg⟩
  · have e : zz x = -(x + 1) * 2 + 1 := by simp [zz, h]
    rw [e] at HC
    have hd : decide (0 ≤ x) = false := by simpa using h
    clear hb e hY hr hL hnil
    go_enter Tryd.func44, Tryd.ntmps44
    go_wp2_with fail
    refine HC.mono ?_
    rintro e w1 ⟨g, c, N, rfl, ho, hg⟩
    go_wp2
    go_ret
    exact ⟨g, c, N, rfl, ho, hg⟩
set_option maxHeartbeats 400000 in
theorem rint (a : Option Addr) (zs : List Int) (L cap : Nat) (p r1 r2 r3 : Int) (w : World) (hr : Rd w a zs) (hL : zs.length = L) (hz : (L : Int) ≤ 140737488355000) (hR : intR zs p = (r1, r2, r3)) :
    Calls Tryd.prog 36 #[.slice a L cap, .int .i64 p] w fun e w' => e = .returned (.tuple #[.int .i64 r1, .int .i64 r2, .int .i64 r3]) ∧ w = w' := by
  obtain ⟨u1, u2, u3, hU⟩ : ∃ u1 u2 u3, uintR zs p = (u1, u2, u3) := ⟨_, _, _, rfl⟩
  have HC := ruint a zs L cap p u1 u2 u3 w hr hL hz hU
  unfold intR at hR
  rw [hU] at hR
  by_cases h3 : u3 = 0
  · subst h3
    have hok := uintR_ok hr.byte hU
    simp only [if_true, Prod.mk.injEq] at hR
    obtain ⟨e1, rfl, rfl⟩ := hR
    unfold unzz at e1
    have hub : 0 ≤ u1 ∧ u1 ≤ 18446744073709551615 := by omega
    by_cases hev : u1 % 2 = 0
    · rw [if_pos hev] at e1
      subst e1
      have eb : (bits .and .u64 u1 1 == 0) = true := by rw [and_one_64 u1 hub.1 hub.2, hev]; rfl
      clear hev hok hr hL hU
      go_enter Tryd.func36, Tryd.ntmps36
      go_wp2_with fail
      refine HC.mono ?_
      rintro e w' ⟨rfl, rfl⟩
      go_wp2
      go_ret3
      exact ⟨rfl, rfl⟩
    · rw [if_neg hev] at e1
      subst e1
      have eb : (bits .and .u64 u1 1 == 0) = false := by rw [and_one_64 u1 hub.1 hub.2]; simpa using hev
      clear hev hok hr hL hU
      go_enter Tryd.func36, Tryd.ntmps36
      go_wp2_with fail
      refine HC.mono ?_
      rintro e w' ⟨rfl, rfl⟩
      go_wp2
      go_ret3
      exact ⟨rfl, rfl⟩
  · rw [if_neg h3] at hR
    simp only [Prod.mk.injEq] at hR
    obtain ⟨rfl, rfl, rfl⟩ := hR
    have e3 : (u3 != 0) = true := by simpa using h3
    clear hr hL hU h3
    go_enter Tryd.func36, Tryd.ntmps36
    go_wp2_with fail
    refine HC.mono ?_
    rintro e w' ⟨rfl, rfl⟩
    go_wp2
    go_ret3
    exact ⟨rfl, rfl⟩
theorem g_folded (x : Int) (w : World) (hx : -9223372036854775808 ≤ x ∧ x ≤ 9223372036854775807) :
    Calls Tryd.prog 60 #[.int .i64 x] w fun e w' => e = .returned (.int .u64 (zz x)) ∧ w = w' := by
  by_cases h : 0 ≤ x
  · have e : zz x = x * 2 := by simp [zz, h]
    rw [e]
    have hd : decide (x < 0) = false := by simpa using h
    clear e
    go_enter Tryd.func60, Tryd.ntmps60
    go_wp2
    go_ret
    refine ⟨ret_int ?_, rfl⟩
    rw [IntKind.wrap_u64]; unfold wrap64; omega
  · have e : zz x = -(x + 1) * 2 + 1 := by simp [zz, h]
    rw [e]
    have hd : decide (x < 0) = true := by simp; omega
    clear e
    go_enter Tryd.func60, Tryd.ntmps60
    go_wp2
    go_ret
    refine ⟨ret_int ?_, rfl⟩
    rw [show IntKind.u64.max = 18446744073709551615 by decide, IntKind.wrap_u64, not64 _ (by omega) (by omega)]; unfold wrap64; omega
theorem g_unfolded (v : Int) (w : World) (hv : 0 ≤ v ∧ v ≤ 18446744073709551615) :
    Calls Tryd.prog 81 #[.int .u64 v] w fun e w' => e = .returned (.int .i64 (if v % 2 = 1 then -(v / 2) - 1 else v / 2)) ∧ w = w' := by
  by_cases h : v % 2 = 1
  · rw [if_pos h]
    have hd : (v % 2 == 1) = true := by simpa using h
    go_enter Tryd.func81, Tryd.ntmps81
    go_wp2
    go_ret
    refine ⟨ret_int ?_, rfl⟩
    exact noti64 _ (by omega) (by omega)
  · rw [if_neg h]
    have hd : (v % 2 == 1) = false := by simpa using h
    go_enter Tryd.func81, Tryd.ntmps81
    go_wp2
    go_ret
    exact ⟨rfl, rfl⟩
set_option maxHeartbeats 400000 in
theorem read_i (r : Nat) (V : Value) (q e3 : Int) (w : World) (Q : World → Prop) (HC : Calls Tryd.prog 71 #[.pointer (some ⟨r, 0, none⟩)] w fun e w' => e = .returned (.tuple #[V, .int .i64 e3]) ∧ Q w')
    (hq : ∀ w', Q w' → e3 = 0 → w'.cell? ⟨r, 1, none⟩ = some (.int .i64 q)) (hd : ∀ w' n, Q w' → Q (w'.drewN n)) :
    Calls Tryd.prog 70 #[.pointer (some ⟨r, 0, none⟩), .func (.func 71) #[.pointer (some ⟨r, 0, none⟩)] #[]] w fun e w' => e = .returned (.tuple #[if e3 = 0 then V else .int .i64 0, .int .i64 (if e3 = 0 then q else 0), .int .i64 e3]) ∧ Q w' := by
  have HQ : Hid (∀ w', Q w' → e3 = 0 → w'.cell? ⟨r, 1, none⟩ = some (.int .i64 q)) := hq
  have HD : Hid (∀ w' n, Q w' → Q (w'.drewN n)) := hd
  have HCC : Hid (Calls Tryd.prog 71 #[.pointer (some ⟨r, 0, none⟩)] w fun e w' => e = .returned (.tuple #[V, .int .i64 e3]) ∧ Q w') := HC
  clear hq hd HC
  by_cases h3 : e3 = 0
  · rw [if_pos h3, if_pos h3]
    have HE : Hid (e3 = 0) := h3
    have hb3 : (e3 != 0) = false := by simpa using h3
    clear h3
    go_enter Tryd.func70, Tryd.ntmps70
    go_wp2_with fail
    refine HCC.out.mono ?_
    rintro e w1 ⟨rfl, hw1⟩
    have HW : Hid (Q w1) := hw1
    have hc := HQ.out w1 hw1 HE.out
    clear hw1
    go_wp2
    go_quiet (fail)
    go_wp2
    go_ret3
    exact ⟨by rw [HE.out]; rfl, HD.out _ _ HW.out⟩
  · rw [if_neg h3, if_neg h3]
    have hb3 : (e3 != 0) = true := by simpa using h3
    clear h3
    go_enter Tryd.func70, Tryd.ntmps70
    go_wp2_with fail
    refine HCC.out.mono ?_
    rintro e w1 ⟨rfl, hw1⟩
    have HW : Hid (Q w1) := hw1
    clear hw1
    go_wp2
    go_ret3
    exact ⟨rfl, HW.out⟩

theorem g_signed (r : Nat) (u1 u3 : Int) (w : World) (Q : World → Prop) (hu : 0 ≤ u1 ∧ u1 ≤ 18446744073709551615) (HC : Calls Tryd.prog 79 #[.pointer (some ⟨r, 0, none⟩)] w fun e w' => e = .returned (.tuple #[.int .u64 u1, .int .i64 u3]) ∧ Q w') :
    Calls Tryd.prog 71 #[.pointer (some ⟨r, 0, none⟩)] w fun e w' => e = .returned (.tuple #[.int .i64 (unzz u1), .int .i64 u3]) ∧ Q w' := by
  have HU : Hid (∀ w, Calls Tryd.prog 81 #[.int .u64 u1] w fun e w' => e = .returned (.int .i64 (unzz u1)) ∧ w = w') := by
    intro w
    refine (g_unfolded u1 w hu).mono ?_
    rintro e w' ⟨rfl, rfl⟩
    refine ⟨ret_int ?_, rfl⟩
    unfold unzz
    split <;> split <;> omega
  generalize unzz u1 = x at HU ⊢
  go_enter Tryd.func71, Tryd.ntmps71
  go_wp2_with fail
  refine HC.mono ?_
  rintro e w1 ⟨rfl, hw⟩
  have HW : Hid (Q w1) := hw
  clear hw
  go_wp2_with (go_at_call 81; refine (HU.out _).mono ?_; rintro e w2 ⟨rfl, rfl⟩)
  go_ret2
  exact ⟨rfl, HW.out⟩

theorem f_int (a : Option Addr) (zs : List Int) (L cap : Nat) (p r1 r2 r3 : Int) (w : World) (hr : Rd w a zs) (hL : zs.length = L) (hcap : L ≤ cap) (hz : (L : Int) ≤ 140737488355000) (hR : intR zs p = (r1, r2, r3)) :
    Calls Tryd.prog 57 #[.slice a L cap, .int .i64 p] w fun e w' => e = .returned (.tuple #[.int .i64 r1, .int .i64 r2, .int .i64 r3]) ∧ w.grownBy w' none := by
  have hmf : ∀ (fn : Fn) (first cap : Array Value) (w : World), (Instr.makeFunc fn first cap).run Tryd.prog w = .ok (.func fn first cap) w := fun _ _ _ _ => rfl
  obtain ⟨u1, u2, u3, hU⟩ : ∃ u1 u2 u3, uintR zs p = (u1, u2, u3) := ⟨_, _, _, rfl⟩
  have HN := g_num w.heap.size a zs L cap p u1 u2 u3 (w.alloc (.cells #[.slice a L cap, .int .i64 p] 93)) (at_new w a L cap p) (hr.grown (World.grownBy_alloc w _ none) (by simp)) hL hcap hz hU
  have hub : 0 ≤ u1 ∧ u1 ≤ 18446744073709551615 := by
    by_cases h3 : u3 = 0
    · subst h3; have := uintR_ok hr.byte hU; omega
    · have := uintR_err hU h3; omega
  have HS := g_signed _ u1 u3 _ _ hub HN
  have HC : Hid (Calls Tryd.prog 70 #[.pointer (some ⟨w.heap.size, 0, none⟩), .func (.func 71) #[.pointer (some ⟨w.heap.size, 0, none⟩)] #[]] (w.alloc (.cells #[.slice a L cap, .int .i64 p] 93)) fun e w' => e = .returned (.tuple #[.int .i64 r1, .int .i64 r2, .int .i64 r3]) ∧ w.grownBy w' none) := by
    refine (read_i w.heap.size _ u2 u3 _ _ HS (fun w' h h3 => (h.2 h3).place) (fun w' n h => ⟨gb_drewR h.1 n, fun h3 => (h.2 h3).draw n⟩)).mono ?_
    rintro e w' ⟨rfl, h, _⟩
    refine ⟨?_, gb_reader h⟩
    unfold intR at hR
    rw [hU] at hR
    by_cases h3 : u3 = 0
    · simp only [h3, if_true, Prod.mk.injEq] at hR
      rw [if_pos h3, if_pos h3, hR.1, hR.2.1, ← hR.2.2, h3]
    · simp only [h3, if_false, Prod.mk.injEq] at hR
      rw [if_neg h3, if_neg h3, ← hR.1, ← hR.2.1, ← hR.2.2]
  clear HN HS hr hL hR hU hub
  go_enter Tryd.func57, Tryd.ntmps57
  go_wp2_with fail
  refine HC.out.mono ?_
  rintro e w' ⟨rfl, hg⟩
  have HG : Hid (w.grownBy w' none) := hg
  clear hg
  go_wp2
  go_ret3
  exact ⟨rfl, HG.out⟩

theorem f_putint (a : Option Addr) (zs : List Int) (L cap : Nat) (x : Int) (w : World) (hr : Rd w a zs) (hL : zs.length = L) (hnil : a = none → cap = 0) (hz : L ≤ 140737488355000) (hx : -9223372036854775808 ≤ x ∧ x ≤ 9223372036854775807) :
    Calls Tryd.prog 42 #[.slice a L cap, .int .i64 x] w fun e w' => ∃ g c N, e = .returned (.slice (some ⟨g, 0, none⟩) N c) ∧ Own w' w.heap.size g N c (zs ++ enc (zz x).toNat) ∧ w.grownBy w' none := by
  have HF : Hid (Calls Tryd.prog 60 #[.int .i64 x] w fun e w' => e = .returned (.int .u64 (zz x)) ∧ w = w') := g_folded x w hx
  have hb := zz_bd x hx
  generalize zz x = v at HF hb ⊢
  have HC := g_number v w hb
  have HY : Hid ((enc v.toNat).length ≤ 10 ∧ 1 ≤ (enc v.toNat).length) := ⟨enc_len v.toNat (by omega), enc_len_pos _⟩
  generalize enc v.toNat = Y at HC HY ⊢
  have HJ : Hid (∀ g1 c1 N1 w1, Own w1 w.heap.size g1 N1 c1 Y → w.grownBy w1 none → ∀ t, Calls Tryd.prog 58 #[.slice (some ⟨w1.heap.size, 0, none⟩) 2 2] (w1.alloc (.cells #[.slice a L cap, .slice (some ⟨g1, 0, none⟩) N1 c1] t)) fun e w' => ∃ g c N, e = .returned (.slice (some ⟨g, 0, none⟩) N c) ∧ Own w' w.heap.size g N c (zs ++ Y) ∧ w.grownBy w' none) := by
    intro g1 c1 N1 w1 ho hg t
    have hl := ho.len
    have hy := HY.out
    refine (g_join [⟨a, L, cap, zs⟩, ⟨some ⟨g1, 0, none⟩, N1, c1, Y⟩] 2 w1 t _ rfl rfl (by omega) ?_ (by simp [total]; omega) (by simp [total]; omega)).mono ?_
    · intro p hp
      simp only [List.mem_cons, List.mem_nil_iff, or_false] at hp
      rcases hp with rfl | rfl
      · exact ⟨hr.grown hg (by simp), hL, hnil⟩
      · exact ⟨ho.rd, ho.len, by simp⟩
    · rintro e w' ⟨g, c, N, rfl, ho', hg'⟩
      refine ⟨g, c, N, rfl, ?_, hg.trans hg'⟩
      have := ho'.base hg.size
      simpa [joined] using this
  clear hr hL hnil HY
  go_enter Tryd.func42, Tryd.ntmps42
  go_wp2_with fail
  refine HF.out.mono ?_
  rintro e w1 ⟨rfl, rfl⟩
  go_wp2_with fail
  refine HC.mono ?_
  rintro e w1 ⟨g1, c1, N1, rfl, ho1, hg1⟩
  have HO1 : Hid (Own w1 w.heap.size g1 N1 c1 Y) := ho1
  have HG1 : Hid (w.grownBy w1 none) := hg1
  clear ho1 hg1
  go_wp2_with (go_at_call 58; refine (HJ.out _ _ _ _ HO1.out HG1.out _).mono ?_; rintro e w2 ⟨g2, c2, N2, rfl, ho2, hg2⟩)
  go_ret
  exact ⟨g2, c2, N2, rfl, ho2, hg2⟩

theorem unzz_zz (x : Int) : unzz (zz x) = x := by
  unfold unzz zz
  split <;> split <;> omega
theorem uintR_at (xs ys : List Int) (v : Nat) (hv : v < 18446744073709551616) (zs : List Int) (hz : zs = xs ++ (enc v ++ ys)) (p : Int) (hp : p = xs.length) : uintR zs p = ((v : Int), (xs.length : Int) + (enc v).length, 0) := by
  subst hz hp
  rw [uintR_enc xs ys v hv]
  simp
theorem intR_at (xs ys : List Int) (x : Int) (hx : -9223372036854775808 ≤ x ∧ x ≤ 9223372036854775807) (zs : List Int) (hz : zs = xs ++ (enc (zz x).toNat ++ ys)) (p : Int) (hp : p = xs.length) : intR zs p = (x, (xs.length : Int) + (enc (zz x).toNat).length, 0) := by
  have hb := zz_bd x hx
  have h := uintR_at xs ys (zz x).toNat (by omega) zs hz p hp
  unfold intR
  rw [h]
  simp only [if_true]
  rw [show (((zz x).toNat : Nat) : Int) = zz x by omega, unzz_zz]
theorem strOf_sInts (s : ByteArray) : strOfNums (sInts s) = s := by
  apply ByteArray.ext
  apply Array.toList_inj.1
  rw [strOfNums_data, sInts, List.map_map]
  conv => rhs; rw [← List.map_id s.data.toList]
  apply List.map_congr_left
  intro b _
  simp
theorem textR_at (xs ys : List Int) (s : ByteArray) (hs : s.size < 18446744073709551616) (zs : List Int) (hz : zs = xs ++ (enc s.size ++ (sInts s ++ ys))) (p : Int) (hp : p = xs.length) : textR zs p = (s, (xs.length : Int) + (enc s.size).length + s.size, 0) := by
  have h := uintR_at xs (sInts s ++ ys) s.size hs zs hz p hp
  have hl := sInts_len s
  unfold textR
  rw [h]
  simp only [if_true]
  have hlen : (zs.length : Int) = xs.length + (enc s.size).length + s.size + ys.length := by
    rw [hz]; simp; omega
  rw [if_neg (by omega)]
  have e1 : ((xs.length : Int) + ((enc s.size).length : Int)).toNat = (xs ++ enc s.size).length := by simp; omega
  have e2 : ((s.size : Nat) : Int).toNat = (sInts s).length := by omega
  rw [e1, e2, hz, show xs ++ (enc s.size ++ (sInts s ++ ys)) = (xs ++ enc s.size) ++ (sInts s ++ ys) by simp, List.drop_left, List.take_left, strOf_sInts]
end Go.Proofs.YtecnocdffhmkaaaDoor

