/- Several texts in one: Dnum, Dcat, Dput, Eenc. -/
import Derived.Test.YtpabbmiibehfjaaGreatDoorGb
import Derived.Lib.AppendZeros
import Derived.Test.YtpabbmiibehfjaaGreatDoorGc
import Derived.Lib.ConvBytes
import Derived.Test.YtpabbmiibehfjaaGreatDoorGd
/- The program's number, folded, unfolded, needless, above, eightHalves. -/
namespace Go.Proofs.YtpabbmiibehfjaaGreatDoor
open Go.RowKit
set_option linter.unusedVariables false

/-- A slice of bytes that the call made, or none yet. -/
def OwnV (w : World) (base : Nat) (v : Value) (n : Nat) (zs : List Int) : Prop := w.ownsRow base 5 1 v n (bs zs) ∧ ∀ z ∈ zs, 0 ≤ z ∧ z ≤ 255
theorem OwnV.nil (w : World) (base : Nat) : OwnV w base (.slice none 0 0) 0 [] := ⟨World.ownsRow_nil w base 5 1, by simp⟩
theorem Own.v {w : World} {base g n cap : Nat} {zs : List Int} (h : Own w base g n cap zs) : OwnV w base (.slice (some ⟨g, 0, none⟩) n cap) n zs := h
theorem OwnV.len {w : World} {base n : Nat} {v : Value} {zs : List Int} (h : OwnV w base v n zs) : zs.length = n := by
  have := h.1.1; rw [bs_len] at this; omega
theorem OwnV.kept {w w' : World} {row : Option Nat} {base n : Nat} {v : Value} {zs : List Int} (h : OwnV w base v n zs) (hg : w.grownBy w' row) (hne : v.ownBlock = none ∨ v.ownBlock ≠ row) : OwnV w' base v n zs :=
  ⟨h.1.kept hg hne, h.2⟩
theorem OwnV.block {w : World} {base n : Nat} {v : Value} {zs : List Int} (h : OwnV w base v n zs) : ∀ k, v.ownBlock = some k → base ≤ k ∧ k < w.heap.size := h.1.lt

/-- append(out, xs...): out is the call's own or none, xs are some bytes. -/
theorem wpList_append_v {w : World} {ops : Array Oper} {rest : List Oper} {o : Oper} {a : Act} {Q : Exit → Act → World → Prop} (hgd : o.guard = none) (s x : Operand)
    (ho : o.op = .call { callee := .builtin .append, args := #[s, x], argTypes := #[120, 120] }) (base : Nat) (v : Value) (n : Nat) (xs : List Int) (hs : a.eval s = v) (hown : OwnV w base v n xs)
    (src : Addr) (zs : List Int) (m cap : Nat) (hx : a.eval x = .slice (some src) m cap) (hm : zs.length = m) (hr : Rd w (some src) zs) (h0 : 0 < m) (hlen : n + m ≤ 140737488355328) (hb : base ≤ w.heap.size)
    (h : ∀ g c w', Own w' base g (n + m) c (xs ++ zs) → w.grownBy w' v.ownBlock → wpList Tryz.prog ops Q rest (a.put o.dst (.slice (some ⟨g, 0, none⟩) (n + m) c)) w') : wpList Tryz.prog ops Q (o :: rest) a w := by
  obtain ⟨i0, hi, hz0, hz1, hz2⟩ := info_parts info5
  subst hm
  refine wpList_append_own _ hgd s x 120 ho base 5 i0 (.int .u8 0) 1 1 Tryz.underlying120 hi hz0 hz1 hz2 rfl (by decide) _ n (bs xs) hs hown.1 src zs.length cap (bs zs) hx (by rw [bs_len]; omega) hr.news (bs_one zs) (by unfold maxLen; omega) (by omega) hb ?_
  intro v' w' hown' hg hne
  rw [← bs_app] at hown'
  obtain ⟨g, c, rfl, ho'⟩ := Own.of hown' (fun h => by have := (hne.1 h).2; omega) (fun z hz => by
    rcases List.mem_append.1 hz with h1 | h1
    · exact hown.2 z h1
    · exact hr.2 z h1)
  exact h g c w' ho' hg

set_option maxRecDepth 100000 in
theorem or8_128 (v : Int) (h0 : 0 ≤ v) (h1 : v ≤ 255) : bits .or .u8 v 128 = v % 128 + 128 := by
  rw [u8_or v 128 h0 (by omega) (by decide) (by decide)]
  have e : (128 : Int).toNat = 128 := rfl
  rw [e]
  obtain ⟨V, rfl⟩ := Int.eq_ofNat_of_zero_le h0
  rw [Int.toNat_natCast]
  have hV : V ≤ 255 := by omega
  have key : ∀ V : Fin 256, V.val ||| 128 = V.val % 128 + 128 := by decide
  have := key ⟨V, by omega⟩
  simp only at this
  rw [this]
  omega
theorem le_alloc {n : Nat} {w : World} {o : Obj} (h : n ≤ w.heap.size) : n ≤ (w.alloc o).heap.size := Nat.le_trans h (World.grownBy_alloc w o none).size
theorem low_or (u : Int) (h0 : 0 ≤ u) : bits .or .u8 (u % 256) 128 = u % 128 + 128 := by
  rw [or8_128 _ (by omega) (by omega)]
  omega

set_option maxHeartbeats 400000 in
theorem g_number (v : Int) (w : World) (hv : 0 ≤ v ∧ v ≤ 18446744073709551615) :
    Calls Tryz.prog 106 #[.int .u64 v] w fun e w' => ∃ g c N, e = .returned (.slice (some ⟨g, 0, none⟩) N c) ∧ Own w' w.heap.size g N c (enc v.toNat) ∧ w.grownBy w' none := by
  obtain ⟨Y, hY⟩ : ∃ Y, enc v.toNat = Y := ⟨_, rfl⟩
  have HY : Hid (EncRel Y [] v) := by show [] ++ _ = _; rw [List.nil_append]; exact hY
  have HYL : Hid (Y.length ≤ 10) := by
    show _ ≤ _
    have h2 := enc_len v.toNat (by omega)
    rw [← hY]; omega
  rw [hY]
  clear hY
  go_enter Tryz.func106, Tryz.ntmps106
  go_wp2
  go_loopw [0, 3] (fun t0 t3 wr => ∃ (u : Int) (M : Nat) (zk : List Int), 0 ≤ u ∧ u ≤ 18446744073709551615 ∧ t0 = .int .u64 u ∧ OwnV wr w.heap.size t3 M zk ∧ EncRel Y zk u ∧ w.grownBy wr none) (fun t0 _ _ => (intOf t0).toNat)
  case atStart => exact ⟨v, 0, [], hv.1, hv.2, rfl, OwnV.nil _ _, HY.out, World.grownBy.refl _ _⟩
  case round =>
    obtain ⟨u, M, zk, hu0, hu, rfl, ho, he, hg⟩ := hrel
    have HO : Hid (OwnV wr w.heap.size u3 M zk) := ho
    have HE : Hid (EncRel Y zk u) := he
    have hM : M ≤ 100 := by
      have h1 := he.len
      have h2 := HYL.out
      have h3 := ho.len
      omega
    have HG : Hid (∀ (w2 : World) (o : Obj), (wr.alloc o).grownBy w2 u3.ownBlock → w.grownBy w2 none) := fun w2 o hg2 =>
      gb_trans (gb_trans hg (World.grownBy_alloc wr _ none) (by simp)) hg2 (fun i hi => .inl (ho.block i hi).1)
    have HW : Hid (w.heap.size ≤ wr.heap.size) := hg.size
    clear ho he hg hv HY
    by_cases hlt : u < 128
    · have hub : 0 ≤ u ∧ u ≤ 255 := by omega
      have hd : decide (128 ≤ u) = false := by simp; omega
      go_wp2_with (at_builtin; refine wpList_append_v rfl (.tmp 14) (.tmp 17) rfl w.heap.size u3 M zk rfl (HO.out.kept (World.grownBy_alloc wr _ none) (Classical.em _)) ⟨wr.heap.size, 0, none⟩ [u] 1 1 rfl rfl (rd_one wr _ hub) (by omega) (by omega) (le_alloc HW.out) ?_; intro g2 c2 w2 ho2 hg2)
      go_ret
      refine ⟨g2, c2, M + 1, rfl, ?_, HG.out _ _ hg2⟩
      rw [HE.out.small hu0 hlt] at ho2
      exact ho2
    · have hd : decide (128 ≤ u) = true := by simp; omega
      have HX : Hid (bits .or .u8 (u % 256) 128 = u % 128 + 128) := low_or u hu0
      have hxb : 0 ≤ bits .or .u8 (u % 256) 128 ∧ bits .or .u8 (u % 256) 128 ≤ 255 := by rw [HX.out]; omega
      go_wp2_with (at_builtin; refine wpList_append_v rfl (.tmp 6) (.tmp 10) rfl w.heap.size u3 M zk rfl (HO.out.kept (World.grownBy_alloc wr _ none) (Classical.em _)) ⟨wr.heap.size, 0, none⟩ [bits .or .u8 (u % 256) 128] 1 1 rfl rfl (rd_one wr _ hxb) (by omega) (by omega) (le_alloc HW.out) ?_; intro g2 c2 w2 ho2 hg2)
      go_roundw
      case rel => exact ⟨u / 128, M + 1, _, by omega, by omega, rfl, ho2.v, by rw [HX.out]; exact HE.out.big (by omega), HG.out _ _ hg2⟩
      case measure => simp [intOf]; omega

theorem not_any (y : Int) : ((BitVec.ofInt 64 (-1) ^^^ BitVec.ofInt 64 y).toNat : Int) = 18446744073709551615 - y % 18446744073709551616 := by
  have e : BitVec.ofInt 64 (-1) = BitVec.allOnes 64 := by decide
  rw [e, BitVec.allOnes_xor, BitVec.toNat_not, BitVec.toNat_ofInt]
  have : ((2 ^ 64 : Nat) : Int) = 18446744073709551616 := by decide
  rw [this]
  omega
theorem wrap64_nat (t : Int) (h0 : 0 ≤ t) (h1 : t ≤ 18446744073709551615) : IntKind.i64.wrap t = (t + 9223372036854775808) % 18446744073709551616 - 9223372036854775808 := by
  simp [IntKind.wrap, IntKind.bits, IntKind.signed]
  split <;> omega
theorem not64 (y : Int) (h0 : 0 ≤ y) (h1 : y ≤ 18446744073709551615) : bits .xor .u64 18446744073709551615 y = 18446744073709551615 - y := by
  have e : bits .xor .u64 18446744073709551615 y = IntKind.u64.wrap ((BitVec.ofInt 64 18446744073709551615 ^^^ BitVec.ofInt 64 y).toNat : Int) := rfl
  rw [e, show BitVec.ofInt 64 18446744073709551615 = BitVec.ofInt 64 (-1) by decide, not_any, IntKind.wrap_u64]
  omega
theorem noti64 (y : Int) (h0 : 0 ≤ y) (h1 : y ≤ 9223372036854775807) : bits .xor .i64 (-1) y = -y - 1 := by
  have e : bits .xor .i64 (-1) y = IntKind.i64.wrap ((BitVec.ofInt 64 (-1) ^^^ BitVec.ofInt 64 y).toNat : Int) := rfl
  rw [e, not_any, wrap64_nat _ (by omega) (by omega)]
  omega

end Go.Proofs.YtpabbmiibehfjaaGreatDoor

/- slices.Concat over slices of bytes, as the program calls it. -/
namespace Go.Proofs.YtpabbmiibehfjaaGreatDoor
set_option maxRecDepth 20000
open Go.RowKit
set_option linter.unusedVariables false

/-- append(out, xs...): out is the call's own or none, xs whatever is read. -/
theorem wpList_append_vv {w : World} {ops : Array Oper} {rest : List Oper} {o : Oper} {a : Act} {Q : Exit → Act → World → Prop} (hgd : o.guard = none) (s x : Operand)
    (ho : o.op = .call { callee := .builtin .append, args := #[s, x], argTypes := #[120, 120] }) (base : Nat) (v : Value) (n : Nat) (xs : List Int) (hs : a.eval s = v) (hown : OwnV w base v n xs)
    (src : Option Addr) (zs : List Int) (m cap : Nat) (hx : a.eval x = .slice src m cap) (hm : zs.length = m) (hr : Rd w src zs) (hnil : src = none → cap = 0) (hlen : n + m ≤ 140737488355328) (hb : base ≤ w.heap.size)
    (h : ∀ v' w', OwnV w' base v' (n + m) (xs ++ zs) → w.grownBy w' v.ownBlock → wpList Tryz.prog ops Q rest (a.put o.dst v') w') : wpList Tryz.prog ops Q (o :: rest) a w := by
  obtain ⟨i0, hi, hz0, hz1, hz2⟩ := info_parts info5
  subst hm
  cases src with
  | none =>
    obtain rfl := hnil rfl
    obtain rfl := hr.none
    refine wpList_append_own_none hgd s x 120 ho base 5 i0 1 Tryz.underlying120 hi v n (bs xs) hs hown.1 hx ?_
    have := h v w (by simpa using hown) (World.grownBy.refl _ _)
    simpa using this
  | some ad =>
    refine wpList_append_own _ hgd s x 120 ho base 5 i0 (.int .u8 0) 1 1 Tryz.underlying120 hi hz0 hz1 hz2 rfl (by decide) _ n (bs xs) hs hown.1 ad zs.length cap (bs zs) hx (by rw [bs_len]; omega) hr.news (bs_one zs) (by unfold maxLen; omega) (by omega) hb ?_
    intro v' w' hown' hg hne
    rw [← bs_app] at hown'
    exact h v' w' ⟨hown', fun z hz => by
      rcases List.mem_append.1 hz with h1 | h1
      · exact hown.2 z h1
      · exact hr.2 z h1⟩ hg

theorem zero_cells_size (z : Value) (hz : z.cells.size = 1) (n : Nat) : (Builtin.zeroCells z.cells n).size = n := by
  rw [size_zeroCells, hz]; omega

set_option maxHeartbeats 400000 in
theorem g_grow (n : Nat) (w : World) (hn : n ≤ 140737488355328) :
    Calls Tryz.prog 118 #[.slice none 0 0, .int .i64 n] w fun e w' => ∃ v, e = .returned v ∧ OwnV w' w.heap.size v 0 [] ∧ w.grownBy w' none := by
  obtain ⟨i0, hi, hz0, hz1, hz2⟩ := info_parts info5
  by_cases h0 : 0 < n
  · have hrz := fun ty => Lib.run_append_nil_zeros (P := Tryz.prog) w 120 3 ty 5 i0 (.int .u8 0) .i64 .i64 Tryz.underlying120 Tryz.underlying3 hi hz0 n h0 (by omega) (by omega) (by rw [hz2]; omega)
    have hGn : n ≤ grownCap w n 0 5 := grownCap_ge w _ _ _
    have hG63 := grownCap_le_maxLen w n 0 5 (by unfold maxLen; omega)
    obtain ⟨G, hG⟩ : ∃ G, G = grownCap w n 0 5 := ⟨_, rfl⟩
    rw [← hG] at hrz hGn hG63
    have HO : Hid (OwnV (w.drew.alloc (.cells (Builtin.zeroCells (Value.int .u8 0).cells n ++ Builtin.zeroCells (Value.int .u8 0).cells (G - n)) 5)) w.heap.size (.slice (some ⟨w.heap.size, 0, none⟩) 0 G) 0 []) :=
      ⟨World.ownsRow_made (e := 5) (size := 1) w.drew _ G (Nat.le_refl _) hG63 (by rw [Array.size_append, zero_cells_size _ rfl, zero_cells_size _ rfl]; omega), by simp⟩
    have HG : Hid (w.grownBy (w.drew.alloc (.cells (Builtin.zeroCells (Value.int .u8 0).cells n ++ Builtin.zeroCells (Value.int .u8 0).cells (G - n)) 5)) none) := (gb_drew (World.grownBy.refl w none)).trans (World.grownBy_alloc w.drew _ none)
    generalize Builtin.zeroCells (Value.int .u8 0).cells n ++ Builtin.zeroCells (Value.int .u8 0).cells (G - n) = Z at hrz HO HG
    have hGm : (G : Int) ≤ 9223372036854775807 := by unfold maxLen at hG63; omega
    clear hG hz0 hz1 hz2 hi hG63
    go_enter Tryz.func118, Tryz.ntmps118
    go_wp2_with (at_builtin; refine Lib.wpList_append_run _ rfl _ _ _ _ rfl _ _ rfl rfl _ _ (hrz _) ?_)
    go_ret
    exact ⟨_, rfl, HO.out, HG.out⟩
  · obtain rfl : n = 0 := by omega
    go_enter Tryz.func118, Tryz.ntmps118
    go_wp2
    go_ret
    exact ⟨_, rfl, OwnV.nil _ _, World.grownBy.refl _ _⟩

/-- One of the slices that are joined. -/
structure Piece where
  a : Option Addr
  n : Nat
  c : Nat
  zs : List Int
def Piece.val (p : Piece) : Value := .slice p.a p.n p.c
def Piece.ok (w : World) (p : Piece) : Prop := Rd w p.a p.zs ∧ p.zs.length = p.n ∧ (p.a = none → p.c = 0)
def total (ps : List Piece) : Nat := (ps.map (·.n)).sum
def joined (ps : List Piece) : List Int := ps.flatMap (·.zs)
theorem total_next {ps : List Piece} {i : Nat} {p : Piece} (h : ps[i]? = some p) : total (ps.take (i + 1)) = total (ps.take i) + p.n := by
  unfold total
  rw [List.take_add_one, h]
  simp
theorem joined_next {ps : List Piece} {i : Nat} {p : Piece} (h : ps[i]? = some p) : joined (ps.take (i + 1)) = joined (ps.take i) ++ p.zs := by
  unfold joined
  rw [List.take_add_one, h]
  simp
theorem total_le (ps : List Piece) (i : Nat) : total (ps.take i) ≤ total ps := by
  have h : total ps = total (ps.take i) + total (ps.drop i) := by
    unfold total
    rw [← List.sum_append, ← List.map_append, List.take_append_drop]
  omega

set_option maxHeartbeats 1000000 in
theorem g_concat (b : Nat) (ps : List Piece) (k : Nat) (w : World) (hk : ps.length = k) (hk8 : k ≤ 8) (hcells : ∀ i p, ps[i]? = some p → w.cell? ⟨b, i, none⟩ = some p.val) (hok : ∀ p ∈ ps, p.ok w) (hsz : total ps ≤ 140737488355328) (hpos : 0 < total ps) :
    Calls Tryz.prog 105 #[.slice (some ⟨b, 0, none⟩) k k] w fun e w' => ∃ g c N, e = .returned (.slice (some ⟨g, 0, none⟩) N c) ∧ Own w' w.heap.size g N c (joined ps) ∧ w.grownBy w' none := by
  have HK : Hid (ps.length = k) := hk
  have HC : Hid (∀ i p, ps[i]? = some p → w.cell? ⟨b, i, none⟩ = some p.val) := hcells
  have HO : Hid (∀ p ∈ ps, p.ok w) := hok
  have HP : Hid (0 < total ps) := hpos
  clear hk hcells hok hpos
  go_enter Tryz.func105, Tryz.ntmps105
  go_wp2
  go_loop [3, 11] (fun t3 t11 => ∃ (i : Nat), i ≤ k ∧ t11 = .int .i64 i ∧ t3 = .int .i64 (total (ps.take i) : Nat)) (fun _ t11 => k - (intOf t11).toNat)
  case atStart => exact ⟨0, Nat.zero_le _, rfl, by simp [total]⟩
  case round =>
    obtain ⟨i, hi, rfl, rfl⟩ := hrel
    by_cases hlt : i < k
    · obtain ⟨p, hp⟩ : ∃ p, ps[i]? = some p := ⟨_, List.getElem?_eq_getElem (by have := HK.out; omega)⟩
      have hcell := HC.out i p hp
      unfold Piece.val at hcell
      have HT : Hid (total (ps.take (i + 1)) = total (ps.take i) + p.n) := total_next hp
      have htl := total_le ps (i + 1)
      rw [HT.out] at htl
      generalize total (ps.take i) = S at HT htl ⊢
      clear hp
      obtain ⟨pa, pn, pc, pz⟩ := p
      simp only at hcell HT htl
      go_wp2
      go_round
      case rel => exact ⟨i + 1, by omega, by go_num, by rw [HT.out]; go_num⟩
      case measure => simp [intOf]; omega
    · obtain rfl : i = k := by omega
      have HT : Hid (total (ps.take i) = total ps) := by
        show _ = _
        rw [List.take_of_length_le (by have := HK.out; omega)]
      rw [HT.out]
      have HGR := g_grow (total ps) w hsz
      go_wp2_with fail
      refine HGR.mono ?_
      rintro e w1 ⟨v1, rfl, ho1, hg1⟩
      have HO1 : Hid (OwnV w1 w.heap.size v1 0 []) := ho1
      have HG1 : Hid (w.grownBy w1 none) := hg1
      clear ho1 hg1
      go_wp2
      go_loopw [6, 27] (fun t6 t27 wr => ∃ (m : Nat), m ≤ i ∧ t27 = .int .i64 m ∧ OwnV wr w.heap.size t6 (total (ps.take m)) (joined (ps.take m)) ∧ w.grownBy wr none) (fun _ t27 _ => i - (intOf t27).toNat)
      case atStart => exact ⟨0, Nat.zero_le _, rfl, by simpa [total, joined] using HO1.out, HG1.out⟩
      case round =>
        obtain ⟨m, hm, rfl, ho, hg⟩ := hrel
        have HV : Hid (OwnV wr w.heap.size u6 (total (ps.take m)) (joined (ps.take m))) := ho
        have HG : Hid (w.grownBy wr none) := hg
        clear ho hg HO1 HG1
        by_cases hlt2 : m < i
        · obtain ⟨p, hp⟩ : ∃ p, ps[m]? = some p := ⟨_, List.getElem?_eq_getElem (by have := HK.out; omega)⟩
          have hcell := HG.out.cell (HC.out m p hp) (by simp)
          have hpo := HO.out p (List.mem_of_getElem? hp)
          unfold Piece.val at hcell
          unfold Piece.ok at hpo
          have HR : Hid (Rd wr p.a p.zs) := hpo.1.grown HG.out (by simp)
          have HL : Hid (p.zs.length = p.n) := hpo.2.1
          have HNil : Hid (p.a = none → p.c = 0) := hpo.2.2
          have HT : Hid (total (ps.take (m + 1)) = total (ps.take m) + p.n) := total_next hp
          have HJ : Hid (joined (ps.take (m + 1)) = joined (ps.take m) ++ p.zs) := joined_next hp
          have htl := total_le ps (m + 1)
          rw [HT.out] at htl
          have HW : Hid (w.heap.size ≤ wr.heap.size) := HG.out.size
          have HGo : Hid (∀ w2, wr.grownBy w2 u6.ownBlock → w.grownBy w2 none) := fun w2 h => gb_trans HG.out h (fun q hq => .inl (HV.out.block q hq).1)
          generalize total (ps.take m) = S at HT HV htl ⊢
          generalize joined (ps.take m) = J at HJ HV ⊢
          clear hp hpo
          obtain ⟨pa, pn, pc, pz⟩ := p
          simp only at hcell HR HL HNil HT HJ htl
          go_wp2_with (at_builtin; refine wpList_append_vv rfl (.tmp 31) (.tmp 32) rfl w.heap.size u6 S J rfl HV.out pa pz pn pc rfl HL.out HR.out HNil.out (by omega) HW.out ?_; intro v2 w2 ho2 hg2)
          go_roundw
          case rel => exact ⟨m + 1, by omega, by go_num, by rw [HT.out, HJ.out]; exact ho2, HGo.out _ hg2⟩
          case measure => simp [intOf]; omega
        · obtain rfl : m = i := by omega
          have HV2 : Hid (∃ g c, u6 = .slice (some ⟨g, 0, none⟩) (total ps) c ∧ Own wr w.heap.size g (total ps) c (joined ps)) := by
            have h := HV.out
            rw [List.take_of_length_le (by have := HK.out; omega)] at h
            refine Own.of h.1 ?_ h.2
            intro e
            rcases h.1.2 with ⟨_, h'⟩ | ⟨g, cap, cur, h', _⟩
            · have := HP.out; omega
            · rw [e] at h'; simp at h'
          clear HV
          go_wp2
          go_ret
          obtain ⟨g, c, e, h⟩ := HV2.out
          exact ⟨g, c, _, by rw [e]; rfl, h, HG.out⟩
end Go.Proofs.YtpabbmiibehfjaaGreatDoor

/- The program's PutUint, PutInt, PutText, Frame. -/
namespace Go.Proofs.YtpabbmiibehfjaaGreatDoor
set_option maxRecDepth 20000
open Go.RowKit
set_option linter.unusedVariables false

theorem g_join (ps : List Piece) (k : Nat) (w : World) (t : TypeId) (arr : Array Value) (harr : arr = (ps.map Piece.val).toArray) (hk : ps.length = k) (hk8 : k ≤ 8) (hok : ∀ p ∈ ps, p.ok w) (hsz : total ps ≤ 140737488355328) (hpos : 0 < total ps) :
    Calls Tryz.prog 105 #[.slice (some ⟨w.heap.size, 0, none⟩) k k] (w.alloc (.cells arr t)) fun e w' => ∃ g c N, e = .returned (.slice (some ⟨g, 0, none⟩) N c) ∧ Own w' w.heap.size g N c (joined ps) ∧ w.grownBy w' none := by
  refine (g_concat w.heap.size ps k (w.alloc (.cells arr t)) hk hk8 ?_ ?_ hsz hpos).mono ?_
  · intro i p h
    rw [cell_of_row _ w.heap.size i arr t _ (heap_alloc_new w _), harr]
    simp [h]
  · intro p hp
    have h := hok p hp
    exact ⟨h.1.grown (World.grownBy_alloc w _ none) (by simp), h.2⟩
  · rintro e w' ⟨g, c, N, rfl, ho, hg⟩
    exact ⟨g, c, N, rfl, ho.base (le_alloc (Nat.le_refl _)), (World.grownBy_alloc w _ none).trans hg⟩

theorem f_putuint (a : Option Addr) (zs : List Int) (L cap : Nat) (v : Int) (w : World) (hr : Rd w a zs) (hL : zs.length = L) (hnil : a = none → cap = 0) (hz : L ≤ 140737488355000) (hv : 0 ≤ v ∧ v ≤ 18446744073709551615) :
    Calls Tryz.prog 88 #[.slice a L cap, .int .u64 v] w fun e w' => ∃ g c N, e = .returned (.slice (some ⟨g, 0, none⟩) N c) ∧ Own w' w.heap.size g N c (zs ++ enc v.toNat) ∧ w.grownBy w' none := by
  have HC := g_number v w hv
  have HY : Hid ((enc v.toNat).length ≤ 10 ∧ 1 ≤ (enc v.toNat).length) := ⟨enc_len v.toNat (by omega), enc_len_pos _⟩
  generalize enc v.toNat = Y at HC HY ⊢
  have HJ : Hid (∀ g1 c1 N1 w1, Own w1 w.heap.size g1 N1 c1 Y → w.grownBy w1 none → ∀ t, Calls Tryz.prog 105 #[.slice (some ⟨w1.heap.size, 0, none⟩) 2 2] (w1.alloc (.cells #[.slice a L cap, .slice (some ⟨g1, 0, none⟩) N1 c1] t)) fun e w' => ∃ g c N, e = .returned (.slice (some ⟨g, 0, none⟩) N c) ∧ Own w' w.heap.size g N c (zs ++ Y) ∧ w.grownBy w' none) := by
    intro g1 c1 N1 w1 ho hg t
    have hl := ho.len
    have hy := HY.out
    refine (g_join [⟨a, L, cap, zs⟩, ⟨some ⟨g1, 0, none⟩, N1, c1, Y⟩] 2 w1 t _ rfl rfl (by omega) ?_ (by simp [total]; omega) (by simp [total]; omega)).mono ?_
    · intro p hp
      simp only [List.mem_cons, List.mem_nil_iff, or_false] at hp
      rcases hp with rfl | rfl
      · exact ⟨hr.grown hg (by simp), hL, hnil⟩
      · exact ⟨ho.rd, ho.len, by simp⟩
    · rintro e w' ⟨g, c, N, rfl, ho', hg'⟩
      refine ⟨g, c, N, rfl, ?_, hg.trans hg'⟩
      have := ho'.base hg.size
      simpa [joined] using this
  clear hr hL hnil HY
  go_enter Tryz.func88, Tryz.ntmps88
  go_wp2_with fail
  refine HC.mono ?_
  rintro e w1 ⟨g1, c1, N1, rfl, ho1, hg1⟩
  have HO1 : Hid (Own w1 w.heap.size g1 N1 c1 Y) := ho1
  have HG1 : Hid (w.grownBy w1 none) := hg1
  clear ho1 hg1
  go_wp2_with (go_at_call 105; refine (HJ.out _ _ _ _ HO1.out HG1.out _).mono ?_; rintro e w2 ⟨g2, c2, N2, rfl, ho2, hg2⟩)
  go_ret
  exact ⟨g2, c2, N2, rfl, ho2, hg2⟩

theorem conv_text (w : World) (s : ByteArray) : ∃ C w2, (convert 9 120 (.string s)).run Tryz.prog w = .ok (.slice (some ⟨w.heap.size, 0, none⟩) s.size C) w2 ∧ Rd w2 (some ⟨w.heap.size, 0, none⟩) (sInts s) ∧ w.grownBy w2 none := by
  refine ⟨_, _, Go.Lib.run_convert_string_bytes w 9 120 5 s Tryz.underlying9 Tryz.underlying120 Tryz.underlying5, ⟨.inr ⟨w.heap.size, 0, rfl, fun i hi => ?_⟩, sInts_byte s⟩, ?_⟩
  · rw [sInts_len] at hi
    rw [Nat.zero_add, Go.Lib.bytesWorld_cell w 5 s i hi]
    simp [sInts, List.getD_eq_getElem?_getD, hi]
  · exact ⟨rfl, rfl, rfl, by rw [Go.Lib.bytesWorld_size]; omega, fun k hk _ => Go.Lib.bytesWorld_at_old w 5 s k hk⟩

set_option maxHeartbeats 400000 in
theorem f_puttext (a : Option Addr) (zs : List Int) (L cap : Nat) (s : ByteArray) (w : World) (hr : Rd w a zs) (hL : zs.length = L) (hnil : a = none → cap = 0) (hz : L + s.size ≤ 140737488355000) :
    Calls Tryz.prog 89 #[.slice a L cap, .string s] w fun e w' => ∃ g c N, e = .returned (.slice (some ⟨g, 0, none⟩) N c) ∧ Own w' w.heap.size g N c (zs ++ enc s.size ++ sInts s) ∧ w.grownBy w' none := by
  have HC := g_number (s.size : Int) w (by omega)
  rw [Int.toNat_natCast] at HC
  have HY : Hid ((enc s.size).length ≤ 10 ∧ 1 ≤ (enc s.size).length) := ⟨enc_len s.size (by omega), enc_len_pos _⟩
  generalize enc s.size = Y at HC HY ⊢
  have HJ : Hid (∀ g1 c1 N1 w1 c2 w2, Own w1 w.heap.size g1 N1 c1 Y → w.grownBy w1 none → w1.grownBy w2 none → Rd w2 (some ⟨w1.heap.size, 0, none⟩) (sInts s) → ∀ t, Calls Tryz.prog 105 #[.slice (some ⟨w2.heap.size, 0, none⟩) 3 3] (w2.alloc (.cells #[.slice a L cap, .slice (some ⟨g1, 0, none⟩) N1 c1, .slice (some ⟨w1.heap.size, 0, none⟩) s.size c2] t)) fun e w' => ∃ g c N, e = .returned (.slice (some ⟨g, 0, none⟩) N c) ∧ Own w' w.heap.size g N c (zs ++ Y ++ sInts s) ∧ w.grownBy w' none) := by
    intro g1 c1 N1 w1 c2 w2 ho hg hg12 hrd t
    have hl := ho.len
    have hy := HY.out
    have hgg := hg.trans hg12
    refine (g_join [⟨a, L, cap, zs⟩, ⟨some ⟨g1, 0, none⟩, N1, c1, Y⟩, ⟨some ⟨w1.heap.size, 0, none⟩, s.size, c2, sInts s⟩] 3 w2 t _ rfl rfl (by omega) ?_ (by simp [total]; omega) (by simp [total]; omega)).mono ?_
    · intro p hp
      simp only [List.mem_cons, List.mem_nil_iff, or_false] at hp
      rcases hp with rfl | rfl | rfl
      · exact ⟨hr.grown hgg (by simp), hL, hnil⟩
      · exact ⟨ho.rd.grown hg12 (by simp), ho.len, by simp⟩
      · exact ⟨hrd, sInts_len s, by simp⟩
    · rintro e w' ⟨g, c, N, rfl, ho', hg'⟩
      refine ⟨g, c, N, rfl, ?_, hgg.trans hg'⟩
      have := ho'.base hgg.size
      simpa [joined] using this
  clear hr hL hnil HY
  go_enter Tryz.func89, Tryz.ntmps89
  go_wp2_with fail
  refine HC.mono ?_
  rintro e w1 ⟨g1, c1, N1, rfl, ho1, hg1⟩
  have HO1 : Hid (Own w1 w.heap.size g1 N1 c1 Y) := ho1
  have HG1 : Hid (w.grownBy w1 none) := hg1
  obtain ⟨C, w2, hcv, hrd, hg12⟩ := conv_text w1 s
  have HRD : Hid (Rd w2 (some ⟨w1.heap.size, 0, none⟩) (sInts s)) := hrd
  have HG12 : Hid (w1.grownBy w2 none) := hg12
  clear ho1 hg1 hrd hg12
  go_wp2_with (go_at_call 105; refine (HJ.out _ _ _ _ _ _ HO1.out HG1.out HG12.out HRD.out _).mono ?_; rintro e w3 ⟨g2, c2, N2, rfl, ho2, hg2⟩)
  go_ret
  exact ⟨g2, c2, N2, rfl, ho2, hg2⟩

end Go.Proofs.YtpabbmiibehfjaaGreatDoor

/- The program's own Encode, Hash. -/
namespace Go.Proofs.YtpabbmiibehfjaaGreatDoor
set_option maxRecDepth 20000
open Go.RowKit
set_option linter.unusedVariables false

theorem one_text (s : ByteArray) (w : World) (hz : s.size ≤ 140737488355000) :
    Calls Tryz.prog 89 #[.slice none 0 0, .string s] w fun e w' => ∃ g c N, e = .returned (.slice (some ⟨g, 0, none⟩) N c) ∧ Own w' w.heap.size g N c (enc s.size ++ sInts s) ∧ w.grownBy w' none := by
  have h := f_puttext none [] 0 0 s w ⟨.inl rfl, by simp⟩ rfl (fun _ => rfl) (by omega)
  rwa [List.nil_append] at h
theorem lab_cells (w : World) (p : Lab) : (w.alloc (.cells #[.string p.1, .string p.2] 62)).cell? ⟨w.heap.size, 0, none⟩ = some (.string p.1) ∧ (w.alloc (.cells #[.string p.1, .string p.2] 62)).cell? ⟨w.heap.size, 1, none⟩ = some (.string p.2) := by
  constructor
  · rw [cell_of_row _ w.heap.size 0 _ _ _ (heap_alloc_new w _)]; rfl
  · rw [cell_of_row _ w.heap.size 1 _ _ _ (heap_alloc_new w _)]; rfl

set_option maxHeartbeats 2000000 in
theorem f_encode (a : Option Addr) (ls : List Lab) (L c : Nat) (Y : List Int) (w : World) (hx : SRd labE w a ls) (hL : ls.length = L) (hz : L ≤ 4398046511104) (hB : (encR ls).length ≤ 140737488354000) (hY : encR ls = Y) :
    Calls Tryz.prog 76 #[.slice a L c] w fun e w' => ∃ g c N, e = .returned (.slice (some ⟨g, 0, none⟩) N c) ∧ Own w' w.heap.size g N c Y ∧ w.grownBy w' none := by
  subst hY
  have HX : Hid (SRd labE w a ls) := hx
  have HL : Hid (ls.length = L) := hL
  have HBB : Hid ((encR ls).length ≤ 140737488354000) := hB
  have HP := f_putuint none [] 0 0 (L : Int) w ⟨.inl rfl, by simp⟩ rfl (fun _ => rfl) (by omega) (by omega)
  rw [Int.toNat_natCast, List.nil_append] at HP
  have HPP : Hid (Calls Tryz.prog 88 #[.slice none 0 0, .int .u64 (L : Int)] w fun e w' => ∃ g c N, e = .returned (.slice (some ⟨g, 0, none⟩) N c) ∧ Own w' w.heap.size g N c (enc L) ∧ w.grownBy w' none) := HP
  have HE0 : Hid (EncAt ls 0 (enc L)) := by show _ = _; rw [hL]; simp
  have HEE : Hid (∀ zk, EncAt ls L zk → zk = encR ls) := by
    intro zk h
    unfold EncAt at h
    rw [h, List.take_of_length_le (by omega)]
    rfl
  generalize encR ls = Y at HBB HEE ⊢
  have HLE : Hid (∀ k zk, EncAt ls k zk → zk.length ≤ 140737488354000) := fun k zk h => Nat.le_trans h.le hB
  clear hx hL hB HP
  go_enter Tryz.func76, Tryz.ntmps76
  go_wp2_with fail
  refine HPP.out.mono ?_
  rintro e w1 ⟨g1, c1, N1, rfl, ho1, hg1⟩
  have HO1 : Hid (Own w1 w.heap.size g1 N1 c1 (enc L)) := ho1
  have HG1 : Hid (w.grownBy w1 none) := hg1
  clear ho1 hg1 HPP
  go_wp2
  go_loopw [3, 12] (fun t3 t4 wr => ∃ (k g cc N : Nat) (zk : List Int), k ≤ L ∧ t4 = .int .i64 k ∧ t3 = .slice (some ⟨g, 0, none⟩) N cc ∧ Own wr w.heap.size g N cc zk ∧ EncAt ls k zk ∧ w.grownBy wr none) (fun _ t4 _ => L - (intOf t4).toNat)
  case atStart => exact ⟨0, g1, c1, N1, enc L, Nat.zero_le _, rfl, rfl, HO1.out, HE0.out, HG1.out⟩
  case round =>
    obtain ⟨k, g, cc, N, zk, hk, rfl, rfl, ho, he, hg⟩ := hrel
    have HO : Hid (Own wr w.heap.size g N cc zk) := ho
    have HE : Hid (EncAt ls k zk) := he
    have HG : Hid (w.grownBy wr none) := hg
    clear ho he hg HO1 HG1 HE0
    by_cases hlt : k < L
    · have hl := HL.out
      obtain ⟨b, off, rfl, hc⟩ := HX.out.at (by omega)
      obtain ⟨⟨s1, s2⟩, ex⟩ : ∃ x, ls[k]? = some x := ⟨_, List.getElem?_eq_getElem (by omega)⟩
      have a0 : wr.cell? ⟨b, off + k * 2, none⟩ = some (.string s1) := HG.out.cell (hc k _ 0 _ ex rfl) (by simp)
      have a1 : wr.cell? ⟨b, off + k * 2 + 1, none⟩ = some (.string s2) := by rw [Nat.add_assoc]; exact HG.out.cell (hc k _ 1 _ ex rfl) (by simp)
      have HN : Hid (EncAt ls (k + 1) (zk ++ (enc s1.size ++ sInts s1) ++ (enc s2.size ++ sInts s2))) := by have h := HE.out.next ex; show EncAt _ _ _; simpa only [List.append_assoc] using h
      have hlen := HLE.out _ _ HN.out
      simp only [List.length_append, sInts_len] at hlen
      have hki : (k : Int) < (L : Int) := by omega
      have HC1 : Hid (∀ w, Calls Tryz.prog 89 #[.slice none 0 0, .string s1] w fun e w' => ∃ g c N, e = .returned (.slice (some ⟨g, 0, none⟩) N c) ∧ Own w' w.heap.size g N c (enc s1.size ++ sInts s1) ∧ w.grownBy w' none) := fun w => one_text s1 w (by omega)
      have HC2 : Hid (∀ w, Calls Tryz.prog 89 #[.slice none 0 0, .string s2] w fun e w' => ∃ g c N, e = .returned (.slice (some ⟨g, 0, none⟩) N c) ∧ Own w' w.heap.size g N c (enc s2.size ++ sInts s2) ∧ w.grownBy w' none) := fun w => one_text s2 w (by omega)
      have HB : Hid (zk.length + ((enc s1.size ++ sInts s1).length + (enc s2.size ++ sInts s2).length) ≤ 140737488354000) := by show _ ≤ _; simp only [List.length_append, sInts_len]; omega
      generalize enc s1.size ++ sInts s1 = E1 at HC1 HN HB
      generalize enc s2.size ++ sInts s2 = E2 at HC2 HN HB
      clear hc ex hl hlen
      go_wp2_with fail
      refine (HC1.out _).mono ?_
      rintro e w1 ⟨g1, c1, N1, rfl, ho1, hg1⟩
      have HO1 : Hid (Own w1 wr.heap.size g1 N1 c1 E1) := ho1.base (World.grownBy_alloc wr _ none).size
      have HGr : Hid (wr.grownBy w1 none) := (World.grownBy_alloc wr _ none).trans hg1
      have d1 : w1.cell? ⟨wr.heap.size, 1, none⟩ = some (.string s2) := hg1.cell (lab_cells wr (s1, s2)).2 (by simp)
      have HOu : Hid (Own w1 w.heap.size g N cc zk) := HO.out.kept HGr.out (by simp)
      have HGw : Hid (w.grownBy w1 none) := HG.out.trans HGr.out
      have HLT : Hid (g < wr.heap.size) := HO.out.ge.2
      clear ho1 hg1
      go_wp2_with (at_builtin; refine wpList_append_rd rfl (.tmp 16) (.tmp 19) rfl w.heap.size g N cc zk rfl HOu.out (some ⟨g1, 0, none⟩) E1 N1 c1 rfl HO1.out.len HO1.out.rd (by simp) (by have := HB.out; have := HOu.out.len; have := HO1.out.len; omega) ?_; intro g2 c2 w2 ho2 hg2; have d2 : w2.cell? ⟨wr.heap.size, 1, none⟩ = some (.string s2) := hg2.cell d1 (by have := HLT.out; simp; omega))
      have HO2 : Hid (Own w2 w.heap.size g2 (N + N1) c2 (zk ++ E1)) := ho2
      have HG2 : Hid (w.grownBy w2 none) := gb_trans HGw.out hg2 (fun j hj => .inl (by cases hj; exact HO.out.ge.1))
      have HL1 : Hid (N = zk.length ∧ N1 = E1.length) := ⟨HOu.out.len.symm, HO1.out.len.symm⟩
      clear ho2 hg2 d1 d2 HO1 HGr HOu HGw
      refine (HC2.out _).mono ?_
      rintro e w3 ⟨g3, c3, N3, rfl, ho3, hg3⟩
      have HO3 : Hid (Own w3 w2.heap.size g3 N3 c3 E2) := ho3
      have HOu : Hid (Own w3 w.heap.size g2 (N + N1) c2 (zk ++ E1)) := HO2.out.kept hg3 (by simp)
      have HG3 : Hid (w.grownBy w3 none) := HG2.out.trans hg3
      clear ho3 hg3
      go_wp2_with (at_builtin; refine wpList_append_rd rfl (.tmp 21) (.tmp 24) rfl w.heap.size g2 (N + N1) c2 (zk ++ E1) rfl HOu.out (some ⟨g3, 0, none⟩) E2 N3 c3 rfl HO3.out.len HO3.out.rd (by simp) (by have := HB.out; have := HL1.out; have := HO3.out.len; omega) ?_; intro g4 c4 w4 ho4 hg4)
      go_roundw
      case rel => exact ⟨k + 1, g4, c4, N + N1 + N3, _, by omega, by go_num, rfl, ho4, HN.out, gb_trans HG3.out hg4 (fun j hj => .inl (by cases hj; exact HO2.out.ge.1))⟩
      case measure => simp [intOf]; omega
    · obtain rfl : k = L := by omega
      have HY : Hid (zk = Y) := HEE.out zk HE.out
      have hki : ¬ (k : Int) < (k : Int) := by omega
      go_wp2
      go_ret
      exact ⟨g, cc, N, rfl, by rw [← HY.out]; exact HO.out, HG.out⟩

end Go.Proofs.YtpabbmiibehfjaaGreatDoor

