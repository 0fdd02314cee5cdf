/- slices.Concat over slices of bytes, as the program calls it. -/
import Derived.Test.YtailaehpgmpaaaaDnum
import Derived.Lib.AppendZeros
namespace Go.Proofs.Ytailaehpgmpaaaa
open Go.RowKit
set_option linter.unusedVariables false

/-- append(out, xs...): out is the call's own or none, xs whatever is read. -/
theorem wpList_append_vv {w : World} {ops : Array Oper} {rest : List Oper} {o : Oper} {a : Act} {Q : Exit → Act → World → Prop} (hgd : o.guard = none) (s x : Operand)
    (ho : o.op = .call { callee := .builtin .append, args := #[s, x], argTypes := #[26, 26] }) (base : Nat) (v : Value) (n : Nat) (xs : List Int) (hs : a.eval s = v) (hown : OwnV w base v n xs)
    (src : Option Addr) (zs : List Int) (m cap : Nat) (hx : a.eval x = .slice src m cap) (hm : zs.length = m) (hr : Rd w src zs) (hnil : src = none → cap = 0) (hlen : n + m ≤ 140737488355328) (hb : base ≤ w.heap.size)
    (h : ∀ v' w', OwnV w' base v' (n + m) (xs ++ zs) → w.grownBy w' v.ownBlock → wpList Try.prog ops Q rest (a.put o.dst v') w') : wpList Try.prog ops Q (o :: rest) a w := by
  obtain ⟨i0, hi, hz0, hz1, hz2⟩ := info_parts info5
  subst hm
  cases src with
  | none =>
    obtain rfl := hnil rfl
    obtain rfl := hr.none
    refine wpList_append_own_none hgd s x 26 ho base 5 i0 1 Try.underlying26 hi v n (bs xs) hs hown.1 hx ?_
    have := h v w (by simpa using hown) (World.grownBy.refl _ _)
    simpa using this
  | some ad =>
    refine wpList_append_own _ hgd s x 26 ho base 5 i0 (.int .u8 0) 1 1 Try.underlying26 hi hz0 hz1 hz2 rfl (by decide) _ n (bs xs) hs hown.1 ad zs.length cap (bs zs) hx (by rw [bs_len]; omega) hr.news (bs_one zs) (by unfold maxLen; omega) (by omega) hb ?_
    intro v' w' hown' hg hne
    rw [← bs_app] at hown'
    exact h v' w' ⟨hown', fun z hz => by
      rcases List.mem_append.1 hz with h1 | h1
      · exact hown.2 z h1
      · exact hr.2 z h1⟩ hg

theorem zero_cells_size (z : Value) (hz : z.cells.size = 1) (n : Nat) : (Builtin.zeroCells z.cells n).size = n := by
  rw [size_zeroCells, hz]; omega

set_option maxHeartbeats 400000 in
theorem g_grow (n : Nat) (w : World) (hn : n ≤ 140737488355328) :
    Calls Try.prog 83 #[.slice none 0 0, .int .i64 n] w fun e w' => ∃ v, e = .returned v ∧ OwnV w' w.heap.size v 0 [] ∧ w.grownBy w' none := by
  obtain ⟨i0, hi, hz0, hz1, hz2⟩ := info_parts info5
  by_cases h0 : 0 < n
  · have hrz := fun ty => Lib.run_append_nil_zeros (P := Try.prog) w 26 3 ty 5 i0 (.int .u8 0) .i64 .i64 Try.underlying26 Try.underlying3 hi hz0 n h0 (by omega) (by omega) (by rw [hz2]; omega)
    have hGn : n ≤ grownCap w n 0 5 := grownCap_ge w _ _ _
    have hG63 := grownCap_le_maxLen w n 0 5 (by unfold maxLen; omega)
    obtain ⟨G, hG⟩ : ∃ G, G = grownCap w n 0 5 := ⟨_, rfl⟩
    rw [← hG] at hrz hGn hG63
    have HO : Hid (OwnV (w.drew.alloc (.cells (Builtin.zeroCells (Value.int .u8 0).cells n ++ Builtin.zeroCells (Value.int .u8 0).cells (G - n)) 5)) w.heap.size (.slice (some ⟨w.heap.size, 0, none⟩) 0 G) 0 []) :=
      ⟨World.ownsRow_made (e := 5) (size := 1) w.drew _ G (Nat.le_refl _) hG63 (by rw [Array.size_append, zero_cells_size _ rfl, zero_cells_size _ rfl]; omega), by simp⟩
    have HG : Hid (w.grownBy (w.drew.alloc (.cells (Builtin.zeroCells (Value.int .u8 0).cells n ++ Builtin.zeroCells (Value.int .u8 0).cells (G - n)) 5)) none) := (gb_drew (World.grownBy.refl w none)).trans (World.grownBy_alloc w.drew _ none)
    generalize Builtin.zeroCells (Value.int .u8 0).cells n ++ Builtin.zeroCells (Value.int .u8 0).cells (G - n) = Z at hrz HO HG
    have hGm : (G : Int) ≤ 9223372036854775807 := by unfold maxLen at hG63; omega
    clear hG hz0 hz1 hz2 hi hG63
    go_enter Try.func83, Try.ntmps83
    go_wp2_with (at_builtin; refine Lib.wpList_append_run _ rfl _ _ _ _ rfl _ _ rfl rfl _ _ (hrz _) ?_)
    go_ret
    exact ⟨_, rfl, HO.out, HG.out⟩
  · obtain rfl : n = 0 := by omega
    go_enter Try.func83, Try.ntmps83
    go_wp2
    go_ret
    exact ⟨_, rfl, OwnV.nil _ _, World.grownBy.refl _ _⟩

/-- One of the slices that are joined. -/
structure Piece where
  a : Option Addr
  n : Nat
  c : Nat
  zs : List Int
def Piece.val (p : Piece) : Value := .slice p.a p.n p.c
def Piece.ok (w : World) (p : Piece) : Prop := Rd w p.a p.zs ∧ p.zs.length = p.n ∧ (p.a = none → p.c = 0)
def total (ps : List Piece) : Nat := (ps.map (·.n)).sum
def joined (ps : List Piece) : List Int := ps.flatMap (·.zs)
theorem total_next {ps : List Piece} {i : Nat} {p : Piece} (h : ps[i]? = some p) : total (ps.take (i + 1)) = total (ps.take i) + p.n := by
  unfold total
  rw [List.take_add_one, h]
  simp
theorem joined_next {ps : List Piece} {i : Nat} {p : Piece} (h : ps[i]? = some p) : joined (ps.take (i + 1)) = joined (ps.take i) ++ p.zs := by
  unfold joined
  rw [List.take_add_one, h]
  simp
theorem total_le (ps : List Piece) (i : Nat) : total (ps.take i) ≤ total ps := by
  have h : total ps = total (ps.take i) + total (ps.drop i) := by
    unfold total
    rw [← List.sum_append, ← List.map_append, List.take_append_drop]
  omega

set_option maxHeartbeats 1000000 in
theorem g_concat (b : Nat) (ps : List Piece) (k : Nat) (w : World) (hk : ps.length = k) (hk8 : k ≤ 8) (hcells : ∀ i p, ps[i]? = some p → w.cell? ⟨b, i, none⟩ = some p.val) (hok : ∀ p ∈ ps, p.ok w) (hsz : total ps ≤ 140737488355328) (hpos : 0 < total ps) :
    Calls Try.prog 69 #[.slice (some ⟨b, 0, none⟩) k k] w fun e w' => ∃ g c N, e = .returned (.slice (some ⟨g, 0, none⟩) N c) ∧ Own w' w.heap.size g N c (joined ps) ∧ w.grownBy w' none := by
  have HK : Hid (ps.length = k) := hk
  have HC : Hid (∀ i p, ps[i]? = some p → w.cell? ⟨b, i, none⟩ = some p.val) := hcells
  have HO : Hid (∀ p ∈ ps, p.ok w) := hok
  have HP : Hid (0 < total ps) := hpos
  clear hk hcells hok hpos
  go_enter Try.func69, Try.ntmps69
  go_wp2
  go_loop [3, 11] (fun t3 t11 => ∃ (i : Nat), i ≤ k ∧ t11 = .int .i64 i ∧ t3 = .int .i64 (total (ps.take i) : Nat)) (fun _ t11 => k - (intOf t11).toNat)
  case atStart => exact ⟨0, Nat.zero_le _, rfl, by simp [total]⟩
  case round =>
    obtain ⟨i, hi, rfl, rfl⟩ := hrel
    by_cases hlt : i < k
    · obtain ⟨p, hp⟩ : ∃ p, ps[i]? = some p := ⟨_, List.getElem?_eq_getElem (by have := HK.out; omega)⟩
      have hcell := HC.out i p hp
      unfold Piece.val at hcell
      have HT : Hid (total (ps.take (i + 1)) = total (ps.take i) + p.n) := total_next hp
      have htl := total_le ps (i + 1)
      rw [HT.out] at htl
      generalize total (ps.take i) = S at HT htl ⊢
      clear hp
      obtain ⟨pa, pn, pc, pz⟩ := p
      simp only at hcell HT htl
      go_wp2
      go_round
      case rel => exact ⟨i + 1, by omega, by go_num, by rw [HT.out]; go_num⟩
      case measure => simp [intOf]; omega
    · obtain rfl : i = k := by omega
      have HT : Hid (total (ps.take i) = total ps) := by
        show _ = _
        rw [List.take_of_length_le (by have := HK.out; omega)]
      rw [HT.out]
      have HGR := g_grow (total ps) w hsz
      go_wp2_with fail
      refine HGR.mono ?_
      rintro e w1 ⟨v1, rfl, ho1, hg1⟩
      have HO1 : Hid (OwnV w1 w.heap.size v1 0 []) := ho1
      have HG1 : Hid (w.grownBy w1 none) := hg1
      clear ho1 hg1
      go_wp2
      go_loopw [6, 27] (fun t6 t27 wr => ∃ (m : Nat), m ≤ i ∧ t27 = .int .i64 m ∧ OwnV wr w.heap.size t6 (total (ps.take m)) (joined (ps.take m)) ∧ w.grownBy wr none) (fun _ t27 _ => i - (intOf t27).toNat)
      case atStart => exact ⟨0, Nat.zero_le _, rfl, by simpa [total, joined] using HO1.out, HG1.out⟩
      case round =>
        obtain ⟨m, hm, rfl, ho, hg⟩ := hrel
        have HV : Hid (OwnV wr w.heap.size u6 (total (ps.take m)) (joined (ps.take m))) := ho
        have HG : Hid (w.grownBy wr none) := hg
        clear ho hg HO1 HG1
        by_cases hlt2 : m < i
        · obtain ⟨p, hp⟩ : ∃ p, ps[m]? = some p := ⟨_, List.getElem?_eq_getElem (by have := HK.out; omega)⟩
          have hcell := HG.out.cell (HC.out m p hp) (by simp)
          have hpo := HO.out p (List.mem_of_getElem? hp)
          unfold Piece.val at hcell
          unfold Piece.ok at hpo
          have HR : Hid (Rd wr p.a p.zs) := hpo.1.grown HG.out (by simp)
          have HL : Hid (p.zs.length = p.n) := hpo.2.1
          have HNil : Hid (p.a = none → p.c = 0) := hpo.2.2
          have HT : Hid (total (ps.take (m + 1)) = total (ps.take m) + p.n) := total_next hp
          have HJ : Hid (joined (ps.take (m + 1)) = joined (ps.take m) ++ p.zs) := joined_next hp
          have htl := total_le ps (m + 1)
          rw [HT.out] at htl
          have HW : Hid (w.heap.size ≤ wr.heap.size) := HG.out.size
          have HGo : Hid (∀ w2, wr.grownBy w2 u6.ownBlock → w.grownBy w2 none) := fun w2 h => gb_trans HG.out h (fun q hq => .inl (HV.out.block q hq).1)
          generalize total (ps.take m) = S at HT HV htl ⊢
          generalize joined (ps.take m) = J at HJ HV ⊢
          clear hp hpo
          obtain ⟨pa, pn, pc, pz⟩ := p
          simp only at hcell HR HL HNil HT HJ htl
          go_wp2_with (at_builtin; refine wpList_append_vv rfl (.tmp 31) (.tmp 32) rfl w.heap.size u6 S J rfl HV.out pa pz pn pc rfl HL.out HR.out HNil.out (by omega) HW.out ?_; intro v2 w2 ho2 hg2)
          go_roundw
          case rel => exact ⟨m + 1, by omega, by go_num, by rw [HT.out, HJ.out]; exact ho2, HGo.out _ hg2⟩
          case measure => simp [intOf]; omega
        · obtain rfl : m = i := by omega
          have HV2 : Hid (∃ g c, u6 = .slice (some ⟨g, 0, none⟩) (total ps) c ∧ Own wr w.heap.size g (total ps) c (joined ps)) := by
            have h := HV.out
            rw [List.take_of_length_le (by have := HK.out; omega)] at h
            refine Own.of h.1 ?_ h.2
            intro e
            rcases h.1.2 with ⟨_, h'⟩ | ⟨g, cap, cur, h', _⟩
            · have := HP.out; omega
            · rw [e] at h'; simp at h'
          clear HV
          go_wp2
          go_ret
          obtain ⟨g, c, e, h⟩ := HV2.out
          exact ⟨g, c, _, by rw [e]; rfl, h, HG.out⟩
end Go.Proofs.Ytailaehpgmpaaaa
