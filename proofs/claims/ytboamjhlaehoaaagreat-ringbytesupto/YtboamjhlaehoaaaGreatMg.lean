/- Several texts in one: Dnumb, Dread, Dnext, Dcat. -/
import Derived.Test.YtboamjhlaehoaaaGreatMe
import Derived.Test.YtboamjhlaehoaaaGreatMf
import Derived.Lib.SlBytesRow
import Derived.Lib.AppendZeros
/- The program's reader: its method number. -/
namespace Go.Proofs.YtboamjhlaehoaaaGreat
open Go.RowKit
set_option linter.unusedVariables false

/-- A reader: its bytes and its place. -/
def At (w : World) (r : Nat) (a : Option Addr) (L cap : Nat) (p : Int) : Prop := w.heap[r]? = some (.cells #[.slice a L cap, .int .i64 p] 149 (0, 0))
section
variable {w w' : World} {r : Nat} {a : Option Addr} {L cap : Nat} {p : Int}
theorem At.bytes (h : At w r a L cap p) : w.cell? ⟨r, 0, none⟩ = some (.slice a L cap) := by rw [cell_of_row w r 0 _ _ _ h]; rfl
theorem At.place (h : At w r a L cap p) : w.cell? ⟨r, 1, none⟩ = some (.int .i64 p) := by rw [cell_of_row w r 1 _ _ _ h]; rfl
theorem At.free (h : At w r a L cap p) : w.frozen? ⟨r, 1, none⟩ = false := by unfold At at h; simp [World.frozen?, h]
theorem At.lt (h : At w r a L cap p) : r < w.heap.size := (Array.getElem?_eq_some_iff.1 h).1
theorem At.set (h : At w r a L cap p) (q : Int) : At (w.setCell ⟨r, 1, none⟩ (.int .i64 q)) r a L cap q := by
  unfold At
  rw [setCell_eq_setRow w r 1 _ 149 (0, 0) _ h, setRow_heap w r _ _ 149 _ h]
  rfl
theorem At.grown (h : At w r a L cap p) (hg : w.grownBy w' none) : At w' r a L cap p := (hg.block r h.lt (by simp)).trans h
theorem At.draw (h : At w r a L cap p) (n : Nat) : At (w.drewN n) r a L cap p := h
end
theorem ret2 {a a' b b' : Int} {ka kb : IntKind} (h : a = a') (h1 : b = b') : Ending.returned (.tuple #[.int ka a, .int kb b]) = .returned (.tuple #[.int ka a', .int kb b']) := by rw [h, h1]

theorem num_out (r : Nat) (a : Option Addr) (L cap : Nat) (p : Int) (w : World) (h : At w r a L cap p) (hp : p < 0 ∨ (L : Int) < p) :
    Calls Tryz.prog 124 #[.pointer (some ⟨r, 0, none⟩)] w fun e w' => e = .returned (.tuple #[.int .u64 0, .int .i64 20]) ∧ w.grownBy w' none := by
  have c0 := h.bytes
  have c1 := h.place
  clear h
  by_cases h0 : p < 0
  · have d1 : decide (p < 0) = true := by simpa using h0
    clear h0 hp
    go_enter Tryz.func124, Tryz.ntmps124
    go_wp2
    go_quiet (fail)
    go_wp2
    go_ret2
    exact ⟨rfl, gb_drewN _ _⟩
  · have d1 : decide (p < 0) = false := by simpa using h0
    have d2 : decide ((L : Int) < p) = true := by simp; omega
    clear h0 hp
    go_enter Tryz.func124, Tryz.ntmps124
    go_wp2
    go_quiet (fail)
    go_wp2
    go_ret2
    exact ⟨rfl, gb_drewN _ _⟩

theorem or7b (v c : Int) (i : Nat) (hv0 : 0 ≤ v) (hv : v < 2 ^ (7 * i)) (hi : i ≤ 9) (hc : 0 ≤ c ∧ c ≤ 255) (h9 : i = 9 → c ≤ 1) :
    bits .or .u64 v (IntKind.u64.wrap (c % 128 * 2 ^ (i * 7))) = v + c % 128 * 2 ^ (7 * i) ∧ v + c % 128 * 2 ^ (7 * i) ≤ 18446744073709551615 ∧ (i < 9 → v + c % 128 * 2 ^ (7 * i) < 2 ^ (7 * (i + 1))) := by
  have h := or7 v c i hv0 hv hi hc h9
  have e1 : bits .and .u8 c 127 = c % 128 := by
    rw [u8_and c 127 hc.1 (by omega) (by decide) (by decide)]
    have : (127 : Int).toNat = 127 := rfl
    rw [this, nat_mask7]
    omega
  rw [e1, show IntKind.u64.wrap (c % 128) = c % 128 by rw [IntKind.wrap_u64]; omega] at h
  rw [Nat.mul_comm i 7]
  exact h

set_option maxHeartbeats 2000000 in
theorem num_in (r : Nat) (a : Option Addr) (zs : List Int) (L cap : Nat) (p : Nat) (r1 r2 r3 : Int) (w : World) (h : At w r a L cap p) (hr : Rd w a zs) (hL : zs.length = L) (hcap : L ≤ cap) (hz : (L : Int) ≤ 140737488355000) (hp : p ≤ L) (hR : ud zs p 10 0 0 = (r1, r2, r3)) :
    Calls Tryz.prog 124 #[.pointer (some ⟨r, 0, none⟩)] w fun e w' => e = .returned (.tuple #[.int .u64 r1, .int .i64 r3]) ∧ w.grownBy w' (some r) ∧ (r3 = 0 → At w' r a L cap r2) := by
  have d1 : decide ((p : Int) < 0) = false := by simp
  have d2 : decide ((L : Int) < (p : Int)) = false := by simp; omega
  have d3 : decide (L < p) = false := by simp; omega
  have c0 := h.bytes
  have c1 := h.place
  have HA : Hid (At w r a L cap p) := h
  have HR : Hid (Rd w a zs) := hr
  have HL : Hid (zs.length = L) := hL
  have H0 : Hid (URel zs p 0 0 r1 r2 r3) := hR
  have hsl : ∀ w, (Instr.slice 49 (.slice a L cap) (some (.int .i64 (p : Int))) none none).run Tryz.prog w = .ok (.slice (if cap = p then a else a.map (·.add p)) (L - p) (cap - p)) w := by
    intro w
    have e5 : Tryz.prog.elem 49 = 5 := by simp [Program.elem, Tryz.underlying49]
    rw [run_slice_l w 49 a L cap (by rw [e5]; exact Tryz.underlying49) .i64 (p : Int) (by omega) (by omega), e5]
    have hz5 : (sizeOf 5).run Tryz.prog w = .ok 1 w := by
      obtain ⟨i0, hi, _, hz1, _⟩ := info_parts info5
      simp [sizeOf, typeInfo, hi, hz1]
    rw [hz5]
    simp [Result.andThen, sliced]
  generalize hv : (if cap = p then a else a.map (·.add p)) = v at hsl
  have HG0 : Hid (w.grownBy w none) := World.grownBy.refl _ _
  clear h hr hL hR
  obtain ⟨w0, ew⟩ : ∃ w0, w0 = w := ⟨_, rfl⟩
  have HW : Hid (w0 = w) := ew
  rw [← HW.out]
  rw [ew.symm] at c0 c1 HA HR
  have HG0 : Hid (w0.grownBy w0 none) := World.grownBy.refl _ _
  clear ew
  go_enter Tryz.func124, Tryz.ntmps124
  go_wp2
  go_quiet (fail)
  obtain ⟨w1, ew⟩ : ∃ w1, w1 = w0.drewN nq := ⟨_, rfl⟩
  rw [← ew]
  have d0 : w1.cell? ⟨r, 0, none⟩ = some (.slice a L cap) := by rw [ew]; exact c0
  have d1 : w1.cell? ⟨r, 1, none⟩ = some (.int .i64 (p : Int)) := by rw [ew]; exact c1
  have HA1 : Hid (At w1 r a L cap p) := by show At _ _ _ _ _ _; rw [ew]; exact HA.out
  have HR1 : Hid (Rd w1 a zs) := by show Rd _ _ _; rw [ew]; exact HR.out
  have HG1 : Hid (w0.grownBy w1 none) := by show World.grownBy _ _ _; rw [ew]; exact gb_drewN _ _
  clear ew c0 c1 HA HR
  go_wp2
  go_quiet (fail)
  obtain ⟨w2, ew⟩ : ∃ w2, w2 = w1.drewN nq := ⟨_, rfl⟩
  rw [← ew]
  have c0 : w2.cell? ⟨r, 0, none⟩ = some (.slice a L cap) := by rw [ew]; exact d0
  have c1 : w2.cell? ⟨r, 1, none⟩ = some (.int .i64 (p : Int)) := by rw [ew]; exact d1
  have HA : Hid (At w2 r a L cap p) := by show At _ _ _ _ _ _; rw [ew]; exact HA1.out
  have HR : Hid (Rd w2 a zs) := by show Rd _ _ _; rw [ew]; exact HR1.out
  have HG : Hid (w0.grownBy w2 none) := by show World.grownBy _ _ _; rw [ew]; exact HG1.out.trans (gb_drewN _ _)
  clear ew d0 d1 HA1 HR1 HG1
  go_wp2
  go_loop [4, 34] (fun t4 t34 => ∃ (i : Nat) (v : Int), i ≤ 9 ∧ 0 ≤ v ∧ v ≤ 9223372036854775807 ∧ v < 2 ^ (7 * i) ∧ URel zs p i v r1 r2 r3 ∧ t4 = .int .u64 v ∧ t34 = .int .i64 i) (fun _ t34 => 10 - (intOf t34).toNat)
  case atStart => exact ⟨0, 0, by omega, by omega, by omega, by decide, H0.out, rfl, rfl⟩
  case round =>
    obtain ⟨i, x, hi, hx0, hx1, hx2, hu, rfl, rfl⟩ := hrel
    have HU : Hid (URel zs p i x r1 r2 r3) := hu
    have HV : Hid (x < 2 ^ (7 * i)) := hx2
    clear hu hx2 H0
    by_cases hlt : i < L - p
    · have hl := HL.out
      obtain ⟨b, off, rfl, hc⟩ := HR.out.at (by omega)
      obtain rfl : v = some ⟨b, off + p, none⟩ := by
        rw [← hv, if_neg (by omega)]
        by_cases h0 : p = 0
        · subst h0; rfl
        · simp [Addr.add, h0]
      have hcell := hc (p + i) (by omega)
      rw [← Nat.add_assoc] at hcell
      have hby := HR.out.byte (p + i)
      have HlZ : Hid (p + i < zs.length) := by show _ < _; omega
      obtain ⟨c, ec⟩ : ∃ c, c = zs.getD (p + i) 0 := ⟨_, rfl⟩
      rw [← ec] at hcell hby
      have HC : Hid (c = zs.getD (p + i) 0) := ec
      clear hc ec hl hv
      have HB1 : Hid (∀ w b, (b = true ↔ 0 < i ∧ c = 0) → Calls Tryz.prog 135 #[.int .i64 i, .int .u8 c] w fun e w' => e = .returned (.bool b) ∧ w = w') := fun w b h => g_needless i c w b h
      have HB2 : Hid (∀ w b, (b = true ↔ i = 9 ∧ 1 < c) → Calls Tryz.prog 136 #[.int .i64 i, .int .u8 c] w fun e w' => e = .returned (.bool b) ∧ w = w') := fun w b h => g_above i c w b h
      by_cases hform : i = 9 ∧ 1 < c ∨ 0 < i ∧ c = 0
      · have HRes : Hid (r1 = 0 ∧ r2 = 0 ∧ r3 = 21) := HU.out.form hi HlZ.out (by rw [← HC.out]; exact hform)
        by_cases hn : 0 < i ∧ c = 0
        · have HQ : Hid (0 < i ∧ c = 0) := hn
          clear HU HV HlZ HC hform hn
          go_wp2_with (go_at_call 135; refine (HB1.out _ true (by simpa using HQ.out)).mono ?_; rintro e w1 ⟨rfl, rfl⟩)
          go_ret2
          exact ⟨ret2 HRes.out.1.symm HRes.out.2.2.symm, gb_any HG.out _, fun h => by have := HRes.out.2.2; omega⟩
        · have HQ : Hid ((i = 9 ∧ 1 < c) ∧ ¬ (0 < i ∧ c = 0)) := ⟨by omega, hn⟩
          clear HU HV HlZ HC hform hn
          go_wp2_with (first | (go_at_call 135; refine (HB1.out _ false (by simpa using HQ.out.2)).mono ?_; rintro e w1 ⟨rfl, rfl⟩) | (go_at_call 136; refine (HB2.out _ true (by simpa using HQ.out.1)).mono ?_; rintro e w1 ⟨rfl, rfl⟩))
          go_ret2
          exact ⟨ret2 HRes.out.1.symm HRes.out.2.2.symm, gb_any HG.out _, fun h => by have := HRes.out.2.2; omega⟩
      · have HQ : Hid (¬ (i = 9 ∧ 1 < c) ∧ ¬ (0 < i ∧ c = 0)) := ⟨by omega, by omega⟩
        have HNF : Hid (¬ (i = 9 ∧ 1 < zs.getD (p + i) 0 ∨ 0 < i ∧ zs.getD (p + i) 0 = 0)) := by rw [← HC.out]; exact hform
        have HO7 : Hid (_ ∧ _ ∧ _) := or7b x c i hx0 HV.out hi hby (fun h => by omega)
        have hi7 : ((i : Int) * 7) ≤ 63 := by omega
        by_cases h128 : c < 128
        · have e1 : decide (c < 128) = true := by simpa using h128
          have HRes : Hid (_ ∧ _ ∧ _) := HU.out.done hi HlZ.out HNF.out (by rw [← HC.out]; exact h128)
          have hfro := HA.out.free
          have hpi : (p : Int) + ((i : Int) + 1) ≤ 140737488355001 := by omega
          clear HU HV HNF hform h128
          go_wp2_with (first | (go_at_call 135; refine (HB1.out _ false (by simpa using HQ.out.2)).mono ?_; rintro e w1 ⟨rfl, rfl⟩) | (go_at_call 136; refine (HB2.out _ false (by simpa using HQ.out.1)).mono ?_; rintro e w1 ⟨rfl, rfl⟩))
          go_ret2
          refine ⟨ret2 ?_ HRes.out.2.2, ?_, fun h => ?_⟩
          · rw [← HRes.out.1, ← HC.out]; exact HO7.out.1
          · exact gb_trans (gb_any HG.out (some r)) (gb_set rfl) (fun k hk => .inr hk)
          · rw [← HRes.out.2.1, Int.add_assoc]
            exact HA.out.set _
        · have e1 : decide (c < 128) = false := by simpa using h128
          have HS : Hid (URel zs p (i + 1) (x + c % 128 * 2 ^ (7 * i)) r1 r2 r3) := by
            have h := HU.out.step hi HlZ.out HNF.out (by rw [← HC.out]; exact h128)
            rw [← HC.out] at h
            exact h
          have h9' : i < 9 := by omega
          have HNN : Hid (0 ≤ x + c % 128 * 2 ^ (7 * i) ∧ x + c % 128 * 2 ^ (7 * i) ≤ 9223372036854775807) := by
            have hp : (0 : Int) < 2 ^ (7 * i) := Int.pow_pos (by decide)
            have := Int.mul_nonneg (show 0 ≤ c % 128 by omega) (Int.le_of_lt hp)
            have h1 := HO7.out.2.2 h9'
            have h2 : (2 : Int) ^ (7 * (i + 1)) ≤ 2 ^ 63 := by exact_mod_cast Nat.pow_le_pow_right (by decide) (by omega : 7 * (i + 1) ≤ 63)
            constructor <;> omega
          clear HU HV HNF hform h128
          go_wp2_with (first | (go_at_call 135; refine (HB1.out _ false (by simpa using HQ.out.2)).mono ?_; rintro e w1 ⟨rfl, rfl⟩) | (go_at_call 136; refine (HB2.out _ false (by simpa using HQ.out.1)).mono ?_; rintro e w1 ⟨rfl, rfl⟩))
          go_round
          case rel => exact ⟨i + 1, x + c % 128 * 2 ^ (7 * i), by omega, HNN.out.1, HNN.out.2, HO7.out.2.2 h9', HS.out, by rw [HO7.out.1], by go_num⟩
          case measure => simp [intOf]; omega
    · have HRes : Hid (r1 = 0 ∧ r2 = 0 ∧ r3 = 20) := HU.out.over hi (by have := HL.out; omega)
      go_wp2
      go_ret2
      exact ⟨ret2 HRes.out.1.symm HRes.out.2.2.symm, gb_any HG.out _, fun h => by have := HRes.out.2.2; omega⟩

/-- What the method number answers, and where the reader stands then. -/
theorem g_num (r : Nat) (a : Option Addr) (zs : List Int) (L cap : Nat) (p r1 r2 r3 : Int) (w : World) (h : At w r a L cap p) (hr : Rd w a zs) (hL : zs.length = L) (hcap : L ≤ cap) (hz : (L : Int) ≤ 140737488355000) (hR : uintR zs p = (r1, r2, r3)) :
    Calls Tryz.prog 124 #[.pointer (some ⟨r, 0, none⟩)] w fun e w' => e = .returned (.tuple #[.int .u64 r1, .int .i64 r3]) ∧ w.grownBy w' (some r) ∧ (r3 = 0 → At w' r a L cap r2) := by
  unfold uintR at hR
  by_cases hp : p < 0 ∨ (zs.length : Int) < p
  · rw [if_pos hp] at hR
    simp only [Prod.mk.injEq] at hR
    obtain ⟨rfl, rfl, rfl⟩ := hR
    refine (num_out r a L cap p w h (by omega)).mono ?_
    rintro e w' ⟨rfl, hg⟩
    exact ⟨rfl, gb_any hg _, fun h => by omega⟩
  · rw [if_neg hp] at hR
    obtain ⟨q, rfl⟩ := Int.eq_ofNat_of_zero_le (show 0 ≤ p by omega)
    rw [Int.toNat_natCast] at hR
    exact num_in r a zs L cap q r1 r2 r3 w h hr hL hcap hz (by omega) hR
end Go.Proofs.YtboamjhlaehoaaaGreat

/- The program's readers: read at each of its types. -/
namespace Go.Proofs.YtboamjhlaehoaaaGreat
open Go.RowKit
set_option linter.unusedVariables false

theorem ud_err (zs : List Int) (p : Nat) : ∀ (f i : Nat) (v r1 r2 r3 : Int), ud zs p f i v = (r1, r2, r3) → r3 ≠ 0 → r1 = 0 ∧ r2 = 0 := by
  intro f
  induction f with
  | zero => intro i v r1 r2 r3 h h3; simp only [ud, Prod.mk.injEq] at h; omega
  | succ f ih =>
    intro i v r1 r2 r3 h h3
    rw [ud] at h
    split at h
    · simp only [Prod.mk.injEq] at h; omega
    · split at h
      · simp only [Prod.mk.injEq] at h; omega
      · split at h
        · simp only [Prod.mk.injEq] at h; omega
        · exact ih _ _ _ _ _ h h3
theorem uintR_err {zs : List Int} {p r1 r2 r3 : Int} (h : uintR zs p = (r1, r2, r3)) (h3 : r3 ≠ 0) : r1 = 0 ∧ r2 = 0 := by
  unfold uintR at h
  split at h
  · simp only [Prod.mk.injEq] at h; omega
  · exact ud_err _ _ _ _ _ _ _ _ h h3
theorem at_new (w : World) (a : Option Addr) (L cap : Nat) (p : Int) : At (w.alloc (.cells #[.slice a L cap, .int .i64 p] 149)) w.heap.size a L cap p := heap_alloc_new w _
theorem gb_reader {w w' : World} {o : Obj} (h : (w.alloc o).grownBy w' (some w.heap.size)) : w.grownBy w' none := gb_trans (World.grownBy_alloc w o none) h (fun k hk => .inl (by simp at hk; omega))
end Go.Proofs.YtboamjhlaehoaaaGreat

/- The program's readers: signed, next, text; Int, Text. -/
namespace Go.Proofs.YtboamjhlaehoaaaGreat
open Go.RowKit
set_option linter.unusedVariables false

end Go.Proofs.YtboamjhlaehoaaaGreat

/- slices.Concat over slices of bytes, as the program calls it. -/
namespace Go.Proofs.YtboamjhlaehoaaaGreat
open Go.RowKit
set_option linter.unusedVariables false

/-- append(out, xs...): out is the call's own or none, xs whatever is read. -/
theorem wpList_append_vv {w : World} {ops : Array Oper} {rest : List Oper} {o : Oper} {a : Act} {Q : Exit → Act → World → Prop} (hgd : o.guard = none) (s x : Operand)
    (ho : o.op = .call { callee := .builtin .append, args := #[s, x], argTypes := #[49, 49] }) (base : Nat) (v : Value) (n : Nat) (xs : List Int) (hs : a.eval s = v) (hown : OwnV w base v n xs)
    (src : Option Addr) (zs : List Int) (m cap : Nat) (hx : a.eval x = .slice src m cap) (hm : zs.length = m) (hr : Rd w src zs) (hnil : src = none → cap = 0) (hlen : n + m ≤ 140737488355328) (hb : base ≤ w.heap.size)
    (h : ∀ v' w', OwnV w' base v' (n + m) (xs ++ zs) → w.grownBy w' v.ownBlock → wpList Tryz.prog ops Q rest (a.put o.dst v') w') : wpList Tryz.prog ops Q (o :: rest) a w := by
  obtain ⟨i0, hi, hz0, hz1, hz2⟩ := info_parts info5
  subst hm
  cases src with
  | none =>
    obtain rfl := hnil rfl
    obtain rfl := hr.none
    refine wpList_append_own_none hgd s x 49 ho base 5 i0 1 Tryz.underlying49 hi v n (bs xs) hs hown.1 hx ?_
    have := h v w (by simpa using hown) (World.grownBy.refl _ _)
    simpa using this
  | some ad =>
    refine wpList_append_own _ hgd s x 49 ho base 5 i0 (.int .u8 0) 1 1 Tryz.underlying49 hi hz0 hz1 hz2 rfl (by decide) _ n (bs xs) hs hown.1 ad zs.length cap (bs zs) hx (by rw [bs_len]; omega) hr.news (bs_one zs) (by unfold maxLen; omega) (by omega) hb ?_
    intro v' w' hown' hg hne
    rw [← bs_app] at hown'
    exact h v' w' ⟨hown', fun z hz => by
      rcases List.mem_append.1 hz with h1 | h1
      · exact hown.2 z h1
      · exact hr.2 z h1⟩ hg

theorem zero_cells_size (z : Value) (hz : z.cells.size = 1) (n : Nat) : (Builtin.zeroCells z.cells n).size = n := by
  rw [size_zeroCells, hz]; omega

set_option maxHeartbeats 400000 in
theorem g_grow (n : Nat) (w : World) (hn : n ≤ 140737488355328) :
    Calls Tryz.prog 115 #[.slice none 0 0, .int .i64 n] w fun e w' => ∃ v, e = .returned v ∧ OwnV w' w.heap.size v 0 [] ∧ w.grownBy w' none := by
  obtain ⟨i0, hi, hz0, hz1, hz2⟩ := info_parts info5
  by_cases h0 : 0 < n
  · have hrz := fun ty => Lib.run_append_nil_zeros (P := Tryz.prog) w 49 3 ty 5 i0 (.int .u8 0) .i64 .i64 Tryz.underlying49 Tryz.underlying3 hi hz0 n h0 (by omega) (by omega) (by rw [hz2]; omega)
    have hGn : n ≤ grownCap w n 0 5 := grownCap_ge w _ _ _
    have hG63 := grownCap_le_maxLen w n 0 5 (by unfold maxLen; omega)
    obtain ⟨G, hG⟩ : ∃ G, G = grownCap w n 0 5 := ⟨_, rfl⟩
    rw [← hG] at hrz hGn hG63
    have HO : Hid (OwnV (w.drew.alloc (.cells (Builtin.zeroCells (Value.int .u8 0).cells n ++ Builtin.zeroCells (Value.int .u8 0).cells (G - n)) 5)) w.heap.size (.slice (some ⟨w.heap.size, 0, none⟩) 0 G) 0 []) :=
      ⟨World.ownsRow_made (e := 5) (size := 1) w.drew _ G (Nat.le_refl _) hG63 (by rw [Array.size_append, zero_cells_size _ rfl, zero_cells_size _ rfl]; omega), by simp⟩
    have HG : Hid (w.grownBy (w.drew.alloc (.cells (Builtin.zeroCells (Value.int .u8 0).cells n ++ Builtin.zeroCells (Value.int .u8 0).cells (G - n)) 5)) none) := (gb_drew (World.grownBy.refl w none)).trans (World.grownBy_alloc w.drew _ none)
    generalize Builtin.zeroCells (Value.int .u8 0).cells n ++ Builtin.zeroCells (Value.int .u8 0).cells (G - n) = Z at hrz HO HG
    have hGm : (G : Int) ≤ 9223372036854775807 := by unfold maxLen at hG63; omega
    clear hG hz0 hz1 hz2 hi hG63
    go_enter Tryz.func115, Tryz.ntmps115
    go_wp2_with (at_builtin; refine Lib.wpList_append_run _ rfl _ _ _ _ rfl _ _ rfl rfl _ _ (hrz _) ?_)
    go_ret
    exact ⟨_, rfl, HO.out, HG.out⟩
  · obtain rfl : n = 0 := by omega
    go_enter Tryz.func115, Tryz.ntmps115
    go_wp2
    go_ret
    exact ⟨_, rfl, OwnV.nil _ _, World.grownBy.refl _ _⟩

/-- One of the slices that are joined. -/
structure Piece where
  a : Option Addr
  n : Nat
  c : Nat
  zs : List Int
def Piece.val (p : Piece) : Value := .slice p.a p.n p.c
def Piece.ok (w : World) (p : Piece) : Prop := Rd w p.a p.zs ∧ p.zs.length = p.n ∧ (p.a = none → p.c = 0)
def total (ps : List Piece) : Nat := (ps.map (·.n)).sum
def joined (ps : List Piece) : List Int := ps.flatMap (·.zs)
theorem total_next {ps : List Piece} {i : Nat} {p : Piece} (h : ps[i]? = some p) : total (ps.take (i + 1)) = total (ps.take i) + p.n := by
  unfold total
  rw [List.take_add_one, h]
  simp
theorem joined_next {ps : List Piece} {i : Nat} {p : Piece} (h : ps[i]? = some p) : joined (ps.take (i + 1)) = joined (ps.take i) ++ p.zs := by
  unfold joined
  rw [List.take_add_one, h]
  simp
theorem total_le (ps : List Piece) (i : Nat) : total (ps.take i) ≤ total ps := by
  have h : total ps = total (ps.take i) + total (ps.drop i) := by
    unfold total
    rw [← List.sum_append, ← List.map_append, List.take_append_drop]
  omega

set_option maxHeartbeats 1000000 in
theorem g_concat (b : Nat) (ps : List Piece) (k : Nat) (w : World) (hk : ps.length = k) (hk8 : k ≤ 8) (hcells : ∀ i p, ps[i]? = some p → w.cell? ⟨b, i, none⟩ = some p.val) (hok : ∀ p ∈ ps, p.ok w) (hsz : total ps ≤ 140737488355328) (hpos : 0 < total ps) :
    Calls Tryz.prog 95 #[.slice (some ⟨b, 0, none⟩) k k] w fun e w' => ∃ g c N, e = .returned (.slice (some ⟨g, 0, none⟩) N c) ∧ Own w' w.heap.size g N c (joined ps) ∧ w.grownBy w' none := by
  have HK : Hid (ps.length = k) := hk
  have HC : Hid (∀ i p, ps[i]? = some p → w.cell? ⟨b, i, none⟩ = some p.val) := hcells
  have HO : Hid (∀ p ∈ ps, p.ok w) := hok
  have HP : Hid (0 < total ps) := hpos
  clear hk hcells hok hpos
  go_enter Tryz.func95, Tryz.ntmps95
  go_wp2
  go_loop [3, 11] (fun t3 t11 => ∃ (i : Nat), i ≤ k ∧ t11 = .int .i64 i ∧ t3 = .int .i64 (total (ps.take i) : Nat)) (fun _ t11 => k - (intOf t11).toNat)
  case atStart => exact ⟨0, Nat.zero_le _, rfl, by simp [total]⟩
  case round =>
    obtain ⟨i, hi, rfl, rfl⟩ := hrel
    by_cases hlt : i < k
    · obtain ⟨p, hp⟩ : ∃ p, ps[i]? = some p := ⟨_, List.getElem?_eq_getElem (by have := HK.out; omega)⟩
      have hcell := HC.out i p hp
      unfold Piece.val at hcell
      have HT : Hid (total (ps.take (i + 1)) = total (ps.take i) + p.n) := total_next hp
      have htl := total_le ps (i + 1)
      rw [HT.out] at htl
      generalize total (ps.take i) = S at HT htl ⊢
      clear hp
      obtain ⟨pa, pn, pc, pz⟩ := p
      simp only at hcell HT htl
      go_wp2
      go_round
      case rel => exact ⟨i + 1, by omega, by go_num, by rw [HT.out]; go_num⟩
      case measure => simp [intOf]; omega
    · obtain rfl : i = k := by omega
      have HT : Hid (total (ps.take i) = total ps) := by
        show _ = _
        rw [List.take_of_length_le (by have := HK.out; omega)]
      rw [HT.out]
      have HGR := g_grow (total ps) w hsz
      go_wp2_with fail
      refine HGR.mono ?_
      rintro e w1 ⟨v1, rfl, ho1, hg1⟩
      have HO1 : Hid (OwnV w1 w.heap.size v1 0 []) := ho1
      have HG1 : Hid (w.grownBy w1 none) := hg1
      clear ho1 hg1
      go_wp2
      go_loopw [6, 27] (fun t6 t27 wr => ∃ (m : Nat), m ≤ i ∧ t27 = .int .i64 m ∧ OwnV wr w.heap.size t6 (total (ps.take m)) (joined (ps.take m)) ∧ w.grownBy wr none) (fun _ t27 _ => i - (intOf t27).toNat)
      case atStart => exact ⟨0, Nat.zero_le _, rfl, by simpa [total, joined] using HO1.out, HG1.out⟩
      case round =>
        obtain ⟨m, hm, rfl, ho, hg⟩ := hrel
        have HV : Hid (OwnV wr w.heap.size u6 (total (ps.take m)) (joined (ps.take m))) := ho
        have HG : Hid (w.grownBy wr none) := hg
        clear ho hg HO1 HG1
        by_cases hlt2 : m < i
        · obtain ⟨p, hp⟩ : ∃ p, ps[m]? = some p := ⟨_, List.getElem?_eq_getElem (by have := HK.out; omega)⟩
          have hcell := HG.out.cell (HC.out m p hp) (by simp)
          have hpo := HO.out p (List.mem_of_getElem? hp)
          unfold Piece.val at hcell
          unfold Piece.ok at hpo
          have HR : Hid (Rd wr p.a p.zs) := hpo.1.grown HG.out (by simp)
          have HL : Hid (p.zs.length = p.n) := hpo.2.1
          have HNil : Hid (p.a = none → p.c = 0) := hpo.2.2
          have HT : Hid (total (ps.take (m + 1)) = total (ps.take m) + p.n) := total_next hp
          have HJ : Hid (joined (ps.take (m + 1)) = joined (ps.take m) ++ p.zs) := joined_next hp
          have htl := total_le ps (m + 1)
          rw [HT.out] at htl
          have HW : Hid (w.heap.size ≤ wr.heap.size) := HG.out.size
          have HGo : Hid (∀ w2, wr.grownBy w2 u6.ownBlock → w.grownBy w2 none) := fun w2 h => gb_trans HG.out h (fun q hq => .inl (HV.out.block q hq).1)
          generalize total (ps.take m) = S at HT HV htl ⊢
          generalize joined (ps.take m) = J at HJ HV ⊢
          clear hp hpo
          obtain ⟨pa, pn, pc, pz⟩ := p
          simp only at hcell HR HL HNil HT HJ htl
          go_wp2_with (at_builtin; refine wpList_append_vv rfl (.tmp 31) (.tmp 32) rfl w.heap.size u6 S J rfl HV.out pa pz pn pc rfl HL.out HR.out HNil.out (by omega) HW.out ?_; intro v2 w2 ho2 hg2)
          go_roundw
          case rel => exact ⟨m + 1, by omega, by go_num, by rw [HT.out, HJ.out]; exact ho2, HGo.out _ hg2⟩
          case measure => simp [intOf]; omega
        · obtain rfl : m = i := by omega
          have HV2 : Hid (∃ g c, u6 = .slice (some ⟨g, 0, none⟩) (total ps) c ∧ Own wr w.heap.size g (total ps) c (joined ps)) := by
            have h := HV.out
            rw [List.take_of_length_le (by have := HK.out; omega)] at h
            refine Own.of h.1 ?_ h.2
            intro e
            rcases h.1.2 with ⟨_, h'⟩ | ⟨g, cap, cur, h', _⟩
            · have := HP.out; omega
            · rw [e] at h'; simp at h'
          clear HV
          go_wp2
          go_ret
          obtain ⟨g, c, e, h⟩ := HV2.out
          exact ⟨g, c, _, by rw [e]; rfl, h, HG.out⟩
end Go.Proofs.YtboamjhlaehoaaaGreat

