/- The document's own tape of bits: some bits more. -/
import Derived.Test.YteahhkpbjkcmhaaDoorMh
import Derived.Test.YteahhkpbjkcmhaaDoorMs
import Derived.Deep.OwnRows
namespace Go.Proofs.YteahhkpbjkcmhaaDoor
open Go.ChangeShapes Go.WideShapes Go.ChangeAt Go.RowKit
set_option linter.unusedVariables false

def byteE : Elem Int where
  cells z := [.int .u8 z]
  size := 1
  pos := by decide
  len _ := rfl
  one z v h := by
    simp only [List.mem_cons, List.mem_nil_iff, or_false] at h
    subst h; rfl
theorem infoB : (Tryd.prog.info? 5).map (fun i => (i.zero, i.size, i.bytes)) = some (some (.int .u8 0), 1, 1) := by kernel_rfl
theorem byteET : ElemOf byteE Tryd.prog 23 5 1 := by
  obtain ⟨i0, hi, hz0, hz1, hz2⟩ := info_parts infoB
  exact ⟨Tryd.underlying23, i0, _, hi, hz0, hz1, hz2, rfl⟩
theorem byteE_flat (zs : List Int) : byteE.flat zs = zs.map (Value.int .u8) := by
  show zs.flatMap (fun z => [Value.int .u8 z]) = _
  rw [List.map_eq_flatMap]
theorem blit (w : World) (zs : List Int) : SRd byteE (w.alloc (.cells (byteE.flat zs).toArray 5)) (some ⟨w.heap.size, 0, none⟩) zs := by
  refine .inr ⟨w.heap.size, 0, rfl, fun j v hj => ?_⟩
  rw [Nat.zero_add, cell_of_row _ w.heap.size j _ 5 _ (heap_alloc_new w _)]
  simpa using hj
/-- A tape lies at p. -/
def TapeF (vB : Value) (n : Nat) : Nat → Value := fun i => if i = 0 then vB else .int .i64 n
def TapeIs (w : World) (base p : Nat) (l : List Bool) : Prop :=
  ∃ vB, w.rowIs p 48 2 (TapeF vB l.length) ∧ base ≤ p ∧ SOwn byteE 5 w base vB ((l.length + 7) / 8) (pack l) ∧ vB.ownBlock ≠ some p
theorem sown_bset {w : World} {base g n cap : Nat} {zs : List Int} (h : SOwn byteE 5 w base (.slice (some ⟨g, 0, none⟩) n cap) n zs) (j : Nat) (u : Int) : SOwn byteE 5 (w.setCell ⟨g, j, none⟩ (.int .u8 u)) base (.slice (some ⟨g, 0, none⟩) n cap) n (zs.set j u) := by
  have e : byteE.flat (zs.set j u) = (byteE.flat zs).set j (.int .u8 u) := by rw [byteE_flat, byteE_flat, List.map_set]
  unfold SOwn at h ⊢
  rw [e]
  exact (h.stored j _).1
theorem sown_bcell {w : World} {base g n cap : Nat} {zs : List Int} (h : SOwn byteE 5 w base (.slice (some ⟨g, 0, none⟩) n cap) n zs) (i : Nat) (hi : i < n) : w.cell? ⟨g, i, none⟩ = some (.int .u8 (zs.getD i 0)) ∧ w.frozen? ⟨g, i, none⟩ = false := by
  have hl := SOwn.len h
  unfold SOwn at h
  refine ⟨?_, h.frozenAt i⟩
  rw [h.cellAt i (by show i < n * 1; omega), byteE_flat]
  simp only [List.getElem?_map, List.getElem?_eq_getElem (show i < zs.length by omega), Option.map_some, List.getD_eq_getElem?_getD, Option.getD_some]
theorem sown_pos {α : Type} {E : Elem α} {e : TypeId} {w : World} {base n : Nat} {v : Value} {l : List α} (h : SOwn E e w base v n l) (hn : 0 < n) : v ≠ .slice none 0 0 := by
  intro ev
  subst ev
  obtain ⟨_, h2⟩ := h
  rcases h2 with ⟨_, h0⟩ | ⟨g, cap, cur, ev, _⟩
  · omega
  · cases ev
theorem and_one64 (a : Int) (h0 : 0 ≤ a) (h1 : a ≤ 18446744073709551615) : bits .and .u64 a 1 % 256 = a % 2 := by
  have e : a = ((a.toNat : Nat) : Int) := by omega
  rw [e, show (1 : Int) = ((1 : Nat) : Int) from rfl, u64_and_nat _ _ (by omega) (by omega), Nat.and_one_is_mod]
  omega
theorem shr_bd (v : Int) (s : Nat) (h : 0 ≤ v ∧ v ≤ 18446744073709551615) : 0 ≤ v / 2 ^ s ∧ v / 2 ^ s ≤ 18446744073709551615 := by
  have hp : (0 : Int) < 2 ^ s := Int.pow_pos (by decide)
  have := Int.ediv_le_self (2 ^ s) h.1
  exact ⟨Int.ediv_nonneg h.1 (Int.le_of_lt hp), by omega⟩

theorem put_step {r : List Bool} {v X z : Int} {i m : Nat} (em : m = r.length) (ez : z = (room r).getD (m / 8) 0) (eX : X = bits .or .u8 z (bits .and .u64 (v / 2 ^ i) 1 % 256 * 2 ^ (7 - m % 8) % 256)) (hv : 0 ≤ v ∧ v ≤ 18446744073709551615) :
    (room r).set (m / 8) X = pack (r ++ [decide (v / 2 ^ i % 2 = 1)]) := by
  subst em
  have hb := shr_bd v i hv
  rw [and_one64 _ hb.1 hb.2] at eX
  rw [eX]
  exact (put_room r (v / 2 ^ i % 2) (by omega) ez).2
theorem tape_next {w5 : World} {base p g c m n : Nat} {r : List Bool} {b : Bool} {zs : List Int} (hrow : w5.rowIs p 48 2 (TapeF (.slice (some ⟨g, 0, none⟩) n c) m)) (hown : SOwn byteE 5 w5 base (.slice (some ⟨g, 0, none⟩) n c) n zs)
    (hp : base ≤ p) (hpg : ¬ p = g) (em : m = r.length) (hn : n = m / 8 + 1) (hz : zs = pack (r ++ [b])) : TapeIs (w5.setCell ⟨p, 1, none⟩ (.int .i64 ((m : Int) + 1))) base p (r ++ [b]) := by
  subst hz
  subst em
  have e : ((r ++ [b]).length + 7) / 8 = n := by rw [List.length_append, List.length_singleton]; omega
  refine ⟨.slice (some ⟨g, 0, none⟩) n c, ?_, hp, ?_, fun h => hpg (by simpa [Value.ownBlock] using h.symm)⟩
  · refine (hrow.set 1 _).congr fun i hi => ?_
    unfold TapeF
    by_cases h0 : i = 0
    · subst h0; rfl
    · have : i = 1 := by omega
      subst this
      rw [if_pos rfl, if_neg (by decide), List.length_append, List.length_singleton]
      congr 1
  · rw [e]
    exact SOwn.kept hown (gb_set rfl) (.inr (fun h => hpg (by simpa [Value.ownBlock] using h.symm)))

set_option maxHeartbeats 2000000 in
theorem r_put (base p : Nat) (l : List Bool) (v : Int) (k : Nat) (w : World) (h : TapeIs w base p l) (hv : 0 ≤ v ∧ v ≤ 18446744073709551615) (hk : k ≤ 64) (hl : l.length ≤ 1099511627776) (hb : base ≤ w.heap.size) :
    Calls Tryd.prog 26 #[.pointer (some ⟨p, 0, none⟩), .int .u64 v, .int .i64 k] w fun e w' => e = .returned (.tuple #[]) ∧ TapeIs w' base p (l ++ bitsI k v) ∧ w.Since base w' := by
  have H0 : Hid (TapeIs w base p l) := h
  have hkI : (k : Int) ≤ 64 := by omega
  clear h
  go_enter Tryd.func26, Tryd.ntmps26
  go_wp2
  go_loopw [6] (fun t6 wr => ∃ j : Nat, j ≤ k ∧ t6 = .int .i64 ((j : Int) - 1) ∧ TapeIs wr base p (l ++ (bitsI k v).take (k - j)) ∧ w.Since base wr) (fun t6 _ => (intOf t6 + 1).toNat)
  case atStart => exact ⟨k, Nat.le_refl _, rfl, by rw [Nat.sub_self, List.take_zero, List.append_nil]; exact H0.out, World.Since.refl _ _⟩
  case round =>
    obtain ⟨j, hj, rfl, htape, hs⟩ := hrel
    have HS : Hid (w.Since base wr) := hs
    have hbw : base ≤ wr.heap.size := Nat.le_trans hb hs.size
    clear hs H0
    by_cases hj0 : 0 < j
    · obtain ⟨i, rfl⟩ : ∃ i, j = i + 1 := ⟨j - 1, by omega⟩
      obtain ⟨r, er⟩ : ∃ r, r = l ++ (bitsI k v).take (k - (i + 1)) := ⟨_, rfl⟩
      have hrl : r.length ≤ 1099511627840 := by rw [er, List.length_append, List.length_take, bitsI_len]; omega
      have HN : Hid (l ++ (bitsI k v).take (k - i) = r ++ [decide (v / 2 ^ i % 2 = 1)]) := by show _ = _; rw [bitsI_take k v i (by omega), er, List.append_assoc]
      rw [← er] at htape
      obtain ⟨vB, hrow, hp, hown, hne⟩ := htape
      obtain ⟨m, em⟩ : ∃ m, m = r.length := ⟨_, rfl⟩
      rw [← em] at hrow hown hrl
      by_cases h8 : m % 8 = 0
      · have hd8 : ((m : Int) % 8 == 0) = true := by simp; omega
        have c0 : wr.cell? ⟨p, 0, none⟩ = some vB := hrow.cell (i := 0) (by omega)
        have c1 : wr.cell? ⟨p, 1, none⟩ = some (.int .i64 m) := hrow.cell (i := 1) (by omega)
        have f0 := hrow.frozen 0
        have f1 := hrow.frozen 1
        have hroom : room r = pack r ++ [0] := by unfold room; rw [if_pos (by rw [← em]; exact h8)]
        have hpl := hrow.lt
        have H8 : Hid (m / 8 + 1 = m / 8 + 1 ∧ (m + 7) / 8 = m / 8) := by show _ ∧ _; omega
        rw [H8.out.2] at hown
        have EM : Hid (m = r.length) := em
        have HRM : Hid (room r = pack r ++ [0]) := hroom
        have HROW : Hid (wr.rowIs p 48 2 (TapeF vB m)) := hrow
        have HOWN : Hid (SOwn byteE 5 wr base vB (m / 8) (pack r)) := hown
        have HNE : Hid (vB.ownBlock ≠ some p) := hne
        have hmb : m / 8 ≤ 137438953480 := by omega
        obtain ⟨a0, n0, cc0, rfl⟩ : ∃ a n c, vB = .slice a n c := by
          obtain ⟨_, h2⟩ := hown
          rcases h2 with ⟨e, _⟩ | ⟨g, cap, cur, e, _⟩
          · exact ⟨_, _, _, e⟩
          · exact ⟨_, _, _, e⟩
        clear hrow hown hne hroom em er h8
        have HOWA : Hid (SOwn byteE 5 (wr.alloc (.cells #[.int .u8 0] 5)) base (.slice a0 n0 cc0) (m / 8) (pack r)) := SOwn.kept HOWN.out (World.grownBy_alloc wr _ none) (Classical.em _)
        have HLIT : Hid (SRd byteE (wr.alloc (.cells #[.int .u8 0] 5)) (some ⟨wr.heap.size, 0, none⟩) [0]) := blit wr [0]
        have HBS : Hid (base ≤ (wr.alloc (.cells #[.int .u8 0] 5)).heap.size) := Nat.le_trans hbw (World.grownBy_alloc wr _ none).size
        go_wp2_with (at_builtin; refine wpList_append_s byteET rfl (.tmp 23) (.tmp 24) rfl base (.slice a0 n0 cc0) (m / 8) (pack r) rfl HOWA.out (some ⟨wr.heap.size, 0, none⟩) [0] 1 1 rfl rfl HLIT.out (by simp) (by omega) (by unfold maxLen; omega) HBS.out ?_; intro v2 w2 ho2 hg2 hn2; obtain ⟨g, c, rfl, hg0, hg1⟩ := SOwn.some ho2 (fun e => by simpa using (hn2 e).2); clear hn2; have hrow2 : w2.rowIs p 48 2 (TapeF (.slice a0 n0 cc0) m) := (World.rowIs.alloc HROW.out _).of_block (hg2.block p (Nat.lt_of_lt_of_le hpl (World.grownBy_alloc wr _ none).size) (fun e => HNE.out e.symm)); have f02 := hrow2.frozen 0; have c02 := hrow2.cell (i := 0) (by omega))
        obtain ⟨w3, e3⟩ : ∃ w3, w3 = w2.setCell ⟨p, 0, none⟩ (.slice (some ⟨g, 0, none⟩) (m / 8 + 1) c) := ⟨_, rfl⟩
        rw [← e3]
        have hpg : ¬ p = g := by
          intro e
          subst e
          obtain ⟨_, h2⟩ := ho2
          rcases h2 with ⟨e, _⟩ | ⟨g', cap', cur, e, _, hh, _⟩
          · cases e
          · obtain ⟨c', hc', _⟩ := hrow2
            simp only [Value.slice.injEq, Option.some.injEq, Addr.mk.injEq, and_true, true_and] at e
            rw [← e.1, hc'] at hh
            simp at hh
        have hrow3 : w3.rowIs p 48 2 (TapeF (.slice (some ⟨g, 0, none⟩) (m / 8 + 1) c) m) := by
          rw [e3]
          refine (hrow2.set 0 _).congr fun i hi => ?_
          unfold TapeF
          by_cases h0 : i = 0
          · subst h0; rfl
          · simp [h0]
        have hown3 : SOwn byteE 5 w3 base (.slice (some ⟨g, 0, none⟩) (m / 8 + 1) c) (m / 8 + 1) (room r) := by
          rw [e3, HRM.out]
          exact SOwn.kept ho2 (gb_set rfl) (.inr (fun h => hpg (by simpa [Value.ownBlock] using h.symm)))
        have HS3 : Hid (w.Since base w3) := by
          show w.Since base w3
          rw [e3]
          exact ((HS.out.alloc hbw _).grown hg2 HBS.out (fun q hq => (SOwn.block HOWN.out q hq).1)).setCell hp _
        have c3 : w3.cell? ⟨p, 0, none⟩ = some (.slice (some ⟨g, 0, none⟩) (m / 8 + 1) c) := hrow3.cell (i := 0) (by omega)
        have d3 : w3.cell? ⟨p, 1, none⟩ = some (.int .i64 m) := hrow3.cell (i := 1) (by omega)
        have g3 := hrow3.frozen 0
        have k3 := hrow3.frozen 1
        obtain ⟨z, ez⟩ : ∃ z, z = (room r).getD (m / 8) 0 := ⟨_, rfl⟩
        have hcell := (sown_bcell hown3 (m / 8) (by omega)).1
        have hfr := (sown_bcell hown3 (m / 8) (by omega)).2
        rw [← ez] at hcell
        have hn1 : ((m : Int) / 8) < ((m / 8 : Nat) : Int) + 1 := by omega
        have hi1 : (i : Int) ≤ 64 := by omega
        have HROW3 : Hid (w3.rowIs p 48 2 (TapeF (.slice (some ⟨g, 0, none⟩) (m / 8 + 1) c) m)) := hrow3
        have HOWN3 : Hid (SOwn byteE 5 w3 base (.slice (some ⟨g, 0, none⟩) (m / 8 + 1) c) (m / 8 + 1) (room r)) := hown3
        have EZ : Hid (z = (room r).getD (m / 8) 0) := ez
        have HG0 : Hid (base ≤ g) := hg0
        clear hrow3 hown3 ez e3 hrow2 f02 c02 ho2 hg2 c0 c1 f0 f1 HOWN HOWA HLIT HBS HROW HNE HS hd8 hg0 hg1 hpl
        go_region
        obtain ⟨X, eX⟩ : ∃ X, X = bits .or .u8 z (bits .and .u64 (v / 2 ^ i) 1 % 256 * 2 ^ (7 - m % 8) % 256) := ⟨_, rfl⟩
        rw [← eX]
        have HX : Hid (X = bits .or .u8 z (bits .and .u64 (v / 2 ^ i) 1 % 256 * 2 ^ (7 - m % 8) % 256)) := eX
        obtain ⟨w5, e5⟩ : ∃ w5, w5 = (w3.setCell ⟨g, m / 8, none⟩ (.int .u8 X)).drew := ⟨_, rfl⟩
        rw [← e5]
        have hrow5 : w5.rowIs p 48 2 (TapeF (.slice (some ⟨g, 0, none⟩) (m / 8 + 1) c) m) := by rw [e5]; exact World.rowIs.drew (World.rowIs.setOther HROW3.out hpg _)
        have HROW5 : Hid (w5.rowIs p 48 2 (TapeF (.slice (some ⟨g, 0, none⟩) (m / 8 + 1) c) m)) := hrow5
        have HOWN5 : Hid (SOwn byteE 5 w5 base (.slice (some ⟨g, 0, none⟩) (m / 8 + 1) c) (m / 8 + 1) ((room r).set (m / 8) X)) := by show SOwn _ _ _ _ _ _ _; rw [e5]; exact sown_bset HOWN3.out (m / 8) X
        have HS5 : Hid (w.Since base w5) := by show w.Since base w5; rw [e5]; exact (HS3.out.setCell HG0.out _).drew
        have c5 : w5.cell? ⟨p, 1, none⟩ = some (.int .i64 m) := hrow5.cell (i := 1) (by omega)
        have f5 := hrow5.frozen 1
        clear hrow5 e5 eX c3 d3 g3 k3 hcell hfr HROW3 HOWN3 HS3
        go_wp2
        go_roundw
        case rel => exact ⟨i, by omega, by go_num, by rw [HN.out]; exact tape_next HROW5.out HOWN5.out hp hpg EM.out rfl (put_step EM.out EZ.out HX.out hv), HS5.out.setCell hp _⟩
        case measure => simp [intOf]
      · have hd8 : ((m : Int) % 8 == 0) = false := by simp; omega
        obtain ⟨g, c, rfl, hg0, hg1⟩ := SOwn.some hown (sown_pos hown (by omega))
        have hpg : ¬ p = g := fun e => hne (by rw [e]; rfl)
        have c0 : wr.cell? ⟨p, 0, none⟩ = some (.slice (some ⟨g, 0, none⟩) ((m + 7) / 8) c) := hrow.cell (i := 0) (by omega)
        have c1 : wr.cell? ⟨p, 1, none⟩ = some (.int .i64 m) := hrow.cell (i := 1) (by omega)
        have f0 := hrow.frozen 0
        have f1 := hrow.frozen 1
        obtain ⟨z, ez⟩ : ∃ z, z = (room r).getD (m / 8) 0 := ⟨_, rfl⟩
        have hroom : room r = pack r := by unfold room; rw [if_neg (by rw [← em]; exact h8)]
        have hcell := (sown_bcell hown (m / 8) (by omega)).1
        have hfr := (sown_bcell hown (m / 8) (by omega)).2
        rw [← hroom, ← ez] at hcell
        have hn1 : ((m : Int) / 8) < (((m + 7) / 8 : Nat) : Int) := by omega
        have hi1 : (i : Int) ≤ 64 := by omega
        have HROW : Hid (_) := hrow
        have HOWN : Hid (_) := hown
        have EM : Hid (m = r.length) := em
        have EZ : Hid (z = (room r).getD (m / 8) 0) := ez
        have HRM : Hid (room r = pack r) := hroom
        have H8 : Hid ((m + 7) / 8 = m / 8 + 1) := by show _ = _; omega
        clear hrow hown hne hroom em er ez h8
        go_wp2
        go_region
        obtain ⟨X, eX⟩ : ∃ X, X = bits .or .u8 z (bits .and .u64 (v / 2 ^ i) 1 % 256 * 2 ^ (7 - m % 8) % 256) := ⟨_, rfl⟩
        rw [← eX]
        have HX : Hid (X = bits .or .u8 z (bits .and .u64 (v / 2 ^ i) 1 % 256 * 2 ^ (7 - m % 8) % 256)) := eX
        obtain ⟨w5, e5⟩ : ∃ w5, w5 = (wr.setCell ⟨g, m / 8, none⟩ (.int .u8 X)).drew := ⟨_, rfl⟩
        rw [← e5]
        have hrow5 : w5.rowIs p 48 2 (TapeF (.slice (some ⟨g, 0, none⟩) ((m + 7) / 8) c) m) := by rw [e5]; exact World.rowIs.drew (World.rowIs.setOther HROW.out hpg _)
        have HROW5 : Hid (w5.rowIs p 48 2 (TapeF (.slice (some ⟨g, 0, none⟩) ((m + 7) / 8) c) m)) := hrow5
        have HOWN5 : Hid (SOwn byteE 5 w5 base (.slice (some ⟨g, 0, none⟩) ((m + 7) / 8) c) ((m + 7) / 8) ((pack r).set (m / 8) X)) := by show SOwn _ _ _ _ _ _ _; rw [e5]; exact sown_bset HOWN.out (m / 8) X
        have HS5 : Hid (w.Since base w5) := by show w.Since base w5; rw [e5]; exact (HS.out.setCell hg0 _).drew
        have c5 : w5.cell? ⟨p, 1, none⟩ = some (.int .i64 m) := hrow5.cell (i := 1) (by omega)
        have f5 := hrow5.frozen 1
        clear hrow5 e5 eX c0 c1 f0 f1 hcell hfr HROW HOWN HS
        go_wp2
        go_roundw
        case rel => exact ⟨i, by omega, by go_num, by rw [HN.out]; exact tape_next HROW5.out HOWN5.out hp hpg EM.out H8.out (by rw [← HRM.out]; exact put_step EM.out EZ.out HX.out hv), HS5.out.setCell hp _⟩
        case measure => simp [intOf]
    · obtain rfl : j = 0 := by omega
      have HT : Hid (TapeIs wr base p (l ++ bitsI k v)) := by
        show TapeIs _ _ _ _
        rw [Nat.sub_zero, List.take_of_length_le (by rw [bitsI_len]; exact Nat.le_refl _)] at htape
        exact htape
      clear htape
      go_wp2
      go_end0
      exact ⟨rfl, HT.out, HS.out⟩
end Go.Proofs.YteahhkpbjkcmhaaDoor
