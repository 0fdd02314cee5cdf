/- The document's own Decode, walked. -/
import Derived.Test.YteahhkpbjkcmhaaDoorHdec
import Derived.Test.YteahhkpbjkcmhaaDoorRenc3
import Derived.Test.YteahhkpbjkcmhaaDoorRconv
import Derived.Deep.CutRange
import Derived.Deep.RegionWith
namespace Go.Proofs.YteahhkpbjkcmhaaDoor
open Go.RowKit
set_option linter.unusedVariables false

theorem sgn64 (x : Int) (h : 0 ≤ x ∧ x < 2 ^ 64) : IntKind.i64.wrap x = sgn 64 x := by
  have e63 : (2 : Int) ^ 63 = 9223372036854775808 := rfl
  have e64 : (2 : Int) ^ 64 = 18446744073709551616 := rfl
  unfold sgn
  rw [IntKind.wrap_i64]
  split <;> omega
def DecAns (zs : List Int) (c : Int) (ps : List Pt) : Prop := match decR zs with | some qs => c = 0 ∧ ps = qs | none => c = 52 ∧ ps = []
theorem DecAns.none {zs : List Int} (h : decR zs = none) : DecAns zs 52 [] := by unfold DecAns; rw [h]; exact ⟨rfl, rfl⟩
theorem DecAns.some {zs : List Int} {ps : List Pt} (h : decR zs = some ps) : DecAns zs 0 ps := by unfold DecAns; rw [h]; exact ⟨rfl, rfl⟩
theorem xorI_zero {v : Int} (h : okV v) : xorI v 0 = v := by
  have := h.1
  unfold xorI
  rw [show (0 : Int).toNat = 0 from rfl, Nat.xor_zero]
  omega
/-- A point that is being read. -/
structure PntAt (w wr : World) (p q g off k c0 : Nat) (a : Option Addr) (zs : List Int) (cap : Nat) (ps : List Pt) (T V : Int) (st : Option (List Bool)) : Prop where
  time : wr.cell? ⟨q, 0, none⟩ = some (.int .i64 T)
  val : wr.cell? ⟨q, 1, none⟩ = some (.int .u64 V)
  free : wr.frozen? ⟨q, 1, none⟩ = false
  head : HeadAt wr p a zs cap st
  own : SOwn pntE 41 wr (p + 1) (.slice (some ⟨g, off, none⟩) (k + 1) c0) (k + 1) ps
  since : w.Since p wr
  gt : p + 1 ≤ q
  lt : q < wr.heap.size
  neq : g ≠ q
theorem PntAt.kept {w wr w' : World} {p q g off k c0 : Nat} {a : Option Addr} {zs : List Int} {cap : Nat} {ps : List Pt} {T V : Int} {st st' : Option (List Bool)} (h : PntAt w wr p q g off k c0 a zs cap ps T V st) (hg : wr.grownBy w' (some p)) (hh : HeadAt w' p a zs cap st') : PntAt w w' p q g off k c0 a zs cap ps T V st' := by
  have h1 := h.gt
  have h2 := h.lt
  refine ⟨hg.cell h.time (by simp; omega), hg.cell h.val (by simp; omega), ?_, hh, SOwn.kept h.own hg (.inr (fun e => by have := (SOwn.block h.own p e).1; omega)), h.since.grown hg (by omega) (fun k hk => by cases hk; exact Nat.le_refl _), h1, Nat.lt_of_lt_of_le h2 hg.size, h.neq⟩
  rw [World.frozen?_of_block (w := wr) (hg.block q h2 (by simp; omega))]
  exact h.free
theorem PntAt.set {w wr : World} {p q g off k c0 : Nat} {a : Option Addr} {zs : List Int} {cap : Nat} {ps : List Pt} {T V : Int} {st : Option (List Bool)} (h : PntAt w wr p q g off k c0 a zs cap ps T V st) (V' : Int) : PntAt w (wr.setCell ⟨q, 1, none⟩ (.int .u64 V')) p q g off k c0 a zs cap ps T V' st := by
  have h1 := h.gt
  have hg : wr.grownBy (wr.setCell ⟨q, 1, none⟩ (.int .u64 V')) (some q) := gb_set rfl
  refine ⟨?_, World.cell?_setCell_same _ _ _ h.val, by rw [World.frozen?_setCell]; exact h.free, h.head.kept hg (by simp; omega), SOwn.kept h.own hg (.inr (fun e => h.neq (by simpa [Value.ownBlock] using e))), h.since.setCell (by show p ≤ q; omega) _, h1, Nat.lt_of_lt_of_le h.lt hg.size, h.neq⟩
  exact (World.cell?_setCell_other _ _ _ _ (by simp)).trans h.time
/-- What is left of a value to be read, once its window is known. -/
def Tail (aw ww : Int) (s3 s : Option (List Bool)) (aw' ww' : Int) : Prop :=
  (aw' + ww' > 64 → ValR aw ww s3 none 0 aw' ww') ∧ (¬ aw' + ww' > 64 → ∀ s' u, GetR ww'.toNat s s' u → ValR aw ww s3 s' (u * 2 ^ (64 - aw' - ww').toNat) aw' ww') ∧ 0 ≤ aw' ∧ aw' ≤ 31 ∧ 0 ≤ ww' ∧ ww' ≤ 64
/-- The last bits of a value, read. -/
def ShAt (aw ww : Int) (s3 s8 : Option (List Bool)) (an wn : Nat) (u : Int) : Prop := ValR aw ww s3 s8 (u * 2 ^ ((64 : Int) - an - wn).toNat) an wn ∧ 0 ≤ u ∧ u * 2 ^ (64 - an - wn) < 18446744073709551616
theorem sh_bd (u : Int) (an wn : Nat) (h0 : 0 ≤ u) (h1 : u < 2 ^ wn) (h : an + wn ≤ 64) : u * 2 ^ (64 - an - wn) < 18446744073709551616 := by
  have hS : (0 : Int) < 2 ^ (64 - an - wn) := pow2_pos _
  have h2 : u * 2 ^ (64 - an - wn) < 2 ^ wn * 2 ^ (64 - an - wn) := Int.mul_lt_mul_of_pos_right h1 hS
  rw [← Int.pow_add, show wn + (64 - an - wn) = 64 - an by omega] at h2
  have h3 : (2 : Int) ^ (64 - an) ≤ 2 ^ 64 := pow2_le (by omega)
  have e64 : (2 : Int) ^ 64 = 18446744073709551616 := rfl
  omega
/-- The loop's state. -/
structure DecW (w wr : World) (p : Nat) (a : Option Addr) (zs : List Int) (cap : Nat) (n : Int) (i : Nat) (ps : List Pt) (vP : Value) (st : Option (List Bool)) (d aw ww : Int) : Prop where
  own : SOwn pntE 41 wr (p + 1) vP i ps
  head : HeadAt wr p a zs cap st
  dec : DecAt zs n i ps st d aw ww
  okv : ∀ q ∈ ps, okV q.2
  win : 0 ≤ aw ∧ aw ≤ 31 ∧ 0 ≤ ww ∧ ww ≤ 64
  dist : -9223372036854775808 ≤ d ∧ d ≤ 9223372036854775807
  since : w.Since p wr
set_option maxRecDepth 100000 in
set_option maxHeartbeats 8000000 in
theorem dec_loop (a : Option Addr) (zs : List Int) (L cap : Nat) (w : World) (hr : Rd w a zs) (hL : zs.length = L) (hz : (L : Int) ≤ 140737488351232) (hc : a = none → cap = 0) :
    Calls Tryd.prog 17 #[.slice a L cap] w fun e w' => ∃ vP ps c, e = .returned (.tuple #[vP, .int .i64 c]) ∧ SOwn pntE 41 w' w.heap.size vP ps.length ps ∧ w.grownBy w' none ∧ DecAns zs c ps := by
  have HR : Hid (Rd w a zs) := hr
  have HL : Hid (zs.length = L) := hL
  obtain ⟨p, hp⟩ : ∃ p, p = w.heap.size := ⟨_, rfl⟩
  have HP : Hid (p = w.heap.size) := hp
  have HG1 : Hid (∀ (k : Nat) (st : Option (List Bool)) (w1 : World), k ≤ 64 → HeadAt w1 p a zs cap st → w.Since p w1 → Calls Tryd.prog 31 #[.pointer (some ⟨p, 0, none⟩), .int .i64 k] w1 fun e w' => ∃ v st', e = .returned (.int .u64 v) ∧ 0 ≤ v ∧ v < 2 ^ k ∧ HeadAt w' p a zs cap st' ∧ GetR k st st' v ∧ w1.grownBy w' (some p)) := by
    intro k st w1 hk h hs
    exact r_hget p a zs cap k st w1 h (HR.out.grown (since_gb (by rw [← HP.out]; exact hs)) (by simp)) (by rw [HL.out]; exact hz) hk
  have HGZ : Hid (∀ (st : Option (List Bool)) (w1 : World), HeadAt w1 p a zs cap st → w.Since p w1 → Calls Tryd.prog 32 #[.pointer (some ⟨p, 0, none⟩)] w1 fun e w' => ∃ z st', e = .returned (.int .i64 z) ∧ -9223372036854775808 ≤ z ∧ z ≤ 9223372036854775807 ∧ HeadAt w' p a zs cap st' ∧ GetZR st st' z ∧ w1.grownBy w' (some p)) := by
    intro st w1 h hs
    refine r_zero p a zs cap st w1 h (fun w' hg => ?_) (by rw [HL.out]; exact hz)
    have hs2 : w.Since p w' := hs.grown hg (by have := hs.size; omega) (fun k hk => by cases hk; exact Nat.le_refl _)
    exact HR.out.grown (since_gb (by rw [← HP.out]; exact hs2)) (by simp)
  have HC0 : Hid (a = none → cap = 0) := hc
  clear hr hL hz hc
  go_enter Tryd.func17, Tryd.ntmps17
  go_wp2_with fail
  rw [← hp]
  obtain ⟨w1, hw1⟩ : ∃ w1, w1 = w.alloc (.cells #[.slice a L cap, .int .i64 0, .bool false] 56) := ⟨_, rfl⟩
  rw [← hw1]
  have HH1 : Hid (HeadAt w1 p a zs cap (some (unpack zs))) := by
    refine ⟨0, false, ?_, by omega, by simp⟩
    rw [hw1, hp, HL.out]
    refine World.rowIs_alloc w #[.slice a L cap, .int .i64 0, .bool false] 56 _ fun i hi => ?_
    match i, hi with
    | 0, _ => rfl
    | 1, _ => rfl
    | 2, _ => rfl
  have HS1 : Hid (w.Since p w1) := by show w.Since p w1; rw [hw1]; exact (World.Since.refl p w).alloc (by omega) _
  have hz1 : p + 1 ≤ w1.heap.size := by rw [hw1, hp, show (w.alloc (.cells #[.slice a L cap, .int .i64 0, .bool false] 56)).heap.size = w.heap.size + 1 from Array.size_push _]; omega
  clear hw1 hp
  refine (HG1.out 13 _ w1 (by omega) HH1.out HS1.out).mono ?_
  rintro e w2 ⟨n, s2, rfl, hn0, hn1, hh, hgr, hg⟩
  have HS2 : Hid (w.Since p w2) := HS1.out.grown hg (by omega) (fun k hk => by cases hk; exact Nat.le_refl _)
  have hz2 : p + 1 ≤ w2.heap.size := Nat.le_trans hz1 hg.size
  obtain ⟨N, rfl⟩ : ∃ N : Nat, n = N := ⟨n.toNat, by omega⟩
  have hN : N ≤ 8191 := by have : (2 : Int) ^ 13 = 8192 := rfl; omega
  have HW2 : Hid (DecW w w2 p a zs cap N 0 [] (.slice none 0 0) s2 0 0 0) := ⟨SOwn.nil 41 w2 _, hh, DecAt.start hgr, by simp, by omega, by omega, HS2.out⟩
  clear hh hgr hg hn0 hn1 HS2 HH1 HS1 hz1
  go_wp2
  go_loopw [6, 7, 8, 9, 10] (fun t6 t7 t8 t9 t10 wr => ∃ (i : Nat) (ps : List Pt) (st : Option (List Bool)) (d aw ww : Int), i ≤ N ∧ t7 = .int .i64 d ∧ t8 = .int .i64 aw ∧ t9 = .int .i64 ww ∧ t10 = .int .i64 i ∧ DecW w wr p a zs cap N i ps t6 st d aw ww ∧ p + 1 ≤ wr.heap.size) (fun _ _ _ _ t10 _ => N - (intOf t10).toNat)
  case atStart => exact ⟨0, [], s2, 0, 0, 0, by omega, rfl, rfl, rfl, rfl, HW2.out, hz2⟩
  case round =>
    obtain ⟨i, ps, st, d, aw, ww, hi, rfl, rfl, rfl, rfl, hW, hsz⟩ := hrel
    have HW : Hid (DecW w wr p a zs cap N i ps u6 st d aw ww) := hW
    clear HW2 hz2
    obtain ⟨nh, bad, hrow, hnh, hst⟩ := hW.head
    have hbad : wr.cell? ⟨p, 2, none⟩ = some (.bool bad) := hrow.cell (i := 2) (by omega)
    have HST : Hid (st = if bad then none else some ((unpack zs).drop nh)) := hst
    obtain ⟨a0, n0, c0, rfl⟩ : ∃ a n c, u6 = .slice a n c := by
      obtain ⟨_, h2⟩ := hW.own
      rcases h2 with ⟨e, _⟩ | ⟨g, cap, cur, e, _⟩
      · exact ⟨_, _, _, e⟩
      · exact ⟨_, _, _, e⟩
    clear hW hrow hnh hst
    cases bad with
    | true =>
      have HB : Hid (decR zs = none) := by have h := HW.out.dec; rw [HST.out] at h; exact h.bad
      have HF : Hid (w.grownBy wr none) := since_gb (by rw [← HP.out]; exact HW.out.since)
      by_cases hlt : i < N
      · have hki : (i : Int) < (N : Int) := by omega
        go_wp2
        go_ret2
        exact ⟨_, [], 52, rfl, SOwn.nil 41 _ _, HF.out, DecAns.none HB.out⟩
      · have hki : ¬ (i : Int) < (N : Int) := by omega
        go_wp2
        go_ret2
        exact ⟨_, [], 52, rfl, SOwn.nil 41 _ _, HF.out, DecAns.none HB.out⟩
    | false =>
      by_cases hlt : i < N
      · have hki : (i : Int) < (N : Int) := by omega
        by_cases hi0 : i = 0
        · subst hi0
          go_wp2_with fail
          refine (HG1.out 64 st wr (by omega) HW.out.head HW.out.since).mono ?_
          rintro e w3 ⟨x, s3, rfl, hx0, hx1, hh, hgr, hg⟩
          have HH3 : Hid (HeadAt w3 p a zs cap s3) := hh
          have HGR3 : Hid (GetSR 64 st s3 (IntKind.i64.wrap x)) := by show GetSR _ _ _ _; rw [sgn64 x ⟨hx0, hx1⟩]; exact getR_signed hgr
          have HS3 : Hid (w.Since p w3) := HW.out.since.grown hg (by omega) (fun k hk => by cases hk; exact Nat.le_refl _)
          have HO3 : Hid (SOwn pntE 41 w3 (p + 1) (.slice a0 n0 c0) 0 ps) := SOwn.kept HW.out.own hg (.inr (fun e => by have := (SOwn.block HW.out.own p e).1; omega))
          have hz3 : p + 1 ≤ w3.heap.size := Nat.le_trans hsz hg.size
          clear hh hgr hg hx0 hx1 hbad
          go_wp2_with fail
          refine (HG1.out 64 s3 w3 (by omega) HH3.out HS3.out).mono ?_
          rintro e w4 ⟨y, s4, rfl, hy0, hy1, hh, hgr, hg⟩
          have HH4 : Hid (HeadAt w4 p a zs cap s4) := hh
          have HD4 : Hid (DecAt zs N 1 [(IntKind.i64.wrap x, y)] s4 d aw ww) := HW.out.dec.one (by omega) HGR3.out hgr
          have HS4 : Hid (w.Since p w4) := HS3.out.grown hg (by omega) (fun k hk => by cases hk; exact Nat.le_refl _)
          have HO4 : Hid (SOwn pntE 41 w4 (p + 1) (.slice a0 n0 c0) 0 ps) := SOwn.kept HO3.out hg (.inr (fun e => by have := (SOwn.block HO3.out p e).1; omega))
          have hz4 : p + 1 ≤ w4.heap.size := Nat.le_trans hz3 hg.size
          have HY : Hid (0 ≤ y ∧ y < 2 ^ 64) := ⟨hy0, hy1⟩
          clear hh hgr hg hy0 hy1 HH3 HGR3 HS3 HO3 hz3
          have ew : wrap64 x = IntKind.i64.wrap x := wrap64_is x
          have HOA : Hid (SOwn pntE 41 (w4.alloc (.cells #[.int .i64 (wrap64 x), .int .u64 y] 41)) (p + 1) (.slice a0 n0 c0) 0 ps) := SOwn.kept HO4.out (World.grownBy_alloc w4 _ none) (Classical.em _)
          have HLA : Hid (SRd pntE (w4.alloc (.cells #[.int .i64 (wrap64 x), .int .u64 y] 41)) (some ⟨w4.heap.size, 0, none⟩) [(wrap64 x, y)]) := plit w4 [(wrap64 x, y)]
          have HSA : Hid (w.Since p (w4.alloc (.cells #[.int .i64 (wrap64 x), .int .u64 y] 41))) := HS4.out.alloc (by omega) _
          have HHA : Hid (HeadAt (w4.alloc (.cells #[.int .i64 (wrap64 x), .int .u64 y] 41)) p a zs cap s4) := HH4.out.kept (World.grownBy_alloc w4 _ none) (by simp)
          have hzA : p + 1 ≤ (w4.alloc (.cells #[.int .i64 (wrap64 x), .int .u64 y] 41)).heap.size := Nat.le_trans hz4 (World.grownBy_alloc w4 _ none).size
          have HPS : Hid (ps = []) := List.length_eq_zero_iff.1 (SOwn.len HO4.out)
          go_wp2_with (at_builtin; refine wpList_append_s pntET rfl (.tmp 34) (.tmp 41) rfl (p + 1) (.slice a0 n0 c0) 0 ps rfl HOA.out (some ⟨w4.heap.size, 0, none⟩) [(wrap64 x, y)] 1 1 rfl rfl HLA.out (by simp) (by omega) (by unfold maxLen; omega) hzA ?_; intro v5 w5 ho5 hg5 hn5)
          go_roundw
          case rel =>
            have e5 : ps ++ [(wrap64 x, y)] = [(IntKind.i64.wrap x, y)] := by rw [HPS.out, ew]; rfl
            rw [e5] at ho5
            have hne : ∀ k, (Value.slice a0 n0 c0).ownBlock = some k → p + 1 ≤ k := fun k hk => (SOwn.block HOA.out k hk).1
            exact ⟨1, [(IntKind.i64.wrap x, y)], s4, d, aw, ww, by omega, rfl, rfl, rfl, by go_num, ⟨ho5, HHA.out.kept hg5 (fun e => by have := hne p e.symm; omega), HD4.out, by simp only [List.mem_singleton, forall_eq]; exact HY.out, HW.out.win, HW.out.dist, HSA.out.grown hg5 (by omega) (fun k hk => by have := hne k hk; omega)⟩, Nat.le_trans hzA hg5.size⟩
          case measure => simp [intOf]; omega
        · obtain ⟨k, rfl⟩ : ∃ k, i = k + 1 := ⟨i - 1, by omega⟩
          have hl := SOwn.len HW.out.own
          have hn0 : n0 = k + 1 := by
            obtain ⟨_, h2⟩ := HW.out.own
            rcases h2 with ⟨e, e2⟩ | ⟨g, cap, cur, e, _⟩
            · simp only [Value.slice.injEq] at e; simp_all
            · simp only [Value.slice.injEq] at e; exact e.2.1
          subst hn0
          obtain ⟨g, off, rfl, hcc⟩ := (SOwn.rd HW.out.own).at (by omega)
          obtain ⟨⟨t, v⟩, ex⟩ : ∃ x, ps[k]? = some x := ⟨_, List.getElem?_eq_getElem (by omega)⟩
          have hgb := SOwn.block HW.out.own g rfl
          have hvv := HW.out.okv _ (List.mem_of_getElem? ex)
          have HV : Hid (okV v) := hvv
          have a0 : wr.cell? ⟨g, off + k * 2, none⟩ = some (.int .i64 t) := hcc k _ 0 _ ex rfl
          have a1 : wr.cell? ⟨g, off + k * 2 + 1, none⟩ = some (.int .u64 v) := by rw [Nat.add_assoc]; exact hcc k _ 1 _ ex rfl
          have EX : Hid (ps[k]? = some (t, v)) := ex
          have HL1 : Hid (ps.length = k + 1) := hl
          clear hcc ex hi0 hvv hl
          go_wp2_with fail
          refine (HGZ.out st wr HW.out.head HW.out.since).mono ?_
          rintro e w3 ⟨z, s3, rfl, hz0, hz1, hh, hgz, hg⟩
          have b0 : w3.cell? ⟨g, off + k * 2, none⟩ = some (.int .i64 t) := hg.cell a0 (by simp; omega)
          have b1 : w3.cell? ⟨g, off + k * 2 + 1, none⟩ = some (.int .u64 v) := hg.cell a1 (by simp; omega)
          have HH3 : Hid (HeadAt w3 p a zs cap s3) := hh
          have HGZ3 : Hid (GetZR st s3 z) := hgz
          have HS3 : Hid (w.Since p w3) := HW.out.since.grown hg (by omega) (fun k hk => by cases hk; exact Nat.le_refl _)
          have HO3 : Hid (SOwn pntE 41 w3 (p + 1) (.slice (some ⟨g, off, none⟩) (k + 1) c0) (k + 1) ps) := SOwn.kept HW.out.own hg (.inr (fun e => by have := (SOwn.block HW.out.own p e).1; omega))
          have hz3 : p + 1 ≤ w3.heap.size := Nat.le_trans hsz hg.size
          have hgl : g < w3.heap.size := Nat.lt_of_lt_of_le hgb.2 hg.size
          clear hh hgz hg hbad a0 a1
          go_wp2_with fail
          go_region
          obtain ⟨d', ed⟩ : ∃ d', d' = IntKind.i64.wrap (d + z) := ⟨_, rfl⟩
          obtain ⟨T, eT⟩ : ∃ T, T = IntKind.i64.wrap (t + d') := ⟨_, rfl⟩
          rw [wrap64_is (d + z), ← ed, wrap64_is (t + d'), ← eT]
          obtain ⟨w4, hw4⟩ : ∃ w4, w4 = (w3.alloc (.cells #[.int .i64 T, .int .u64 v] 41)).drew := ⟨_, rfl⟩
          rw [← hw4]
          obtain ⟨q, hq⟩ : ∃ q, q = w3.heap.size := ⟨_, rfl⟩
          rw [← hq]
          have hg34 : w3.grownBy w4 none := by rw [hw4]; exact gb_drew (World.grownBy_alloc w3 _ none)
          have HP4 : Hid (PntAt w w4 p q g off k c0 a zs cap ps T v s3) := by
            refine ⟨?_, ?_, ?_, HH3.out.kept hg34 (by simp), SOwn.kept HO3.out hg34 (Classical.em _), HS3.out.grown hg34 (by omega) (by simp), by omega, ?_, by omega⟩
            · rw [hw4, hq]; exact World.cell?_alloc_new _ _ _ _
            · rw [hw4, hq]; exact World.cell?_alloc_new _ _ _ _
            · rw [hw4, hq]; simp [go_sem]
            · rw [hw4, hq]; show _ < (w3.alloc _).heap.size; rw [show (w3.alloc (.cells #[.int .i64 T, .int .u64 v] 41)).heap.size = w3.heap.size + 1 from Array.size_push _]; omega
          have HDT : Hid (d' = IntKind.i64.wrap (d + z) ∧ T = IntKind.i64.wrap (t + d')) := ⟨ed, eT⟩
          clear hw4 hg34 ed eT HO3 HS3 HH3 b0 b1 hq hgl
          go_wp2_with fail
          refine (HG1.out 1 s3 w4 (by omega) HP4.out.head HP4.out.since).mono ?_
          rintro e w5 ⟨c1, s5, rfl, hc0, hc1, hh, hgr, hg⟩
          have HP5 : Hid (PntAt w w5 p q g off k c0 a zs cap ps T v s5) := HP4.out.kept hg hh
          have HR5 : Hid (GetR 1 s3 s5 c1) := hgr
          clear hh hgr hg HP4 hc0 hc1
          go_upto_if 64 with fail
          go_cut [8, 9] from 62 to 93 (fun t8 t9 wc => ∃ (X : Int) (s5 : Option (List Bool)) (aw' ww' : Int), t8 = .int .i64 aw' ∧ t9 = .int .i64 ww' ∧ PntAt w wc p q g off k c0 a zs cap ps T (xorI v X) s5 ∧ ValR aw ww s3 s5 X aw' ww' ∧ (0 ≤ aw' ∧ aw' ≤ 31 ∧ 0 ≤ ww' ∧ ww' ≤ 64) ∧ okV (xorI v X))
          case first =>
            by_cases hc : c1 = 1
            · have qc : (c1 == 1) = true := by simpa using hc
              have HC1 : Hid (c1 = 1) := hc
              clear hc
              go_wp2_with fail
              refine (HG1.out 1 s5 w5 (by omega) HP5.out.head HP5.out.since).mono ?_
              rintro e w6 ⟨c2, s6, rfl, hc0, hc1, hh, hgr, hg⟩
              have HP6 : Hid (PntAt w w6 p q g off k c0 a zs cap ps T v s6) := HP5.out.kept hg hh
              have HR6 : Hid (GetR 1 s5 s6 c2) := hgr
              clear hh hgr hg hc0 hc1
              go_upto_if 67 with fail
              go_cut [8, 9] from 65 to 74 (fun t8 t9 wc => ∃ (s7 : Option (List Bool)) (aw' ww' : Int), t8 = .int .i64 aw' ∧ t9 = .int .i64 ww' ∧ PntAt w wc p q g off k c0 a zs cap ps T v s7 ∧ Tail aw ww s3 s7 aw' ww')
              case first =>
                by_cases hc : c2 = 1
                · have qc2 : (c2 == 1) = true := by simpa using hc
                  have HC2 : Hid (c2 = 1) := hc
                  clear hc
                  go_wp2_with fail
                  refine (HG1.out 5 s6 w6 (by omega) HP6.out.head HP6.out.since).mono ?_
                  rintro e w7 ⟨na, s7, rfl, ha0, ha1, hh, hgr, hg⟩
                  have HP7 : Hid (PntAt w w7 p q g off k c0 a zs cap ps T v s7) := HP6.out.kept hg hh
                  have HR7 : Hid (GetR 5 s6 s7 na) := hgr
                  have ha2 : na < 32 := ha1
                  clear hh hgr hg ha1
                  go_wp2_with fail
                  refine (HG1.out 6 s7 w7 (by omega) HP7.out.head HP7.out.since).mono ?_
                  rintro e w8 ⟨nw, s8, rfl, hb0, hb1, hh, hgr, hg⟩
                  have HP8 : Hid (PntAt w w8 p q g off k c0 a zs cap ps T v s8) := HP7.out.kept hg hh
                  have HR8 : Hid (GetR 6 s7 s8 nw) := hgr
                  have hb2 : nw < 64 := hb1
                  clear hh hgr hg hb1
                  have HTl : Hid (Tail aw ww s3 s8 na (nw + 1)) := ⟨fun hb => ValR.newbad HR5.out HC1.out HR6.out HC2.out HR7.out HR8.out hb, fun hb s' u hu => ValR.newok HR5.out HC1.out HR6.out HC2.out HR7.out HR8.out hb hu, by omega⟩
                  have ea : wrap64 na = na := by rw [wrap64_is]; exact wrap_id _ (by omega)
                  have eb : wrap64 nw = nw := by rw [wrap64_is]; exact wrap_id _ (by omega)
                  go_wp2
                  go_meet
                  case rel => exact ⟨s8, na, nw + 1, by go_num, by go_num, HP8.out, HTl.out⟩
                · have qc2 : (c2 == 1) = false := by simpa using hc
                  have HTl : Hid (Tail aw ww s3 s6 aw ww) := ⟨fun hb => ValR.oldbad HR5.out HC1.out HR6.out hc hb, fun hb s' u hu => ValR.old HR5.out HC1.out HR6.out hc hb hu, HW.out.win⟩
                  clear hc
                  go_wp2
                  go_meet
                  case rel => exact ⟨s6, aw, ww, rfl, rfl, HP6.out, HTl.out⟩
              case rest =>
                obtain ⟨s7, aw', ww', rfl, rfl, hP, hT⟩ := hcut
                have HP7 : Hid (PntAt w wc p q g off k c0 a zs cap ps T v s7) := hP
                have HT7 : Hid (Tail aw ww s3 s7 aw' ww') := hT
                obtain ⟨_, _, ha0, ha1, hb0, hb1⟩ := hT
                obtain ⟨nh7, bad7, hrow7, hnh7, _⟩ := hP.head
                have HROW7 : Hid (wc.rowIs p 56 3 (HeadF (.slice a zs.length cap) nh7 bad7) ∧ nh7 ≤ 8 * zs.length) := ⟨hrow7, hnh7⟩
                have k2 : wc.cell? ⟨p, 2, none⟩ = some (.bool bad7) := hrow7.cell (i := 2) (by omega)
                have f2 := hrow7.frozen 2
                have v1 := hP.val
                have f1 := hP.free
                clear hP hrow7 hnh7 HP5 HP6
                obtain ⟨an, rfl⟩ : ∃ an : Nat, aw' = an := ⟨aw'.toNat, by omega⟩
                obtain ⟨wn, rfl⟩ : ∃ wn : Nat, ww' = wn := ⟨ww'.toNat, by omega⟩
                by_cases hb : (an : Int) + wn > 64
                · have qb : decide ((64 : Int) < (an : Int) + wn) = true := by simpa using hb
                  have HVR : Hid (ValR aw ww s3 none 0 an wn) := HT7.out.1 hb
                  go_wp2
                  go_meet
                  case rel =>
                    have hhd : HeadAt (wc.setCell ⟨p, 2, none⟩ (.bool true)) p a zs cap none := by
                      refine ⟨nh7, true, (HROW7.out.1.set 2 _).congr fun i hi => ?_, HROW7.out.2, rfl⟩
                      unfold HeadF
                      match i, hi with
                      | 0, _ => rfl
                      | 1, _ => rfl
                      | 2, _ => rfl
                    exact ⟨0, none, an, wn, rfl, rfl, by rw [xorI_zero HV.out]; exact HP7.out.kept (gb_set rfl) hhd, HVR.out, by omega, by rw [xorI_zero HV.out]; exact HV.out⟩
                · have qb : decide ((64 : Int) < (an : Int) + wn) = false := by simp; omega
                  have e64 : (64 : Int) - (an : Int) - (wn : Int) = ((64 - an - wn : Nat) : Int) := by omega
                  have HPd : Hid (PntAt w wc.drew p q g off k c0 a zs cap ps T v s7) := HP7.out.kept (gb_drew (World.grownBy.refl wc (some p))) HP7.out.head
                  have HCL : Hid (Calls Tryd.prog 31 #[.pointer (some ⟨p, 0, none⟩), .int .i64 wn] wc.drew fun e w' => ∃ u s8, e = .returned (.int .u64 u) ∧ Hid (PntAt w w' p q g off k c0 a zs cap ps T v s8) ∧ Hid (ShAt aw ww s3 s8 an wn u) ∧ w'.cell? ⟨q, 1, none⟩ = some (.int .u64 v) ∧ w'.frozen? ⟨q, 1, none⟩ = false) := by
                    refine (HG1.out wn s7 wc.drew (by omega) HPd.out.head HPd.out.since).mono ?_
                    rintro e w8 ⟨u, s8, rfl, hu0, hu1, hh, hgr, hg⟩
                    have hp8 := HPd.out.kept hg hh
                    exact ⟨u, s8, rfl, hp8, ⟨HT7.out.2.1 hb s8 u hgr, hu0, sh_bd u an wn hu0 hu1 (by omega)⟩, hp8.val, hp8.free⟩
                  have hw1 : IntKind.i64.wrap (64 - (an : Int)) = 64 - (an : Int) := wrap_id _ (by omega)
                  have hw2 : IntKind.i64.wrap ((64 - an - wn : Nat) : Int) = ((64 - an - wn : Nat) : Int) := wrap_id _ (by omega)
                  clear hb
                  go_wp2_with fail
                  go_region_with (go_at_call 31; refine HCL.out.mono ?_; rintro e w8 ⟨u, s8, rfl, HP8, HSH, v8, f8⟩)
                  all_goals go_wp2_with fail
                  all_goals go_meet
                  all_goals
                    have h1 := HSH.out
                    have hp := pow2_pos (64 - an - wn)
                    have hy0 : 0 ≤ u * 2 ^ (64 - an - wn) := Int.mul_nonneg h1.2.1 (Int.le_of_lt hp)
                    have hy1 := h1.2.2
                    have ev : ((64 : Int) - an - wn).toNat = 64 - an - wn := by omega
                    have e64 : (2 : Int) ^ 64 = 18446744073709551616 := rfl
                    obtain ⟨hv0, hv1⟩ := HV.out
                    have h2 := h1.1
                    rw [ev] at h2
                    have ew : IntKind.u64.wrap (u * 2 ^ (64 - an - wn)) = u * 2 ^ (64 - an - wn) := by rw [wrap_is]; exact Int.emod_eq_of_lt hy0 hy1
                    have ex : bits .xor .u64 v (u * 2 ^ (64 - an - wn)) = xorI v (u * 2 ^ (64 - an - wn)) := u64_xor v _ hv0 (by omega) hy0 (by omega)
                    rw [ew, ex]
                    exact ⟨u * 2 ^ (64 - an - wn), s8, an, wn, rfl, rfl, HP8.out.set _, h2, by omega, xorI_bd ⟨hv0, hv1⟩ ⟨hy0, by omega⟩⟩
            · have qc : (c1 == 1) = false := by simpa using hc
              have HVR : Hid (ValR aw ww s3 s5 0 aw ww) := ValR.zero HR5.out hc
              clear hc
              go_wp2
              go_meet
              case rel => exact ⟨0, s5, aw, ww, rfl, rfl, by rw [xorI_zero HV.out]; exact HP5.out, HVR.out, HW.out.win, by rw [xorI_zero HV.out]; exact HV.out⟩
          case rest =>
            obtain ⟨X, s6, aw', ww', rfl, rfl, hP, hVR, hwin, hokv⟩ := hcut
            have c0' := hP.time
            have c1' := hP.val
            have HPc : Hid (PntAt w wc p q g off k c0 a zs cap ps T (xorI v X) s6) := hP
            have hgt := hP.gt
            have hlt' := hP.lt
            have HDM : Hid (DecAt zs N (k + 1 + 1) (ps ++ [(T, xorI v X)]) s6 d' aw' ww') := by
              have h := HW.out.dec.more (by omega) (by omega) HL1.out (by rw [Nat.add_sub_cancel]; exact EX.out) HGZ3.out hVR
              rw [← HDT.out.1, ← HDT.out.2] at h
              exact h
            have HWn : Hid (0 ≤ aw' ∧ aw' ≤ 31 ∧ 0 ≤ ww' ∧ ww' ≤ 64) := hwin
            have HOk : Hid (okV (xorI v X)) := hokv
            generalize xorI v X = V at c1' HPc HDM HOk
            have hzc : p + 1 ≤ wc.heap.size := by omega
            have HOA : Hid (SOwn pntE 41 (wc.alloc (.cells #[.int .i64 T, .int .u64 V] 41)) (p + 1) (.slice (some ⟨g, off, none⟩) (k + 1) c0) (k + 1) ps) := SOwn.kept HPc.out.own (World.grownBy_alloc wc _ none) (Classical.em _)
            have HLA : Hid (SRd pntE (wc.alloc (.cells #[.int .i64 T, .int .u64 V] 41)) (some ⟨wc.heap.size, 0, none⟩) [(T, V)]) := plit wc [(T, V)]
            have HSA : Hid (w.Since p (wc.alloc (.cells #[.int .i64 T, .int .u64 V] 41))) := HPc.out.since.alloc (by omega) _
            have HHA : Hid (HeadAt (wc.alloc (.cells #[.int .i64 T, .int .u64 V] 41)) p a zs cap s6) := HPc.out.head.kept (World.grownBy_alloc wc _ none) (by simp)
            have hzA : p + 1 ≤ (wc.alloc (.cells #[.int .i64 T, .int .u64 V] 41)).heap.size := Nat.le_trans hzc (World.grownBy_alloc wc _ none).size
            clear hP hVR hwin hokv
            go_wp2_with (at_builtin; refine wpList_append_s pntET rfl (.tmp 94) (.tmp 96) rfl (p + 1) (.slice (some ⟨g, off, none⟩) (k + 1) c0) (k + 1) ps rfl HOA.out (some ⟨wc.heap.size, 0, none⟩) [(T, V)] 1 1 rfl rfl HLA.out (by simp) (by omega) (by unfold maxLen; omega) hzA ?_; intro v8 w8 ho8 hg8 hn8)
            go_roundw
            case rel =>
              have hne : ∀ k', (Value.slice (some ⟨g, off, none⟩) (k + 1) c0).ownBlock = some k' → p + 1 ≤ k' := fun k' hk => (SOwn.block HOA.out k' hk).1
              refine ⟨k + 1 + 1, ps ++ [(T, V)], s6, d', aw', ww', by omega, rfl, rfl, rfl, by go_num, ⟨ho8, HHA.out.kept hg8 (fun e => by have := hne p e.symm; omega), HDM.out, ?_, HWn.out, ?_, HSA.out.grown hg8 (by omega) (fun k' hk => by have := hne k' hk; omega)⟩, Nat.le_trans hzA hg8.size⟩
              · intro x hx
                rcases List.mem_append.1 hx with h | h
                · exact HW.out.okv x h
                · simp only [List.mem_singleton] at h; subst h; exact HOk.out
              · rw [HDT.out.1, IntKind.wrap_i64]; omega
            case measure => simp [intOf]; omega
      · have hki : ¬ (i : Int) < (N : Int) := by omega
        have hiN : i = N := by omega
        subst hiN
        have hn0 : n0 = i := by
          obtain ⟨_, h2⟩ := HW.out.own
          rcases h2 with ⟨e, e2⟩ | ⟨g, cap, cur, e, _⟩
          · simp only [Value.slice.injEq] at e; simp_all
          · simp only [Value.slice.injEq] at e; exact e.2.1
        subst hn0
        have HE : Hid (Calls Tryd.prog 9 #[.slice a0 n0 c0] wr fun e w' => ∃ vB, e = .returned (.tuple #[vB, .int .i64 (encC ps)]) ∧ SOwn byteE 5 w' wr.heap.size vB (encB ps).length (encB ps) ∧ wr.grownBy w' none) := r_encode a0 ps n0 c0 wr (SOwn.rd HW.out.own) (SOwn.len HW.out.own) (by omega) HW.out.okv
        have HDN : Hid (decR zs = if okTimes ps = true ∧ pack (encP ps) = zs then some ps else none) := HW.out.dec.done (by rw [HST.out]; simp) rfl
        have HLN : Hid (ps.length = n0) := SOwn.len HW.out.own
        by_cases hok : okTimes ps = true
        · have e1 : encC ps = 0 := by unfold encC; rw [if_neg (by have := HLN.out; omega), if_neg (by simp [hok])]
          have e2 : encB ps = pack (encP ps) := by unfold encB; rw [if_pos e1]
          rw [e1, e2] at HE
          clear e1 e2
          go_wp2_with fail
          refine HE.out.mono ?_
          rintro e w3 ⟨vB, rfl, hoB, hg⟩
          obtain ⟨aB, nB, cB, rfl⟩ : ∃ a n c, vB = .slice a n c := by
            obtain ⟨_, h2⟩ := hoB
            rcases h2 with ⟨e, _⟩ | ⟨g, cap, cur, e, _⟩
            · exact ⟨_, _, _, e⟩
            · exact ⟨_, _, _, e⟩
          have hnB : nB = (pack (encP ps)).length := by
            obtain ⟨_, h2⟩ := hoB
            rcases h2 with ⟨e, e2⟩ | ⟨g, cap, cur, e, _⟩
            · simp only [Value.slice.injEq] at e; simp_all
            · simp only [Value.slice.injEq] at e; exact e.2.1
          subst hnB
          have hS3 : w.Since p w3 := HW.out.since.grown hg (by omega) (by simp)
          have HF : Hid (w.grownBy w3 none) := since_gb (by rw [← HP.out]; exact hS3)
          have HOw : Hid (SOwn pntE 41 w3 (p + 1) (.slice a0 n0 c0) n0 ps) := SOwn.kept HW.out.own hg (Classical.em _)
          have hcB : (convert 23 9 (.slice aB (pack (encP ps)).length cB)).run Tryd.prog w3 = .ok (.string (strOfNums (pack (encP ps)))) w3 := conv_rd w3 aB _ _ cB (srd_rd (SOwn.rd hoB) (pack_byte _)) rfl
          have hcZ : (convert 23 9 (.slice a L cap)).run Tryd.prog w3 = .ok (.string (strOfNums zs)) w3 := conv_rd w3 a zs L cap (HR.out.grown HF.out (by simp)) HL.out
          have HEQ : Hid ((strOfNums (pack (encP ps))).toList = (strOfNums zs).toList ↔ pack (encP ps) = zs) := strNums_ne (pack_byte _) HR.out.2
          generalize strOfNums (pack (encP ps)) = S1 at hcB HEQ
          generalize strOfNums zs = S2 at hcZ HEQ
          generalize (pack (encP ps)).length = nB at hcB
          clear hoB hg hS3
          by_cases hs : S1.toList = S2.toList
          · have hse : (S1.toList == S2.toList) = true := by simpa using hs
            have HB : Hid (decR zs = some ps) := by show _ = _; rw [HDN.out, if_pos ⟨hok, HEQ.out.1 hs⟩]
            clear hs
            go_wp2
            go_ret2
            exact ⟨_, ps, 0, rfl, by rw [HLN.out]; exact SOwn.base HOw.out (by have := HP.out; omega), HF.out, DecAns.some HB.out⟩
          · have hse : (S1.toList == S2.toList) = false := by simpa using hs
            have HB : Hid (decR zs = none) := by show _ = _; rw [HDN.out, if_neg (fun h => hs (HEQ.out.2 h.2))]
            clear hs
            go_wp2
            go_ret2
            exact ⟨_, [], 52, rfl, SOwn.nil 41 _ _, HF.out, DecAns.none HB.out⟩
        · have e1 : encC ps = 50 := by unfold encC; rw [if_neg (by have := HLN.out; omega), if_pos (by simpa using hok)]
          have HB : Hid (decR zs = none) := by show _ = _; rw [HDN.out, if_neg (fun h => hok h.1)]
          rw [e1] at HE
          clear e1
          go_wp2_with fail
          refine HE.out.mono ?_
          rintro e w3 ⟨vB, rfl, hoB, hg⟩
          have HF : Hid (w.grownBy w3 none) := since_gb (by rw [← HP.out]; exact HW.out.since.grown hg (by omega) (by simp))
          clear hoB hg
          go_wp2
          go_ret2
          exact ⟨_, [], 52, rfl, SOwn.nil 41 _ _, HF.out, DecAns.none HB.out⟩
end Go.Proofs.YteahhkpbjkcmhaaDoor
