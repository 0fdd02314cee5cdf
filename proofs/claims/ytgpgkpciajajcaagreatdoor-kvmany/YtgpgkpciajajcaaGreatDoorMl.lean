/- Several texts in one: Drec, Cface, Cx, Wm, Fm, Ws, Xf. -/
import Derived.Test.YtgpgkpciajajcaaGreatDoorMk
import Derived.Lib.SliceRun
import Derived.Laws.BitsAllLaws
import Derived.Laws.Bits64
import Derived.Test.YtgpgkpciajajcaaGreatDoorMe
import Derived.Test.YtgpgkpciajajcaaGreatDoorMi
import Derived.Lib.AppendIntMem
import Derived.Recover
import Derived.Test.YtgpgkpciajajcaaGreatDoorCards
import Derived.Test.YtgpgkpciajajcaaGreatDoorTie
import Derived.Deep.DeepHandedRow
import Derived.Deep.DeepWitnessRowRef
import Derived.Lib.LaidTab
/- The program's readers: record; Unframe. -/
namespace Go.Proofs.YtgpgkpciajajcaaGreatDoor
open Go.RowKit
set_option linter.unusedVariables false

theorem g_equal (a b : Option Addr) (xs ys : List Int) (L M c d : Nat) (R : Bool) (w : World) (hx : Rd w a xs) (hy : Rd w b ys) (hL : xs.length = L) (hM : ys.length = M) (hR : decide (xs = ys) = R) :
    Calls Tryz.prog 221 #[.slice a L c, .slice b M d] w fun e w' => e = .returned (.bool R) ∧ w = w' := by
  have h1 := conv_rd w a xs L c hx hL
  have h2 := conv_rd w b ys M d hy hM
  obtain ⟨s, hs⟩ : ∃ s, s = strOfNums xs := ⟨_, rfl⟩
  obtain ⟨t, ht⟩ : ∃ t, t = strOfNums ys := ⟨_, rfl⟩
  have HE : Hid ((s.toList == t.toList) = R) := by
    subst hs ht hR
    show _ = _
    rw [Bool.eq_iff_iff]
    simp only [beq_iff_eq, decide_eq_true_eq]
    constructor
    · intro h
      refine strOfNums_inj hx.2 hy.2 ?_
      rw [← ByteArray.toList_eq, ← ByteArray.toList_eq]; exact h
    · intro h; rw [h]
  rw [← hs] at h1
  rw [← ht] at h2
  clear hs ht hx hy hL hM hR
  go_enter Tryz.func221, Tryz.ntmps221
  go_wp2
  go_ret
  exact ⟨ret_bool HE.out, rfl⟩

theorem g_clone (ad : Addr) (xs : List Int) (n c : Nat) (w : World) (hr : Rd w (some ad) xs) (hn : xs.length = n) (hz : n ≤ 140737488355000) :
    Calls Tryz.prog 222 #[.slice (some ad) n c] w fun e w' => ∃ g c', e = .returned (.slice (some ⟨g, 0, none⟩) n c') ∧ Own w' w.heap.size g n c' xs ∧ w.grownBy w' none := by
  have HR : Hid (Rd w (some ad) xs) := hr
  have HN : Hid (xs.length = n) := hn
  have heq : ∀ w, (binOp .eql 37 (.slice (some ad) n c) (.slice none 0 0)).run Tryz.prog w = .ok (.bool false) w := fun w => Lib.run_eql_slice_nil w 37 5 (some ad) n c 0 0 Tryz.underlying37
  clear hr hn
  go_enter Tryz.func222, Tryz.ntmps222
  go_wp2_with (at_builtin; refine wpList_append_rd rfl (.tmp 5) (.tmp 6) rfl w.heap.size w.heap.size 0 0 [] rfl (own_empty w) (some ad) xs n c rfl HN.out (HR.out.grown (World.grownBy_alloc w _ none) (by simp)) (by simp) (by omega) ?_; intro g1 c1 w1 ho1 hg1)
  go_ret
  refine ⟨g1, c1, by simp, ?_, gb_trans (World.grownBy_alloc w _ none) hg1 (fun i hi => .inl (by simp at hi; omega))⟩
  rw [List.nil_append, Nat.zero_add] at ho1
  exact ho1

theorem elem27 : Tryz.prog.elem 37 = 5 := by simp [Program.elem, Tryz.underlying37]
theorem sz5 (w : World) : (sizeOf 5).run Tryz.prog w = .ok 1 w := by
  obtain ⟨i0, hi, _, hz1, _⟩ := info_parts info5
  simp [sizeOf, typeInfo, hi, hz1]
theorem head4 (w : World) (b o M C : Nat) (h : 4 ≤ C) : (Instr.slice 37 (.slice (some ⟨b, o, none⟩) M C) none (some (.int .i64 4)) none).run Tryz.prog w = .ok (.slice (some ⟨b, o, none⟩) 4 C) w := by
  rw [run_slice_h w 37 _ M C (by rw [elem27]; exact Tryz.underlying37) .i64 4 (by omega) (by omega), elem27, sz5]
  have : (4 : Int).toNat = 4 := rfl
  simp [Result.andThen, sliced, this, Addr.add]
theorem tail4 (w : World) (b o n C : Nat) (h : 4 + n ≤ C) : (Instr.slice 37 (.slice (some ⟨b, o, none⟩) (4 + n) C) (some (.int .i64 4)) none none).run Tryz.prog w = .ok (.slice (some (if C = 4 then ⟨b, o, none⟩ else ⟨b, o + 4, none⟩)) n (C - 4)) w := by
  rw [run_slice_l w 37 _ (4 + n) C (by rw [elem27]; exact Tryz.underlying37) .i64 4 (by omega) (by omega), elem27, sz5]
  have : (4 : Int).toNat = 4 := rfl
  have e : 4 + n - 4 = n := by omega
  by_cases hc : C = 4
  · simp [Result.andThen, sliced, this, e, hc]
  · simp [Result.andThen, sliced, this, e, hc, Addr.add]

/-- The method record: what it answers, and where the reader stands then. -/
def RecPost (w : World) (r : Nat) (a : Option Addr) (L cap : Nat) (rec : List Int) (r2 r3 : Int) (e : Ending) (w' : World) : Prop :=
  ∃ v N c, e = .returned (.tuple #[.slice v N c, .int .i64 r3]) ∧ Out w w' v N c rec ∧ w.grownBy w' (some r) ∧ (r3 = 0 → At w' r a L cap r2)

set_option maxHeartbeats 400000 in
theorem rec_early (r : Nat) (a : Option Addr) (zs : List Int) (L cap : Nat) (p u1 u2 u3 r3 : Int) (w : World) (h : At w r a L cap p) (hr : Rd w a zs) (hL : zs.length = L) (hcap : L ≤ cap) (hz : (L : Int) ≤ 140737488355000) (hU : uintR zs p = (u1, u2, u3))
    (hR : u3 ≠ 0 ∧ r3 = u3 ∨ u3 = 0 ∧ 65536 < u1 ∧ r3 = 23 ∨ u3 = 0 ∧ u1 ≤ 65536 ∧ (L : Int) - u2 < u1 + 4 ∧ r3 = 20) :
    Calls Tryz.prog 214 #[.pointer (some ⟨r, 0, none⟩)] w fun e w' => e = .returned (.tuple #[.slice none 0 0, .int .i64 r3]) ∧ w.grownBy w' (some r) := by
  have HC := g_num r a zs L cap p u1 u2 u3 w h hr hL hcap hz hU
  rcases hR with ⟨h3, rfl⟩ | ⟨rfl, h1, rfl⟩ | ⟨rfl, h1, h2, rfl⟩
  · have e3 : (r3 != 0) = true := by simpa using h3
    clear hr hL hU h3 h
    go_enter Tryz.func214, Tryz.ntmps214
    go_wp2_with fail
    refine HC.mono ?_
    rintro e w' ⟨rfl, hg, _⟩
    have HG : Hid (w.grownBy w' (some r)) := hg
    clear hg
    go_wp2
    go_ret2
    exact ⟨rfl, HG.out⟩
  · have hok := uintR_ok hr.byte hU
    have hub : 0 ≤ u1 ∧ u1 ≤ 18446744073709551615 := by omega
    have hd : decide (65536 < u1) = true := by simpa using h1
    clear hr hL hU hok h1 h
    go_enter Tryz.func214, Tryz.ntmps214
    go_wp2_with fail
    refine HC.mono ?_
    rintro e w' ⟨rfl, hg, _⟩
    have HG : Hid (w.grownBy w' (some r)) := hg
    clear hg
    go_wp2
    go_ret2
    exact ⟨rfl, HG.out⟩
  · have hok := uintR_ok hr.byte hU
    have hub : 0 ≤ u1 ∧ u1 ≤ 65536 := by omega
    obtain ⟨k, rfl⟩ := Int.eq_ofNat_of_zero_le (show 0 ≤ u2 by omega)
    have hd : decide (65536 < u1) = false := by simp; omega
    have HN : Hid (∀ w1, At w1 r a L cap k → Calls Tryz.prog 175 #[.pointer (some ⟨r, 0, none⟩), .int .u64 (4 + u1)] w1 fun e w' => e = .returned (.tuple #[.slice none 0 0, .int .i64 20]) ∧ w1.grownBy w' none) := fun w1 ha => next_end r a L cap k (4 + u1) w1 ha hz (by omega) (by omega) (by omega)
    clear hr hL hU hok h1 h2 h
    go_enter Tryz.func214, Tryz.ntmps214
    go_wp2_with fail
    refine HC.mono ?_
    rintro e w1 ⟨rfl, hg, ha⟩
    have HG : Hid (w.grownBy w1 (some r)) := hg
    have HA : Hid (At w1 r a L cap k) := (show At w1 r a L cap k by simpa using ha)
    clear hg ha
    go_wp2_with fail
    refine (HN.out w1 HA.out).mono ?_
    rintro e w2 ⟨rfl, hg2⟩
    have HG2 : Hid (w.grownBy w2 (some r)) := gb_trans HG.out hg2 (by simp)
    clear hg2
    go_wp2
    go_ret2
    exact ⟨rfl, HG2.out⟩

set_option maxHeartbeats 1000000 in
theorem rec_late (r : Nat) (a : Option Addr) (zs : List Int) (L cap : Nat) (p : Int) (n k : Nat) (rec : List Int) (ok : Bool) (w : World) (h : At w r a L cap p) (hr : Rd w a zs) (hne : 0 < L → ∀ x, a = some x → x.block ≠ r) (hL : zs.length = L) (hcap : L ≤ cap) (hz : (L : Int) ≤ 140737488355000) (hU : uintR zs p = ((n : Int), (k : Int), 0))
    (hn : n ≤ 65536) (hk : k + 4 + n ≤ L) (hrec : (zs.drop (k + 4)).take n = rec) (hok : decide ((zs.drop k).take 4 = four (sumR rec)) = ok) :
    Calls Tryz.prog 214 #[.pointer (some ⟨r, 0, none⟩)] w fun e w' => w.grownBy w' (some r) ∧ (ok = false ∧ e = .returned (.tuple #[.slice none 0 0, .int .i64 22]) ∨ ok = true ∧ ∃ g c, e = .returned (.tuple #[.slice (some ⟨g, 0, none⟩) n c, .int .i64 0]) ∧ Own w' w.heap.size g n c rec ∧ At w' r a L cap ((k : Int) + 4 + n)) := by
  have HC := g_num r a zs L cap p n k 0 w h hr hL hcap hz hU
  have HRG : Hid (∀ w1, w.grownBy w1 (some r) → Rd w1 a zs) := fun w1 hg => hr.grown hg (fun x hx e => hne (by omega) x hx (Option.some.inj e))
  have HN : Hid (∀ w1, At w1 r a L cap k → w.grownBy w1 (some r) → Calls Tryz.prog 175 #[.pointer (some ⟨r, 0, none⟩), .int .u64 (4 + (n : Int))] w1 fun e w' => ∃ v, e = .returned (.tuple #[.slice v (4 + n) (cap - k), .int .i64 0]) ∧ Rd w' v ((zs.drop k).take (4 + n)) ∧ w1.grownBy w' (some r) ∧ At w' r a L cap ((k : Int) + 4 + n)) := by
    intro w1 ha hg
    have h := next_ok r a zs L cap k (4 + n) w1 ha (HRG.out w1 hg) (hne (by omega)) hL hcap hz (by omega)
    rw [show ((4 + n : Nat) : Int) = 4 + (n : Int) by omega, show ((k + (4 + n) : Nat) : Int) = (k : Int) + 4 + n by omega] at h
    exact h
  have hX1 : ((zs.drop k).take (4 + n)).take 4 = (zs.drop k).take 4 := by rw [List.take_take, show min 4 (4 + n) = 4 by omega]
  have hX2 : ((zs.drop k).take (4 + n)).drop 4 = rec := by
    rw [List.drop_take, List.drop_drop, show 4 + n - 4 = n by omega, ← hrec]
  have hXl : ((zs.drop k).take (4 + n)).length = 4 + n := by rw [List.length_take, List.length_drop]; omega
  rw [← hX1] at hok
  generalize (zs.drop k).take (4 + n) = X at HN hX1 hX2 hXl hok
  have HX2 : Hid (X.drop 4 = rec) := hX2
  have HXl : Hid (X.length = 4 + n) := hXl
  have HOK : Hid (decide (X.take 4 = four (sumR rec)) = ok) := hok
  have hrl : rec.length = n := by rw [← hX2, List.length_drop]; omega
  have HRL : Hid (rec.length = n) := hrl
  have hd : decide ((65536 : Int) < (n : Int)) = false := by simp; omega
  have hCC : 4 + n ≤ cap - k := by omega
  obtain ⟨C, hC⟩ : ∃ C, cap - k = C := ⟨_, rfl⟩
  rw [hC] at HN hCC
  clear hr hU hX1 hX2 hok hL hrec hne HRG hXl hC hrl h hk
  go_enter Tryz.func214, Tryz.ntmps214
  go_wp2_with fail
  refine HC.mono ?_
  rintro e w1 ⟨rfl, hg, ha⟩
  have HG : Hid (w.grownBy w1 (some r)) := hg
  have HA : Hid (At w1 r a L cap k) := (show At w1 r a L cap k by simpa using ha)
  clear hg ha
  go_wp2_with fail
  refine (HN.out w1 HA.out HG.out).mono ?_
  rintro e w2 ⟨v, rfl, hrd, hg2, ha2⟩
  have HG2 : Hid (w.grownBy w2 (some r)) := gb_trans HG.out hg2 (fun k hk => .inr hk)
  have HA2 : Hid (At w2 r a L cap ((k : Int) + 4 + n)) := ha2
  obtain ⟨b, o, rfl, hc⟩ := hrd.at (by have := HXl.out; omega)
  have HT : Hid (Rd w2 (some ⟨b, o, none⟩) (X.take 4)) := by
    have h := (rd_window hc hrd.2 0 4 (by have := HXl.out; omega)).1
    rwa [Nat.add_zero, List.drop_zero] at h
  have HD : Hid (Rd w2 (some (if C = 4 then ⟨b, o, none⟩ else ⟨b, o + 4, none⟩)) rec) := by
    show Rd _ _ _
    have hx := HXl.out
    by_cases h4 : C = 4
    · have h0 : rec = [] := List.eq_nil_of_length_eq_zero (by have := HRL.out; omega)
      rw [h0]
      exact ⟨.inl rfl, by simp⟩
    · rw [if_neg h4, ← HX2.out]
      have h := (rd_window hc hrd.2 4 n (by omega)).1
      rwa [List.take_of_length_le (by rw [List.length_drop]; omega)] at h
  have hh4 := fun W => head4 W b o (4 + n) C (by omega)
  have ht4 := fun W => tail4 W b o n C hCC
  generalize (if C = 4 then (⟨b, o, none⟩ : Addr) else ⟨b, o + 4, none⟩) = ad at HD ht4
  clear hg2 ha2 hrd hc HG HA
  go_wp2
  go_quiet (fail)
  obtain ⟨w3, ew⟩ : ∃ w3, w3 = w2.drewN nq := ⟨_, rfl⟩
  rw [← ew]
  have HG3 : Hid (w.grownBy w3 (some r)) := by show World.grownBy _ _ _; rw [ew]; exact gb_drewR HG2.out _
  have HA3 : Hid (At w3 r a L cap ((k : Int) + 4 + n)) := by show At _ _ _ _ _ _; rw [ew]; exact HA2.out
  have HT3 : Hid (Rd w3 (some ⟨b, o, none⟩) (X.take 4)) := by show Rd _ _ _; rw [ew]; exact HT.out
  have HD3 : Hid (Rd w3 (some ad) rec) := by show Rd _ _ _; rw [ew]; exact HD.out
  clear ew HG2 HA2 HT HD hh4 ht4
  have HS := f_sum (some ad) rec n (C - 4) (sumR rec) w3 HD3.out HRL.out (by omega) rfl
  have HSb : Hid (0 ≤ sumR rec ∧ sumR rec ≤ 4294967295) := sumR_bd rec HD3.out.2
  generalize sumR rec = S at HS HSb HOK
  go_wp2_with fail
  refine HS.mono ?_
  rintro e w4 ⟨rfl, hg4⟩
  have HG4 : Hid (w3.grownBy w4 none) := hg4
  clear hg4
  go_wp2_with fail
  refine (g_four S w4 HSb.out).mono ?_
  rintro e w5 ⟨g5, rfl, ho5, hg5⟩
  have HG5 : Hid (w3.grownBy w5 none) := HG4.out.trans hg5
  have HE := g_equal (some ⟨b, o, none⟩) (some ⟨g5, 0, none⟩) (X.take 4) (four S) 4 4 C 4 ok w5 (HT3.out.grown HG5.out (by simp)) ho5.rd (by rw [List.length_take]; have := HXl.out; omega) rfl HOK.out
  clear hg5 ho5 HG4
  go_wp2_with fail
  refine HE.mono ?_
  rintro e w' ⟨rfl, rfl⟩
  have HGF : Hid (w.grownBy w5 (some r)) := gb_trans HG3.out HG5.out (by simp)
  cases ok
  · go_wp2
    go_ret2
    first | exact ⟨HGF.out, Or.inl ⟨rfl, rfl⟩⟩ | exact ⟨HGF.out, rfl⟩
  · have HCl := g_clone ad rec n (C - 4) w5 (HD3.out.grown HG5.out (by simp)) HRL.out (by omega)
    go_wp2_with fail
    refine HCl.mono ?_
    rintro e w6 ⟨g6, c6, rfl, ho6, hg6⟩
    have HO6 : Hid (Own w6 w.heap.size g6 n c6 rec) := ho6.base HGF.out.size
    have HG6 : Hid (w.grownBy w6 (some r)) := gb_trans HGF.out hg6 (by simp)
    have HA6 : Hid (At w6 r a L cap ((k : Int) + 4 + n)) := (HA3.out.grown HG5.out).grown hg6
    clear ho6 hg6
    go_wp2
    go_ret2
    first | exact ⟨HG6.out, Or.inr ⟨rfl, g6, c6, rfl, HO6.out, HA6.out⟩⟩ | exact ⟨HG6.out, g6, c6, rfl, HO6.out, HA6.out⟩

theorem Out.mono {w0 w w' : World} {a : Option Addr} {N c : Nat} {zs : List Int} (h : Out w w' a N c zs) (hs : w0.heap.size ≤ w.heap.size) : Out w0 w' a N c zs := ⟨h.1, h.2.1, h.2.2.1, h.2.2.2.1, fun x hx => Nat.le_trans hs (h.2.2.2.2 x hx)⟩

theorem g_record (r : Nat) (a : Option Addr) (zs : List Int) (L cap : Nat) (p : Int) (rec : List Int) (r2 r3 : Int) (w : World) (h : At w r a L cap p) (hr : Rd w a zs) (hne : 0 < L → ∀ x, a = some x → x.block ≠ r) (hL : zs.length = L) (hcap : L ≤ cap) (hz : (L : Int) ≤ 140737488355000) (hR : uframeR zs p = (rec, r2, r3)) :
    Calls Tryz.prog 214 #[.pointer (some ⟨r, 0, none⟩)] w (RecPost w r a L cap rec r2 r3) := by
  obtain ⟨u1, u2, u3, hU⟩ : ∃ u1 u2 u3, uintR zs p = (u1, u2, u3) := ⟨_, _, _, rfl⟩
  unfold uframeR at hR
  rw [hU] at hR
  have early : ∀ c3, rec = [] → r2 = 0 → r3 = c3 → c3 ≠ 0 → (u3 ≠ 0 ∧ c3 = u3 ∨ u3 = 0 ∧ 65536 < u1 ∧ c3 = 23 ∨ u3 = 0 ∧ u1 ≤ 65536 ∧ (L : Int) - u2 < u1 + 4 ∧ c3 = 20) → Calls Tryz.prog 214 #[.pointer (some ⟨r, 0, none⟩)] w (RecPost w r a L cap rec r2 r3) := by
    intro c3 h1 h2 h3 h0 h4
    subst h1 h2 h3
    refine (rec_early r a zs L cap p u1 u2 u3 r3 w h hr hL hcap hz hU h4).mono ?_
    rintro e w' ⟨rfl, hg⟩
    exact ⟨none, 0, 0, rfl, Out.nil _ _, hg, fun e => absurd e h0⟩
  by_cases h3 : u3 = 0
  · rw [if_neg (by simpa using h3)] at hR
    by_cases h1 : 65536 < u1
    · rw [if_pos h1] at hR
      simp only [Prod.mk.injEq] at hR
      exact early 23 hR.1.symm hR.2.1.symm hR.2.2.symm (by decide) (.inr (.inl ⟨h3, h1, rfl⟩))
    · rw [if_neg h1] at hR
      by_cases h2 : (zs.length : Int) - u2 < u1 + 4
      · rw [if_pos h2] at hR
        simp only [Prod.mk.injEq] at hR
        exact early 20 hR.1.symm hR.2.1.symm hR.2.2.symm (by decide) (.inr (.inr ⟨h3, by omega, by omega, rfl⟩))
      · rw [if_neg h2] at hR
        subst h3
        have hok := uintR_ok hr.byte hU
        obtain ⟨n, rfl⟩ := Int.eq_ofNat_of_zero_le (show 0 ≤ u1 by omega)
        obtain ⟨k, rfl⟩ := Int.eq_ofNat_of_zero_le (show 0 ≤ u2 by omega)
        simp only [Int.toNat_natCast] at hR
        refine (rec_late r a zs L cap p n k _ _ w h hr hne hL hcap hz hU (by omega) (by omega) rfl rfl).mono ?_
        rintro e w' ⟨hg, h⟩
        by_cases hs : four (sumR ((zs.drop (k + 4)).take n)) = (zs.drop k).take 4
        · rw [if_pos hs] at hR
          simp only [Prod.mk.injEq] at hR
          obtain ⟨rfl, rfl, rfl⟩ := hR
          rcases h with ⟨h, _⟩ | ⟨_, g, c, rfl, ho, ha⟩
          · simp [hs] at h
          · exact ⟨_, _, c, rfl, ho.out, hg, fun _ => ha⟩
        · rw [if_neg hs] at hR
          simp only [Prod.mk.injEq] at hR
          obtain ⟨rfl, rfl, rfl⟩ := hR
          rcases h with ⟨_, rfl⟩ | ⟨h, _⟩
          · exact ⟨none, 0, 0, rfl, Out.nil _ _, hg, fun e => by omega⟩
          · exact absurd (of_decide_eq_true h).symm hs
  · rw [if_pos (by simpa using h3)] at hR
    simp only [Prod.mk.injEq] at hR
    exact early u3 hR.1.symm hR.2.1.symm hR.2.2.symm h3 (.inl ⟨h3, rfl⟩)

theorem uframeR_err {zs rec : List Int} {p r2 r3 : Int} (h : uframeR zs p = (rec, r2, r3)) (h3 : r3 ≠ 0) : rec = [] ∧ r2 = 0 := by
  unfold uframeR at h
  split at h
  · simp only [Prod.mk.injEq] at h; exact ⟨h.1.symm, h.2.1.symm⟩
  · split at h
    · simp only [Prod.mk.injEq] at h; exact ⟨h.1.symm, h.2.1.symm⟩
    · split at h
      · simp only [Prod.mk.injEq] at h; exact ⟨h.1.symm, h.2.1.symm⟩
      · split at h
        · simp only [Prod.mk.injEq] at h; exact absurd h.2.2.symm h3
        · simp only [Prod.mk.injEq] at h; exact ⟨h.1.symm, h.2.1.symm⟩

set_option maxHeartbeats 400000 in
theorem read_bytes (r : Nat) (q e3 : Int) (w : World) (Q : Option Addr → Nat → Nat → World → Prop) (HC : Calls Tryz.prog 214 #[.pointer (some ⟨r, 0, none⟩)] w fun e w' => ∃ v N c, e = .returned (.tuple #[.slice v N c, .int .i64 e3]) ∧ Q v N c w')
    (hq : ∀ v N c w', Q v N c w' → e3 = 0 → w'.cell? ⟨r, 1, none⟩ = some (.int .i64 q)) (hd : ∀ v N c w' n, Q v N c w' → Q v N c (w'.drewN n)) :
    Calls Tryz.prog 213 #[.pointer (some ⟨r, 0, none⟩), .func (.func 214) #[.pointer (some ⟨r, 0, none⟩)] #[]] w fun e w' => ∃ v N c, e = .returned (.tuple #[if e3 = 0 then .slice v N c else .slice none 0 0, .int .i64 (if e3 = 0 then q else 0), .int .i64 e3]) ∧ Q v N c w' := by
  have HQ : Hid (∀ v N c w', Q v N c w' → e3 = 0 → w'.cell? ⟨r, 1, none⟩ = some (.int .i64 q)) := hq
  have HD : Hid (∀ v N c w' n, Q v N c w' → Q v N c (w'.drewN n)) := hd
  have HCC : Hid (Calls Tryz.prog 214 #[.pointer (some ⟨r, 0, none⟩)] w fun e w' => ∃ v N c, e = .returned (.tuple #[.slice v N c, .int .i64 e3]) ∧ Q v N c w') := HC
  clear hq hd HC
  by_cases h3 : e3 = 0
  · simp only [if_pos h3]
    have HE : Hid (e3 = 0) := h3
    have hb3 : (e3 != 0) = false := by simpa using h3
    clear h3
    go_enter Tryz.func213, Tryz.ntmps213
    go_wp2_with fail
    refine HCC.out.mono ?_
    rintro e w1 ⟨v, N, c, rfl, hw1⟩
    have HW : Hid (Q v N c w1) := hw1
    have hc := HQ.out _ _ _ w1 hw1 HE.out
    clear hw1
    go_wp2
    go_quiet (fail)
    go_wp2
    go_ret3
    exact ⟨v, N, c, by rw [HE.out]; rfl, HD.out _ _ _ _ _ HW.out⟩
  · simp only [if_neg h3]
    have hb3 : (e3 != 0) = true := by simpa using h3
    clear h3
    go_enter Tryz.func213, Tryz.ntmps213
    go_wp2_with fail
    refine HCC.out.mono ?_
    rintro e w1 ⟨v, N, c, rfl, hw1⟩
    have HW : Hid (Q v N c w1) := hw1
    clear hw1
    go_wp2
    go_ret3
    exact ⟨v, N, c, rfl, HW.out⟩

theorem f_unframe (a : Option Addr) (zs : List Int) (L cap : Nat) (p : Int) (rec : List Int) (r2 r3 : Int) (w : World) (hr : Rd w a zs) (hL : zs.length = L) (hcap : L ≤ cap) (hz : (L : Int) ≤ 140737488355000) (hR : uframeR zs p = (rec, r2, r3)) :
    Calls Tryz.prog 200 #[.slice a L cap, .int .i64 p] w fun e w' => ∃ v N c, e = .returned (.tuple #[.slice v N c, .int .i64 r2, .int .i64 r3]) ∧ Out w w' v N c rec ∧ w.grownBy w' none := by
  have hmf : ∀ (fn : Fn) (first cap : Array Value) (w : World), (Instr.makeFunc fn first cap).run Tryz.prog w = .ok (.func fn first cap) w := fun _ _ _ _ => rfl
  have HN := g_record w.heap.size a zs L cap p rec r2 r3 (w.alloc (.cells #[.slice a L cap, .int .i64 p] 174)) (at_new w a L cap p) (hr.grown (World.grownBy_alloc w _ none) (by simp)) (fresh_ne hr hL) hL hcap hz hR
  have HC : Hid (Calls Tryz.prog 213 #[.pointer (some ⟨w.heap.size, 0, none⟩), .func (.func 214) #[.pointer (some ⟨w.heap.size, 0, none⟩)] #[]] (w.alloc (.cells #[.slice a L cap, .int .i64 p] 174)) fun e w' => ∃ v N c, e = .returned (.tuple #[.slice v N c, .int .i64 r2, .int .i64 r3]) ∧ Out w w' v N c rec ∧ w.grownBy w' none) := by
    unfold RecPost at HN
    refine (read_bytes w.heap.size r2 r3 _ _ HN (fun v N c w' h h3 => (h.2.2 h3).place) (fun v N c w' n h => ⟨⟨h.1.1, h.1.2.1.drewN n, h.1.2.2⟩, gb_drewR h.2.1 n, fun h3 => (h.2.2 h3).draw n⟩)).mono ?_
    rintro e w' ⟨v, N, c, rfl, ho, hg, _⟩
    by_cases h3 : r3 = 0
    · exact ⟨v, N, c, by rw [if_pos h3, if_pos h3], ho.mono (le_alloc (Nat.le_refl _)), gb_reader hg⟩
    · have he := uframeR_err hR h3
      exact ⟨none, 0, 0, by rw [if_neg h3, if_neg h3, he.2], by rw [he.1]; exact Out.nil _ _, gb_reader hg⟩
  clear HN hr hL hR
  go_enter Tryz.func200, Tryz.ntmps200
  go_wp2_with fail
  refine HC.out.mono ?_
  rintro e w' ⟨v, N, c, rfl, ho, hg⟩
  have HO : Hid (Out w w' v N c rec) := ho
  have HG : Hid (w.grownBy w' none) := hg
  clear ho hg
  go_wp2
  go_ret3
  exact ⟨v, N, c, rfl, HO.out, HG.out⟩
end Go.Proofs.YtgpgkpciajajcaaGreatDoor

/- The calls of package codec, as the statements use them: f_putuint, f_putint, f_puttext, f_sum, f_frame, f_uint, f_int, f_text, f_unframe. -/
namespace Go.Proofs.YtgpgkpciajajcaaGreatDoor
end Go.Proofs.YtgpgkpciajajcaaGreatDoor

/- Frames as lists (picked from the texts of codec, for a trial). -/
namespace Go.Proofs.YtgpgkpciajajcaaGreatDoor
set_option linter.unusedVariables false
theorem uintR_at (xs ys : List Int) (v : Nat) (hv : v < 18446744073709551616) (zs : List Int) (hz : zs = xs ++ (enc v ++ ys)) (p : Int) (hp : p = xs.length) : uintR zs p = ((v : Int), (xs.length : Int) + (enc v).length, 0) := by
  subst hz hp
  rw [uintR_enc xs ys v hv]
  simp
theorem uframeR_at (xs ys rec : List Int) (hr : rec.length ≤ 65536) (zs : List Int) (hz : zs = xs ++ (frameR rec ++ ys)) (p : Int) (hp : p = xs.length) : uframeR zs p = (rec, (xs.length : Int) + (frameR rec).length, 0) := by
  have h := uintR_at xs (four (sumR rec) ++ rec ++ ys) rec.length (by omega) zs (by rw [hz, frameR]; simp) p hp
  unfold uframeR
  rw [h]
  have h4 : (four (sumR rec)).length = 4 := rfl
  have hfl : (frameR rec).length = (enc rec.length).length + 4 + rec.length := by rw [frameR]; simp [h4]; omega
  have hlen : (zs.length : Int) = xs.length + (enc rec.length).length + 4 + rec.length + ys.length := by
    rw [hz]; simp [hfl]; omega
  simp only [ne_eq, not_true_eq_false, if_false]
  rw [if_neg (by omega), if_neg (by omega)]
  have e1 : ((xs.length : Int) + ((enc rec.length).length : Int)).toNat = (xs ++ enc rec.length).length := by simp; omega
  have e2 : ((rec.length : Nat) : Int).toNat = rec.length := by omega
  have ez : zs = (xs ++ enc rec.length) ++ (four (sumR rec) ++ (rec ++ ys)) := by rw [hz, frameR]; simp
  rw [e1, e2]
  have d1 : zs.drop (xs ++ enc rec.length).length = four (sumR rec) ++ (rec ++ ys) := by rw [ez, List.drop_left]
  have d2 : zs.drop ((xs ++ enc rec.length).length + 4) = rec ++ ys := by
    rw [← List.drop_drop, d1, ← h4, List.drop_left]
  rw [d1, d2, List.take_left, show (four (sumR rec) ++ (rec ++ ys)).take 4 = four (sumR rec) from by rw [← h4, List.take_left], if_pos rfl, hfl]
  simp only [Prod.mk.injEq, true_and, and_true]
  omega
/-- A number's bytes cut short end too early. -/
theorem ud_cut (zs : List Int) (p : Nat) : ∀ (m i u j : Nat) (a : Int), 9 - i = m → i ≤ 9 → zs.drop (p + i) = (enc u).take j → j < (enc u).length → (u : Int) * 2 ^ (7 * i) < 18446744073709551616 → ud zs p (10 - i) i a = (0, 0, 20) := by
  intro m
  induction m with
  | zero =>
    intro i u j a hm hi hd hj hb
    obtain rfl : i = 9 := by omega
    have e : (2 : Int) ^ (7 * 9) = 9223372036854775808 := by simp
    rw [e] at hb
    rw [enc_small (show u < 128 by omega)] at hd hj
    have hj0 : j = 0 := by simp at hj; omega
    subst hj0
    have hl : zs.length ≤ p + 9 := by simpa using hd
    rw [show 10 - 9 = 0 + 1 from rfl, ud, if_pos hl]
  | succ m ih =>
    intro i u j a hm hi hd hj hb
    have hp : (0 : Int) < 2 ^ (7 * i) := Int.pow_pos (by decide)
    rw [show 10 - i = (9 - i) + 1 by omega, ud]
    cases j with
    | zero =>
      have hl : zs.length ≤ p + i := by simpa using hd
      rw [if_pos hl]
    | succ j =>
      have h128 : ¬ u < 128 := by
        intro h
        rw [enc_small h] at hj
        simp at hj
      rw [enc_big h128] at hd hj
      have hlen : p + i < zs.length := by
        have h := congrArg List.length hd
        simp at h; omega
      have hg : zs.getD (p + i) 0 = ((u % 128 + 128 : Nat) : Int) := by
        have h := congrArg (fun l => l.getD 0 0) hd
        simpa [List.getD_eq_getElem?_getD] using h
      have hmul : ((u / 128 : Nat) : Int) * 2 ^ (7 * (i + 1)) ≤ (u : Int) * 2 ^ (7 * i) := by
        rw [pow7, show ((u / 128 : Nat) : Int) * (2 ^ (7 * i) * 128) = ((u / 128 : Nat) : Int) * 128 * 2 ^ (7 * i) by rw [Int.mul_comm (2 ^ (7 * i)) 128, Int.mul_assoc]]
        exact Int.mul_le_mul_of_nonneg_right (by omega) (Int.le_of_lt hp)
      have h9 : i ≠ 9 := by omega
      rw [if_neg (by omega), hg, if_neg (by omega), if_neg (by omega)]
      have hd' : zs.drop (p + (i + 1)) = (enc (u / 128)).take j := by
        have h := congrArg (List.drop 1) hd
        rw [List.drop_drop] at h
        simpa [Nat.add_assoc] using h
      have := ih (i + 1) (u / 128) j (a + ((u % 128 + 128 : Nat) : Int) % 128 * 2 ^ (7 * i)) (by omega) (by omega) hd' (by simp at hj; omega) (by omega)
      rw [show 9 - i = 10 - (i + 1) by omega]
      exact this
end Go.Proofs.YtgpgkpciajajcaaGreatDoor

/- Records as frames, one behind the other, and what a cut leaves of them. (No program's numbers.) -/
namespace Go.Proofs.YtgpgkpciajajcaaGreatDoor
set_option linter.unusedVariables false

/-- What a framing keeps to: fr lays a record, uf reads one at a place. -/
structure Framing (fr : List Int → List Int) (uf : List Int → Nat → Option (List Int × Nat)) : Prop where
  pos : ∀ r, 0 < (fr r).length
  whole : ∀ xs r ys, r.length ≤ 65536 → uf (xs ++ (fr r ++ ys)) xs.length = some (r, xs.length + (fr r).length)
  torn : ∀ xs r i, r.length ≤ 65536 → i < (fr r).length → uf (xs ++ (fr r).take i) xs.length = none
def logB (fr : List Int → List Int) (recs : List (List Int)) : List Int := recs.flatMap fr
theorem logB_cons (fr : List Int → List Int) (r : List Int) (recs : List (List Int)) : logB fr (r :: recs) = fr r ++ logB fr recs := rfl
theorem logB_app (fr : List Int → List Int) (a b : List (List Int)) : logB fr (a ++ b) = logB fr a ++ logB fr b := List.flatMap_append
/-- The records from a place on; is something torn behind them? -/
def parse (uf : List Int → Nat → Option (List Int × Nat)) (zs : List Int) : Nat → Nat → List (List Int) × Bool
  | 0, _ => ([], false)
  | n + 1, p => if zs.length ≤ p then ([], false) else match uf zs p with
    | none => ([], true)
    | some (r, q) => (r :: (parse uf zs n q).1, (parse uf zs n q).2)
theorem parse_end (uf : List Int → Nat → Option (List Int × Nat)) (zs : List Int) (n p : Nat) (h : zs.length ≤ p) : parse uf zs n p = ([], false) := by
  cases n with
  | zero => rfl
  | succ n => simp [parse, h]
theorem parse_cut {fr : List Int → List Int} {uf : List Int → Nat → Option (List Int × Nat)} (F : Framing fr uf) : ∀ (recs : List (List Int)) (xs : List Int) (k n : Nat), (∀ r ∈ recs, r.length ≤ 65536) → k ≤ (logB fr recs).length → k < n →
    ∃ m, m ≤ recs.length ∧ parse uf (xs ++ (logB fr recs).take k) n xs.length = (recs.take m, decide ((logB fr (recs.take m)).length < k)) ∧ (logB fr (recs.take m)).length ≤ k ∧ (m < recs.length → k < (logB fr (recs.take (m + 1))).length)
  | [], xs, k, n, _, hk, hn => by
    have h0 : k = 0 := by simpa [logB] using hk
    subst h0
    refine ⟨0, Nat.le_refl _, ?_, by simp [logB], fun h => by simp at h⟩
    rw [parse_end _ _ _ _ (by simp [logB])]
    simp [logB]
  | r :: recs, xs, k, n, hr, hk, hn => by
    obtain ⟨n, rfl⟩ : ∃ j, n = j + 1 := ⟨n - 1, by omega⟩
    have hr0 := hr r (by simp)
    have hp := F.pos r
    rw [logB_cons]
    rw [logB_cons, List.length_append] at hk
    by_cases hlt : k < (fr r).length
    · rw [List.take_append_of_le_length (by omega)]
      refine ⟨0, Nat.zero_le _, ?_, by simp [logB], fun _ => by simpa [logB] using hlt⟩
      by_cases h0 : k = 0
      · subst h0
        rw [parse_end _ _ _ _ (by simp)]
        simp [logB]
      · have hlen : ¬ (xs ++ (fr r).take k).length ≤ xs.length := by rw [List.length_append, List.length_take]; omega
        rw [parse, if_neg hlen, F.torn xs r k hr0 hlt]
        have : decide ((logB fr ((r :: recs).take 0)).length < k) = true := by simp [logB]; omega
        rw [this]
        rfl
    · have e1 : (fr r ++ logB fr recs).take k = fr r ++ (logB fr recs).take (k - (fr r).length) := by
        rw [List.take_append, List.take_of_length_le (by omega)]
      rw [e1]
      have hlen : ¬ (xs ++ (fr r ++ (logB fr recs).take (k - (fr r).length))).length ≤ xs.length := by rw [List.length_append, List.length_append]; omega
      obtain ⟨m, hm, h1, h2, h3⟩ := parse_cut F recs (xs ++ fr r) (k - (fr r).length) n (fun x hx => hr x (by simp [hx])) (by omega) (by omega)
      rw [List.append_assoc, List.length_append] at h1
      refine ⟨m + 1, by simp; omega, ?_, ?_, ?_⟩
      · rw [parse, if_neg hlen, F.whole xs r _ hr0]
        dsimp only
        rw [h1, List.take_succ_cons, logB_cons, List.length_append]
        congr 2
        simp
        omega
      · rw [List.take_succ_cons, logB_cons, List.length_append]; omega
      · intro hm'
        rw [List.take_succ_cons, logB_cons, List.length_append]
        have := h3 (by simpa using hm')
        omega
/-- A whole log tells its records. -/
theorem parse_log {fr : List Int → List Int} {uf : List Int → Nat → Option (List Int × Nat)} (F : Framing fr uf) (recs : List (List Int)) (n : Nat) (hr : ∀ r ∈ recs, r.length ≤ 65536) (hn : (logB fr recs).length < n) : parse uf (logB fr recs) n 0 = (recs, false) := by
  obtain ⟨m, hm, h1, h2, h3⟩ := parse_cut F recs [] (logB fr recs).length n hr (Nat.le_refl _) hn
  have hmm : m = recs.length := by
    rcases Nat.lt_or_ge m recs.length with h | h
    · exfalso
      have h4 := h3 h
      have h5 : logB fr recs = logB fr (recs.take (m + 1)) ++ logB fr (recs.drop (m + 1)) := by rw [← logB_app, List.take_append_drop]
      rw [h5, List.length_append] at h4
      omega
    · omega
  subst hmm
  rw [List.take_length] at h1 h2
  rw [List.take_of_length_le (Nat.le_refl _)] at h1
  simpa using h1
/-- A log with a part of one frame behind it. -/
theorem parse_torn {fr : List Int → List Int} {uf : List Int → Nat → Option (List Int × Nat)} (F : Framing fr uf) (recs : List (List Int)) (r : List Int) (i n : Nat) (hr : ∀ x ∈ recs, x.length ≤ 65536) (hr0 : r.length ≤ 65536) (hi : 0 < i ∧ i < (fr r).length) (hn : (logB fr recs).length + i < n) : parse uf (logB fr recs ++ (fr r).take i) n 0 = (recs, true) := by
  have e0 : logB fr (recs ++ [r]) = logB fr recs ++ fr r := by rw [logB_app]; simp [logB]
  have e1 : (logB fr (recs ++ [r])).take ((logB fr recs).length + i) = logB fr recs ++ (fr r).take i := by
    rw [e0, List.take_append, List.take_of_length_le (by omega)]
    simp
  obtain ⟨m, hm, h1, h2, h3⟩ := parse_cut F (recs ++ [r]) [] ((logB fr recs).length + i) n (by intro x hx; rcases List.mem_append.1 hx with h | h; exact hr x h; simp at h; subst h; exact hr0) (by rw [e0, List.length_append]; omega) hn
  rw [e1] at h1
  have hmm : m = recs.length := by
    rcases Nat.lt_trichotomy m recs.length with h | h | h
    · exfalso
      have h4 := h3 (by simp; omega)
      rw [List.take_append_of_le_length (by omega)] at h4
      have h5 : logB fr recs = logB fr (recs.take (m + 1)) ++ logB fr (recs.drop (m + 1)) := by rw [← logB_app, List.take_append_drop]
      rw [h5, List.length_append] at h4
      omega
    · exact h
    · exfalso
      rw [List.take_of_length_le (by simp; omega), e0, List.length_append] at h2
      omega
  subst hmm
  rw [List.take_left'] at h1
  · have : decide ((logB fr recs).length < (logB fr recs).length + i) = true := by simp; omega
    rw [this] at h1
    simpa using h1
  · rfl
end Go.Proofs.YtgpgkpciajajcaaGreatDoor

/- The frames of package codec are a framing. -/
namespace Go.Proofs.YtgpgkpciajajcaaGreatDoor
set_option linter.unusedVariables false

theorem uframe_cutAt (xs rec : List Int) (hr : rec.length ≤ 65536) (i : Nat) (hi : i < (frameR rec).length) : uframeR (xs ++ (frameR rec).take i) xs.length = ([], 0, 20) := by
  have h4 : (four (sumR rec)).length = 4 := rfl
  have hfl : (frameR rec).length = (enc rec.length).length + 4 + rec.length := by rw [frameR]; simp [h4]; omega
  have ef : frameR rec = enc rec.length ++ (four (sumR rec) ++ rec) := by rw [frameR]; simp
  by_cases h : i < (enc rec.length).length
  · have e1 : (frameR rec).take i = (enc rec.length).take i := by rw [ef, List.take_append_of_le_length (by omega)]
    have hu : uintR (xs ++ (frameR rec).take i) xs.length = (0, 0, 20) := by
      unfold uintR
      rw [if_neg (by simp; omega)]
      exact ud_cut _ _ 9 0 rec.length i 0 rfl (by omega) (by rw [e1]; simp) h (by simp; omega)
    unfold uframeR
    rw [hu]
    simp
  · have e1 : (frameR rec).take i = enc rec.length ++ (four (sumR rec) ++ rec).take (i - (enc rec.length).length) := by
      rw [ef, List.take_append]
      rw [List.take_of_length_le (by omega)]
    have hu := uintR_at xs ((four (sumR rec) ++ rec).take (i - (enc rec.length).length)) rec.length (by omega) (xs ++ (frameR rec).take i) (by rw [e1]) xs.length rfl
    unfold uframeR
    rw [hu]
    have hl : (xs ++ (frameR rec).take i).length = xs.length + i := by simp; omega
    simp only [ne_eq, not_true_eq_false, if_false, hl]
    rw [if_neg (by omega), if_pos (by simp; omega)]
/-- A record at a place, if one stands whole there. -/
def ufO (zs : List Int) (p : Nat) : Option (List Int × Nat) := if (uframeR zs p).2.2 = 0 then some ((uframeR zs p).1, (uframeR zs p).2.1.toNat) else none
theorem framing : Framing frameR ufO where
  pos r := by
    rw [frameR]
    have := enc_len_pos r.length
    simp; omega
  whole xs r ys hr := by
    unfold ufO
    rw [uframeR_at xs ys r hr _ rfl _ rfl]
    simp
    omega
  torn xs r i hr hi := by
    unfold ufO
    rw [uframe_cutAt xs r hr i hi]
    simp
end Go.Proofs.YtgpgkpciajajcaaGreatDoor

/- Package wal: the small calls: names of files, their numbers, what is thrown. -/
namespace Go.Proofs.YtgpgkpciajajcaaGreatDoor
open Go.RowKit Go.Maps Go.Sort
set_option linter.unusedVariables false
set_option maxRecDepth 20000

/-- The library's table of tens, which its numerals are made by. -/
def Tab (w : World) : Prop := Lib.TabIs Tryz.prog w "internal/strconv.uint64pow10" .u64 Lib.pow10Tab
theorem Tab.grown {w w' : World} (h : Tab w) (hg : w.grownBy w' none) : Tab w' := by
  unfold Tab Lib.TabIs World.var? at h ⊢
  cases hn : Tryz.prog.globalNamed "internal/strconv.uint64pow10" with
  | none => rw [hn] at h; cases h
  | some g =>
    rw [hn] at h
    simp only [Option.bind_some] at h ⊢
    have hlt : g < w.heap.size := by
      rcases Nat.lt_or_ge g w.heap.size with h1 | h1
      · exact h1
      · rw [Array.getElem?_eq_none h1] at h; cases h
    rw [hg.block g hlt (by simp)]
    exact h
theorem gb_grow (w : World) (k : Nat) (os : Array Obj) : w.grownBy (grow (w.drewN k) os) none := below_gb (Lib.below_grow _ w (Nat.le_refl _) k os)
theorem itoa_len {k : Nat} (hk : k < 100000000) : ((Lib.itoa (k : Int)).length ≤ 8) ∧ Lib.itoa (k : Int) = Lib.decDigits k ∧ (Lib.itoa (k : Int)).length = Lib.nDigits k := by
  have e : Lib.itoa (k : Int) = Lib.decDigits k := by
    unfold Lib.itoa
    rw [if_neg (by omega)]
    simp
  rw [e, Lib.decDigits_length]
  exact ⟨nDigits_le (by decide) (by simpa using hk), rfl, rfl⟩
theorem repeatL_one (c : Nat) : Lib.repeatL [48] c = List.replicate c 48 := by
  induction c with
  | zero => rfl
  | succ c ih => rw [Lib.repeatL, ih]; rfl
theorem ba_app (a b : ByteArray) : a ++ b = bN (a.data.toList ++ b.data.toList) := by
  apply ByteArray.ext
  rw [ByteArray.data_append]
  simp [bN]
theorem w_itoa (k : Nat) (hk : k < 100000000) (w : World) (ht : Tab w) : Calls Tryz.prog 164 #[.int .i64 (k : Int)] w fun e w' => e = .returned (.string (bN (Lib.decDigits k))) ∧ w.grownBy w' none := by
  refine (Tryz.strconv_Itoa (k : Int) (by omega) (by omega) w ht).mono ?_
  rintro e w' ⟨rfl, j, os, rfl⟩
  exact ⟨by rw [(itoa_len hk).2.1]; rfl, gb_grow w j os⟩
theorem w_zeros (c : Nat) (hc : c ≤ 8) (w : World) : Calls Tryz.prog 165 #[.string ⟨#[48]⟩, .int .i64 (c : Int)] w fun e w' => e = .returned (.string (bN (List.replicate c 48))) ∧ w.grownBy w' none := by
  refine (Tryz.strings_Repeat ⟨#[48]⟩ c w (by omega) (by show 1 * c ≤ _; omega)).mono ?_
  rintro e w' ⟨rfl, hb⟩
  refine ⟨?_, below_gb hb⟩
  rw [← repeatL_one]
  rfl
set_option maxHeartbeats 1000000 in
theorem w_eight (k : Nat) (hk : k < 100000000) (w : World) (ht : Tab w) : Calls Tryz.prog 138 #[.int .i64 (k : Int)] w fun e w' => e = .returned (.string (bN (d8 k))) ∧ w.grownBy w' none := by
  have hl := itoa_len hk
  have HI := w_itoa k hk w ht
  have hsz : ((bN (Lib.decDigits k)).size : Int) = (Lib.nDigits k : Int) := by rw [bN_size, Lib.decDigits_length]
  have hn8 : Lib.nDigits k ≤ 8 := by rw [← hl.2.2]; exact hl.1
  have hmax : (if (8 : Int) - ((bN (Lib.decDigits k)).size : Int) > 0 then (8 : Int) - ((bN (Lib.decDigits k)).size : Int) else 0) = ((8 - Lib.nDigits k : Nat) : Int) := by
    rw [hsz]; split <;> omega
  have HR : Hid (∀ w1 : World, Calls Tryz.prog 165 #[.string ⟨#[48]⟩, .int .i64 (((8 - Lib.nDigits k : Nat) : Int))] w1 fun e w' => e = .returned (.string (bN (List.replicate (8 - Lib.nDigits k) 48))) ∧ w1.grownBy w' none) := fun w1 => w_zeros _ (by omega) w1
  have HE : Hid (bN (List.replicate (8 - Lib.nDigits k) 48) ++ bN (Lib.decDigits k) = bN (d8 k)) := by
    show _ = _
    rw [ba_app, bN_list, bN_list, d8_pad hk]
  clear hl
  go_enter Tryz.func138, Tryz.ntmps138
  go_wp2_with fail
  refine HI.mono ?_
  rintro e w1 ⟨rfl, hg1⟩
  have HG1 : Hid (w.grownBy w1 none) := hg1
  clear hg1 HI
  go_wp2_with fail
  rw [show max 0 (8 - (Lib.nDigits k : Int)) = ((8 - Lib.nDigits k : Nat) : Int) by omega]
  refine (HR.out w1).mono ?_
  rintro e w2 ⟨rfl, hg2⟩
  have HG2 : Hid (w.grownBy w2 none) := HG1.out.trans hg2
  have q1 : ¬ (9223372036854775807 : Nat) < (bN (List.replicate (8 - Lib.nDigits k) 48)).size + (bN (Lib.decDigits k)).size := by rw [bN_size, bN_size, List.length_replicate, Lib.decDigits_length]; omega
  clear hg2
  go_wp2
  go_ret
  exact ⟨ret_str HE.out, HG2.out⟩
/-- A log's struct. -/
def WalF (d : Nat) (dir cp : ByteArray) (v : Value) (op : Int) : Nat → Value
  | 0 => .pointer (some ⟨d, 0, none⟩)
  | 1 => .string dir
  | 2 => .string cp
  | 3 => v
  | _ => .int .i64 op
abbrev WRow (w : World) (p d : Nat) (dir cp : ByteArray) (v : Value) (op : Int) : Prop := w.rowIs p 143 5 (WalF d dir cp v op)
theorem WRow.cells {w : World} {p d : Nat} {dir cp : ByteArray} {v : Value} {op : Int} (h : WRow w p d dir cp v op) :
    w.cell? ⟨p, 0, none⟩ = some (.pointer (some ⟨d, 0, none⟩)) ∧ w.cell? ⟨p, 1, none⟩ = some (.string dir) ∧ w.cell? ⟨p, 2, none⟩ = some (.string cp) ∧ w.cell? ⟨p, 3, none⟩ = some v ∧ w.cell? ⟨p, 4, none⟩ = some (.int .i64 op) :=
  ⟨h.cell (i := 0) (by omega), h.cell (i := 1) (by omega), h.cell (i := 2) (by omega), h.cell (i := 3) (by omega), h.cell (i := 4) (by omega)⟩
theorem five {P : Nat → Prop} (h0 : P 0) (h1 : P 1) (h2 : P 2) (h3 : P 3) (h4 : P 4) : ∀ j, j < 5 → P j := by
  intro j hj
  match j, hj with
  | 0, _ => exact h0
  | 1, _ => exact h1
  | 2, _ => exact h2
  | 3, _ => exact h3
  | 4, _ => exact h4
theorem WRow.kept {w w' : World} {p d : Nat} {dir cp : ByteArray} {v : Value} {op : Int} {row : Option Nat} (h : WRow w p d dir cp v op) (hg : w.grownBy w' row) (hne : some p ≠ row) : WRow w' p d dir cp v op := h.of_block (hg.block p h.lt hne)
theorem w_draft (p d : Nat) (dir cp : ByteArray) (v : Value) (op : Int) (w : World) (hds : dir.size ≤ 64) (h : WRow w p d dir cp v op) : Calls Tryz.prog 150 #[.pointer (some ⟨p, 0, none⟩)] w fun e w' => e = .returned (.string (newN dir)) ∧ w = w' := by
  obtain ⟨c0, c1, c2, c3, c4⟩ := h.cells
  have q1 : ¬ (9223372036854775807 : Nat) < dir.size + 4 := by omega
  clear h
  go_enter Tryz.func150, Tryz.ntmps150
  go_wp2
  go_ret
  exact ⟨ret_str (ba_app _ _), rfl⟩
theorem w_done0 (w : World) : Calls Tryz.prog 103 #[.int .i64 0] w fun e w' => e = .returned (.tuple #[]) ∧ w = w' := by
  go_enter Tryz.func103, Tryz.ntmps103
  go_wp2
  go_end0
  exact ⟨rfl, rfl⟩
theorem seg_eq (dir : ByteArray) (k : Nat) : dir ++ ⟨#[47, 115]⟩ ++ bN (d8 k) = segN dir k := by
  rw [ba_app, ba_app, bN_list, bN_list, segN, List.append_assoc]
theorem cp_eq (dir : ByteArray) (k : Nat) : dir ++ ⟨#[47, 99]⟩ ++ bN (d8 k) = cpN dir k := by
  rw [ba_app, ba_app, bN_list, bN_list, cpN, List.append_assoc]
set_option maxHeartbeats 4000000 in
theorem w_segment (p d : Nat) (dir cp : ByteArray) (v : Value) (op : Int) (k : Nat) (hk : k < 100000000) (w : World) (hds : dir.size ≤ 64) (ht : Tab w) (h : WRow w p d dir cp v op) : Calls Tryz.prog 105 #[.pointer (some ⟨p, 0, none⟩), .int .i64 (k : Int)] w fun e w' => e = .returned (.string (segN dir k)) ∧ w.grownBy w' none := by
  obtain ⟨c0, c1, c2, c3, c4⟩ := h.cells
  have HGD : Hid (w.grownBy w.drew none) := gb_drew (World.grownBy.refl _ _)
  have HT : Hid (Tab w.drew) := ht.grown HGD.out
  have HR : Hid (WRow w p d dir cp v op) := h
  have q1 : ¬ (9223372036854775807 : Nat) < dir.size + 2 := by omega
  have q2 : ¬ (9223372036854775807 : Nat) < dir.size + 2 + (bN (d8 k)).size := by rw [bN_size, d8_len]; omega
  clear h c0 c2 c3 c4
  go_enter Tryz.func105, Tryz.ntmps105
  go_wp2_with fail
  go_region_with (first
    | (go_at_call 138; refine (w_eight k hk _ ?_).mono ?_; exact HT.out; rintro e w' ⟨rfl, hg⟩; have HG : Hid (w.grownBy w' none) := HGD.out.trans hg; have c1' := (HR.out.kept HG.out (by simp)).cells.2.1; clear hg)
    | fail)
  all_goals go_wp2
  all_goals go_ret
  all_goals exact ⟨ret_str (seg_eq dir k), HG.out⟩
set_option maxHeartbeats 4000000 in
theorem w_cpoint (p d : Nat) (dir cp : ByteArray) (v : Value) (op : Int) (k : Nat) (hk : k < 100000000) (w : World) (hds : dir.size ≤ 64) (ht : Tab w) (h : WRow w p d dir cp v op) : Calls Tryz.prog 139 #[.pointer (some ⟨p, 0, none⟩), .int .i64 (k : Int)] w fun e w' => e = .returned (.string (cpN dir k)) ∧ w.grownBy w' none := by
  obtain ⟨c0, c1, c2, c3, c4⟩ := h.cells
  have HGD : Hid (w.grownBy w.drew none) := gb_drew (World.grownBy.refl _ _)
  have HT : Hid (Tab w.drew) := ht.grown HGD.out
  have HR : Hid (WRow w p d dir cp v op) := h
  have q1 : ¬ (9223372036854775807 : Nat) < dir.size + 2 := by omega
  have q2 : ¬ (9223372036854775807 : Nat) < dir.size + 2 + (bN (d8 k)).size := by rw [bN_size, d8_len]; omega
  clear h c0 c2 c3 c4
  go_enter Tryz.func139, Tryz.ntmps139
  go_wp2_with fail
  go_region_with (first
    | (go_at_call 138; refine (w_eight k hk _ ?_).mono ?_; exact HT.out; rintro e w' ⟨rfl, hg⟩; have HG : Hid (w.grownBy w' none) := HGD.out.trans hg; have c1' := (HR.out.kept HG.out (by simp)).cells.2.1; clear hg)
    | fail)
  all_goals go_wp2
  all_goals go_ret
  all_goals exact ⟨ret_str (cp_eq dir k), HG.out⟩
theorem w_parse (t : ByteArray) (k : Nat) (ht : t.data.toList = d8 k) (hk : k < 100000000) (w : World) : Calls Tryz.prog 187 #[.string t, .int .i64 10, .int .i64 32] w fun e w' => e = .returned (.tuple #[.int .u64 (k : Int), .nilIface]) ∧ w.grownBy w' none := by
  have hts : t.size = 8 := by
    have : t.data.toList.length = t.size := Array.length_toList
    rw [ht, d8_len] at this
    omega
  have HI := Tryz.internal_strconv_ParseUint_10_b32 t (by omega) (by omega) w
  rw [ht, d8_parse hk] at HI
  have HG : Hid (w.grownBy (Lib.bytesWorld w 5 t) none) := by
    show w.grownBy _ none
    exact ⟨rfl, rfl, rfl, by rw [Go.Lib.bytesWorld_size]; omega, fun k hk _ => Go.Lib.bytesWorld_at_old w 5 t k hk⟩
  clear ht
  go_enter Tryz.func187, Tryz.ntmps187
  go_wp2_with fail
  refine HI.mono ?_
  rintro e w1 ⟨rfl, rfl⟩
  rw [show Lib.uintTupleM 230 4294967295 (Lib.NumEnd.ok k) = .tuple #[.int .u64 (k : Int), .nilIface] from rfl]
  go_wp2
  go_ret2
  exact ⟨rfl, HG.out⟩
end Go.Proofs.YtgpgkpciajajcaaGreatDoor

/- The world of a row: what the listed variables give; a world in which they lie. -/
namespace Go.Proofs.YtgpgkpciajajcaaGreatDoor
open Go.ChangeShapes Go.WideShapes Go.ChangeAt Go.RowKit
set_option linter.unusedVariables false

theorem laid_tail {P : Program} {W : World} {x : String × DataW Unit} {rest : List (String × DataW Unit)} (h : laidMet P (x :: rest) W) : laidMet P rest W := by
  obtain ⟨ps, ⟨g, t, cs, fuel, p, q, h1, h2, h3, h4, h5, rfl⟩, hn, hb⟩ := h
  exact ⟨q, h5, (List.nodup_append.1 hn).2.1, fun b off hm => hb b off (List.mem_append_right _ hm)⟩
abbrev laidL : List (String × DataW Unit) := [("math/bits.deBruijn32tab", Rows.laid_math_bits_deBruijn32tab), ("math/bits.deBruijn64tab", Rows.laid_math_bits_deBruijn64tab), ("internal/strconv.uint64pow10", Rows.laid_internal_strconv_uint64pow10), ("strconv.ErrRange", Rows.laid_strconv_ErrRange), ("strconv.ErrSyntax", Rows.laid_strconv_ErrSyntax)]
theorem gPow : Tryz.prog.globalNamed "internal/strconv.uint64pow10" = some 0 := by kernel_rfl
theorem gPowT : (Tryz.prog.globals[0]?).map (·.type) = some 238 := by kernel_rfl
theorem cells214 : Tryz.prog.cellsOf 238 = 20 := by kernel_rfl
theorem cells63 : Tryz.prog.cellsOf 27 = 1 := by kernel_rfl
theorem tab_of {W : World} (h : laidMetH Tryz.prog laidL W) : Tab W := by
  have h' : laidMet Tryz.prog laidL W := h
  exact Lib.tabIs_of_head gPow gPowT Tryz.underlying238 Tryz.underlying27 cells63 cells214 (laid_tail (laid_tail h'))
def litV {H : Type} : DataW H → Value
  | .lit (.int k n) => .int k n
  | _ => undef
def cellsV {H : Type} : DataW H → Array Value
  | .agg l => (l.map litV).toArray
  | x => #[litV x]
def laidInto (c : Array Value) : Obj → Obj
  | .cells _ t frozen => .cells c t frozen
  | o => o
/-- A world in which the listed variables lie. -/
noncomputable def laidWorld (os : Os) : World :=
  let N := (World.settled Tryz.prog os).heap.size
  let w0 := World.holding Tryz.prog os ⟨#[.cells #[.string ⟨#[105, 110, 118, 97, 108, 105, 100, 32, 115, 121, 110, 116, 97, 120]⟩] 246, .cells #[.string ⟨#[118, 97, 108, 117, 101, 32, 111, 117, 116, 32, 111, 102, 32, 114, 97, 110, 103, 101]⟩] 246], #[], []⟩
  let h0 := w0.heap.modify 2 (laidInto #[.iface 244 (.pointer (some ⟨N, 0, none⟩))])
  let h1 := h0.modify 3 (laidInto #[.iface 244 (.pointer (some ⟨N + 1, 0, none⟩))])
  let h2 := h1.modify 0 (laidInto (cellsV (H := Unit) Rows.laid_internal_strconv_uint64pow10))
  let h3 := h2.modify 4 (laidInto (cellsV (H := Unit) Rows.laid_math_bits_deBruijn32tab))
  let h4 := h3.modify 5 (laidInto (cellsV (H := Unit) Rows.laid_math_bits_deBruijn64tab))
  { w0 with heap := h4 }
set_option maxRecDepth 100000 in
theorem laid_met (os : Os) (args : Array Value) : laidMet Tryz.prog laidL ((laidWorld os).forCall (fun _ _ => 0) ⟨#[], args, []⟩).memory :=
  laidMet_of_run' 8 (by kernel_rfl) (by kernel_rfl)
end Go.Proofs.YtgpgkpciajajcaaGreatDoor

