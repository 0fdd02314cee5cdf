/- HeadLimits. -/
import Derived.Test.YtpabbmiibehfjaaGreatDoorGu
namespace Go.Proofs.YtpabbmiibehfjaaGreatDoor
open Go.RowKit Go.Maps
set_option linter.unusedVariables false
set_option maxRecDepth 20000

/-- A head that the law made, k samples on. -/
structure RunAt (w wr : World) (hb lim N P : Nat) (S : List Ser) (B : Nat → Prop) : Prop where
  head : HeadAt wr w.heap.size hb lim N P S B
  grown : w.grownBy wr none
theorem RunAt.grew {w wr w' : World} {hb lim N P : Nat} {S : List Ser} {B : Nat → Prop} (h : RunAt w wr hb lim N P S B) (hg : wr.grownBy w' none) : RunAt w w' hb lim N P S B := ⟨h.head.kept hg, h.grown.trans hg⟩
theorem RunAt.step {w wr w' : World} {hb lim N P N' P' : Nat} {S S' : List Ser} {B B' : Nat → Prop} (h : RunAt w wr hb lim N P S B) (hs : Step wr w' B B') (hh : HeadAt w' w.heap.size hb lim N' P' S' B') : RunAt w w' hb lim N' P' S' B' :=
  ⟨hh, ((Kept.of (X := fun k => w.heap.size ≤ k) h.grown (by simp)).trans hs.1 (fun k _ hb => (h.head.blocks k hb).1)).grown (fun k hk h => by omega)⟩
theorem len_le {w wr : World} {hb lim N P : Nat} {S : List Ser} {B : Nat → Prop} (h : RunAt w wr hb lim N P S B) : S.length ≤ lim := h.head.good.2.1
theorem lit_new (w : World) : SRd labE (w.alloc (.cells #[.string ⟨#[110, 101, 119]⟩, .string ⟨#[120]⟩] 62)) (some ⟨w.heap.size, 0, none⟩) lNew := srd_lit labE 62 w lNew
set_option maxHeartbeats 4000000 in
theorem limits_walk (x : Int) (a : Option Addr) (raw : List (Sv × Int × Int)) (Q : List Smp) (c : Nat) (w : World) (hq : SmpRd w a raw Q) (hz : Q.length ≤ 3518437208882) :
    Calls Tryz.prog 7 #[.int .i64 x, .slice a Q.length c] w fun e w' => e = .returned (.bool true) ∧ w.grownBy w' none := by
  have HQ : Hid (SmpRd w a raw Q) := hq
  have HLow : Hid (Calls Tryz.prog 21 #[.int .i64 x] w fun e w' => ∃ r, e = .returned (.int .i64 r) ∧ 0 ≤ r ∧ r ≤ 9223372036854775807 ∧ w = w') := Low_any x w
  obtain ⟨M, eM⟩ : ∃ M, M = Q.length := ⟨_, rfl⟩
  have EM : Hid (M = Q.length) := eM
  rw [← eM] at hz ⊢
  clear hq eM
  go_enter Tryz.func7, Tryz.ntmps7
  go_wp2_with fail
  refine HLow.out.mono ?_
  rintro e w1 ⟨r, rfl, hr1, hr2, rfl⟩
  have hm : r.tmod 5 = r % 5 := Int.tmod_eq_emod_of_nonneg hr1
  obtain ⟨lim, hlim⟩ : ∃ lim : Nat, r % 5 = (lim : Int) := ⟨(r % 5).toNat, by omega⟩
  have hl5 : lim ≤ 4 := by omega
  rw [hlim] at hm
  have HN : Hid (Calls Tryz.prog 8 #[.int .i64 lim] w fun e w' => ∃ hb B, e = .returned (.pointer (some ⟨hb, 0, none⟩)) ∧ HeadAt w' w.heap.size hb lim 0 0 [] B ∧ w.grownBy w' none) := by
    refine (h_new w.heap.size lim w (Nat.le_refl _)).mono ?_
    rintro e w' ⟨hb, B, rfl, hh, hg, _⟩
    rw [limR_small rfl (by omega)] at hh
    exact ⟨hb, B, rfl, hh, hg⟩
  clear hlim HLow
  go_wp2_with fail
  refine HN.out.mono ?_
  rintro e w1 ⟨hb, B, rfl, hh, hg⟩
  have HR0 : Hid (RunAt w w1 hb lim (20 * 0) 0 (runS lim (Q.take 0)) B) := ⟨hh, hg⟩
  clear hh hg HN hm hr1 hr2
  go_wp2
  go_loopw [7] (fun i wr => ∃ (k : Nat) (B : Nat → Prop), k ≤ M ∧ i = .int .i64 k ∧ RunAt w wr hb lim (20 * k) k (runS lim (Q.take k)) B) (fun i _ => M - (intOf i).toNat)
  case atStart => exact ⟨0, B, Nat.zero_le _, rfl, HR0.out⟩
  case round =>
    obtain ⟨k, Bk, hk, rfl, hrun⟩ := hrel
    have HR : Hid (RunAt w wr hb lim (20 * k) k (runS lim (Q.take k)) Bk) := hrun
    clear hrun
    by_cases hlt : k < M
    · have hi : (k : Int) < (M : Int) := by omega
      obtain ⟨⟨ls, T, V⟩, hs⟩ : ∃ s, Q[k]? = some s := ⟨_, List.getElem?_eq_getElem (by have := EM.out; omega)⟩
      obtain ⟨b, off, la, lc, rfl, c0, c1, c2, hrd, hnil, hzl⟩ := smp_cells (HQ.out.grown HR.out.grown) hs
      have HADD : Hid (Calls Tryz.prog 15 #[.pointer (some ⟨hb, 0, none⟩), .agg #[.slice la ls.length lc, .int .i64 T, .int .u64 V]] wr (AddOut wr w.heap.size hb lim (20 * k) k (runS lim (Q.take k)) Bk ls T V)) := h_add w.heap.size hb lim (20 * k) k _ Bk la _ lc ls T V wr HR.out.head hrd rfl hzl hnil (by omega) (by omega)
      have HNX : Hid (runS lim (Q.take (k + 1)) = addR lim (runS lim (Q.take k)) ls T V) := runS_next hs
      have HF5 : Hid (fateR lim (runS lim (Q.take k)) ls T V = 5 → (runS lim (Q.take (k + 1))).length = lim) := fun h => by rw [HNX.out]; exact fate_five h
      generalize ls.length = LL at c0 HADD
      clear hs hrd hnil hzl
      go_wp2_with fail
      refine HADD.out.mono ?_
      rintro e w2 ⟨rfl, B2, hh, hst⟩
      rw [← HNX.out] at hh
      have HR2 : Hid (RunAt w w2 hb lim (20 * k + 20) (k + 1) (runS lim (Q.take (k + 1))) B2) := HR.out.step hst hh
      have HCN : Hid (Calls Tryz.prog 16 #[.pointer (some ⟨hb, 0, none⟩)] w2 fun e w' => e = .returned (.tuple #[.int .i64 (runS lim (Q.take (k + 1))).length, .int .i64 (ptsN (runS lim (Q.take (k + 1))))]) ∧ w2 = w') := h_count w.heap.size hb lim _ _ _ B2 w2 hh (by omega)
      have hle : (runS lim (Q.take (k + 1))).length ≤ lim := len_le HR2.out
      clear hh hst HADD HR
      generalize fateR lim (runS lim (Q.take k)) ls T V = F at HF5 ⊢
      generalize ptsN (runS lim (Q.take (k + 1))) = pn at HCN
      generalize (runS lim (Q.take (k + 1))).length = sn at HCN hle HF5
      have hg1 : ¬ (lim : Int) < (sn : Int) := by omega
      by_cases hF : F = 5
      · subst hF
        have hsn : sn = lim := HF5.out rfl
        subst hsn
        go_wp2_with fail
        refine HCN.out.mono ?_
        rintro e w3 ⟨rfl, rfl⟩
        go_wp2
        go_roundw
        case rel => exact ⟨k + 1, B2, by omega, by go_num, HR2.out⟩
        case measure => simp [intOf]; omega
      · go_wp2_with fail
        refine HCN.out.mono ?_
        rintro e w3 ⟨rfl, rfl⟩
        go_wp2
        go_roundw
        case rel => exact ⟨k + 1, B2, by omega, by go_num, HR2.out⟩
        case measure => simp [intOf]; omega
    · obtain rfl : k = M := by omega
      have hi : ¬ (k : Int) < (k : Int) := by omega
      have hgood := HR.out.head.good.1
      have HCUT : Hid (Calls Tryz.prog 18 #[.pointer (some ⟨hb, 0, none⟩), .int .i64 1099511627777] wr (CutOut wr w.heap.size hb lim (20 * k) k (runS lim (Q.take k)) Bk 1099511627777)) := h_cut w.heap.size hb lim _ _ _ Bk 1099511627777 wr HR.out.head (by omega) (by omega)
      have HGH : Hid (keepS (highT 1099511627777) (runS lim (Q.take k)) = []) := good_high hgood
      clear hgood
      go_wp2_with fail
      refine HCUT.out.mono ?_
      rintro e w2 ⟨v, X, B2, rfl, ho, hh, hst, _⟩
      rw [HGH.out] at hh
      have HR2 : Hid (RunAt w w2 hb lim (20 * k + 20000) k [] B2) := HR.out.step hst hh
      obtain ⟨va, vc, vraw, rfl, _⟩ := ho.read
      clear hh hst ho HR HCUT
      go_wp2_with fail
      refine (h_count w.heap.size hb lim _ _ [] B2 w2 HR2.out.head (by omega)).mono ?_
      rintro e w3 ⟨rfl, rfl⟩
      rw [show ptsN [] = 0 from rfl, show ([] : List Ser).length = 0 from rfl]
      go_wp2_with fail
      refine (h_span w.heap.size hb lim _ _ [] B2 w2 HR2.out.head (by omega)).mono ?_
      rintro e w3 ⟨he, hg⟩
      rw [if_pos rfl, if_pos rfl, decide_eq_false (by simp)] at he
      subst he
      have HR3 : Hid (RunAt w w3 hb lim (20 * k + 20000) k [] B2) := HR2.out.grew hg
      clear hg HR2
      have HR4 : Hid (RunAt w (w3.alloc (.cells #[.string ⟨#[110, 101, 119]⟩, .string ⟨#[120]⟩] 62)) hb lim (20 * k + 20000) k [] B2) := HR3.out.grew (World.grownBy_alloc w3 _ none)
      have HLT : Hid (SRd labE (w3.alloc (.cells #[.string ⟨#[110, 101, 119]⟩, .string ⟨#[120]⟩] 62)) (some ⟨w3.heap.size, 0, none⟩) lNew) := lit_new w3
      clear HR3
      go_wp2_with fail
      generalize w3.alloc (.cells #[.string ⟨#[110, 101, 119]⟩, .string ⟨#[120]⟩] 62) = w4 at HR4 HLT ⊢
      generalize w3.heap.size = lb at HLT ⊢
      refine (h_add w.heap.size hb lim (20 * k + 20000) k [] B2 (some ⟨lb, 0, none⟩) 1 1 lNew 1 0 w4 HR4.out.head HLT.out rfl (by decide) (by simp) (by omega) (by omega)).mono ?_
      rintro e w5 ⟨he, B3, hh, hst⟩
      rw [fate_new] at he
      have HR5 : Hid (RunAt w w5 hb lim (20 * k + 20000 + 20) (k + 1) (addR lim [] lNew 1 0) B3) := HR4.out.step hst hh
      clear hh hst HR4 HLT
      by_cases h0 : lim = 0
      · subst h0
        rw [if_pos rfl] at he
        subst he
        go_wp2_with fail
        refine (h_awake w5).mono ?_
        rintro e w6 ⟨rfl, hg⟩
        have HG : Hid (w.grownBy w6 none) := HR5.out.grown.trans hg
        clear hg
        go_wp2
        go_ret
        exact ⟨rfl, HG.out⟩
      · rw [if_neg h0] at he
        subst he
        have h1 : (0 : Int) < (lim : Int) := by omega
        have h2 : ¬ (lim : Int) = 0 := by omega
        go_wp2_with fail
        refine (h_awake w5).mono ?_
        rintro e w6 ⟨rfl, hg⟩
        have HG : Hid (w.grownBy w6 none) := HR5.out.grown.trans hg
        clear hg
        go_wp2
        go_ret
        exact ⟨rfl, HG.out⟩
end Go.Proofs.YtpabbmiibehfjaaGreatDoor
