/- LexBlanks: the walk. (Printed by mk_wb.py.) -/
import Derived.Test.YtkocdmkojoefoaaBr
import Derived.Test.YtkocdmkojoefoaaWj
import Derived.Deep.CutRange
import Derived.Deep.Cut
import Derived.Deep.RegionHeld3
import Derived.Deep.RegionWith
import Derived.BigQuiet
namespace Go.Proofs.Ytkocdmkojoefoaa
open Go.RowKit
set_option linter.unusedVariables false
set_option maxRecDepth 20000

theorem and3 (x : Int) : ∃ k : Nat, k < 4 ∧ bits .and .u8 x 3 = (k : Int) := by
  have e : bits .and .u8 x 3 = IntKind.u8.wrap ((BitVec.ofInt 8 x &&& BitVec.ofInt 8 3).toNat : Int) := rfl
  have hb : (BitVec.ofInt 8 x &&& BitVec.ofInt 8 3).toNat ≤ 3 := by
    rw [BitVec.toNat_and]
    refine Nat.le_trans Nat.and_le_right ?_
    decide
  rw [e]
  generalize (BitVec.ofInt 8 x &&& BitVec.ofInt 8 3).toNat = t at *
  refine ⟨t, by omega, ?_⟩
  have : IntKind.u8.wrap (t : Int) = (t : Int) % 256 := by
    simp [IntKind.wrap, IntKind.bits, IntKind.signed]
  omega
theorem two_rd (X : World) (g : Int) (hg : 0 ≤ g ∧ g ≤ 255) : (convert 30 9 (.slice (some ⟨X.heap.size, 0, none⟩) 2 2)).run Try.prog (X.alloc (.cells #[.int .u8 g, .int .u8 32] 5)) = .ok (.string (strOfNums [g, 32])) (X.alloc (.cells #[.int .u8 g, .int .u8 32] 5)) :=
  conv_rd _ _ [g, 32] 2 2 (rd_lit X [g, 32] (by intro z hz; simp at hz; omega)) rfl
theorem two_rdD (X : World) (g : Int) (hg : 0 ≤ g ∧ g ≤ 255) : (convert 30 9 (.slice (some ⟨X.heap.size, 0, none⟩) 2 2)).run Try.prog (X.alloc (.cells #[.int .u8 g, .int .u8 32] 5)).drew = .ok (.string (strOfNums [g, 32])) (X.alloc (.cells #[.int .u8 g, .int .u8 32] 5)).drew :=
  conv_rd _ _ [g, 32] 2 2 (rd_lit X [g, 32] (by intro z hz; simp at hz; omega)) rfl
/-- Between two tokens: what is laid so far. -/
structure BlAt (L : List Int) (ts : List Tok) (i : Nat) (Q : ByteArray) : Prop where
  bld : ∃ V ss, sInts Q = 32 :: V ∧ Bld V ss ∧ ss = (ts.take i).map stp ∧ ∃ E : Nat, (∀ u, ts[i]? = some u → u.2.1 = (E : Int)) ∧ V.length ≤ E + 2 * i ∧ i ≤ E ∧ E ≤ L.length
theorem BlAt.next {L : List Int} {ts : List Tok} {i p n q : Nat} {kd sp c g : Int} {t Q : ByteArray} {u : Tok} (h : BlAt L ts i Q) (hL : ∀ z ∈ L, 0 ≤ z ∧ z ≤ 255) (hc : ChAt L ts i p n q kd sp c t u) (hg : blankB g = true) (hgb : 0 ≤ g ∧ g ≤ 255) : BlAt L ts (i + 1) (Q ++ strOfNums ((L.drop p).take n) ++ strOfNums [g, 32]) := by
  obtain ⟨V, ss, h1, h2, h3, E, h4, h5, h6, h7⟩ := h.bld
  obtain ⟨r1, r2, r3, _⟩ := hc.raw
  have hE := h4 _ hc.eq
  have hpe : E = p := by
    have : ((p : Nat) : Int) = (E : Int) := hE
    omega
  refine ⟨⟨V ++ ((L.drop p).take n ++ [g, 32]), ss ++ [(kd, t, sp)], ?_, h2.next hg r1 hc.ne r2 r3, ?_, q, ?_, ?_, ?_, hc.lq⟩⟩
  · rw [sInts_app, sInts_app, h1, sInts_str (fun z hz => hL z (List.mem_of_mem_drop (List.mem_of_mem_take hz))), sInts_str (by intro z hz; simp at hz; omega)]
    simp
  · rw [h3, List.take_add_one, hc.eq, Option.toList_some, List.map_append]
    rfl
  · intro v hv
    rw [hc.nx] at hv
    cases hv
    exact hc.uq
  · rw [List.length_append, List.length_append, r2]
    have := hc.le
    simp
    omega
  · have := hc.le
    have := hc.ne
    omega
theorem BlAt.size {L : List Int} {ts : List Tok} {i : Nat} {Q : ByteArray} (h : BlAt L ts i Q) (hL : L.length ≤ 800) : Q.size ≤ 2401 := by
  obtain ⟨V, ss, h1, _, _, E, _, h5, h6, h7⟩ := h.bld
  rw [← sInts_len, h1, List.length_cons]
  omega
theorem BlAt.done {s Q : ByteArray} {ts : List Tok} {i : Nat} (h : BlAt (sInts s) ts i Q) (hs : s.size ≤ 800) (hc : Ch (sInts s) ts) (hi : i + 1 = ts.length) : ∃ zs : List Tok, lexR Q = .ok zs ∧ zs.length = ts.length ∧ (∀ (j : Nat) (a b : Tok), zs[j]? = some a → ts[j]? = some b → a.1 = b.1 ∧ a.2.2 = b.2.2) ∧ ∀ a : Tok, zs[i]? = some a → a.2.1 = (Q.size : Int) := by
  have hq := h.size (by rw [sInts_len]; exact hs)
  obtain ⟨V, ss, h1, h2, h3, _⟩ := h.bld
  obtain ⟨zs, h4, h5⟩ := h2.done
  obtain ⟨us, hu⟩ := ch_last hc
  have hul : us.length = i := by rw [hu, List.length_append] at hi; simp at hi; omega
  have htk : ts.take i = us := by rw [hu, ← hul]; simp
  have hzl : zs.length = i := by
    have := congrArg List.length h5
    rw [List.length_map, h3, List.length_map, htk, hul] at this
    exact this
  have hVQ : V.length + 1 = Q.size := by rw [← sInts_len Q, h1]; rfl
  refine ⟨_, lexR_of h1 (by rw [← h1, sInts_len]; omega) h4, by rw [List.length_append, hzl, ← hi]; rfl, ?_, ?_⟩
  · intro j a b ha hb
    by_cases hj : j < i
    · rw [List.getElem?_append_left (by omega)] at ha
      rw [hu, List.getElem?_append_left (by omega)] at hb
      have e : (zs.map stp)[j]? = (us.map stp)[j]? := by rw [h5, h3, htk]
      rw [List.getElem?_map, List.getElem?_map, ha, hb] at e
      simp only [Option.map_some, Option.some.injEq] at e
      unfold stp at e
      simp only [Prod.mk.injEq] at e
      exact e
    · have hlt := (List.getElem?_eq_some_iff.1 hb).1
      have hje : j = i := by omega
      subst hje
      rw [List.getElem?_append_right (by omega), hzl, Nat.sub_self] at ha
      rw [hu, List.getElem?_append_right (by omega), hul, Nat.sub_self] at hb
      cases ha
      cases hb
      exact ⟨rfl, rfl⟩
  · intro a ha
    rw [List.getElem?_append_right (by omega), hzl, Nat.sub_self] at ha
    cases ha
    show ((V.length + 1 : Nat) : Int) = _
    rw [hVQ]
set_option maxHeartbeats 8000000 in
theorem blanks_walk (s : ByteArray) (a1 : Option Addr) (zs : List Int) (c1 : Nat) (w : World) (hr : Rd w a1 zs) (hnil : a1 = none → c1 = 0) (hz : zs.length ≤ 140737488351232) : Calls Try.prog 4 #[.string s, .slice a1 zs.length c1] w fun e w' => e = .returned (.bool true) ∧ w.grownBy w' none := by
  have HRD : Hid (Rd w a1 zs) := hr
  clear hr hnil
  cases hR : lexR s with
  | bad p c =>
    have hc := lexR_code hR
    have q1 : (c == 0) = false := by simpa using hc
    have q2 : (c != 0) = true := by simpa using hc
    have L1 := hid (lex_bad hR)
    generalize zs.length = L at hz ⊢
    clear hR hc HRD
    go_enter Try.func4, Try.ntmps4
    go_wp2_with fail
    refine (L1.out _).mono ?_
    rintro e w1 ⟨rfl, hg1⟩
    have G1 := hid hg1
    clear hg1 L1
    go_wp2_with fail
    refine (f_awake _).mono ?_
    rintro e w3 ⟨rfl, hg3⟩
    have G3 := hid (G1.out.trans hg3)
    clear hg3 G1
    go_wp2
    go_ret
    exact ⟨rfl, G3.out⟩
  | ok ts =>
    obtain ⟨hl1, hl2, hl3⟩ := lexR_len hR
    have hat := lexR_at hR
    have HCH : Hid (Ch (sInts s) ts) := lexR_ch hR
    have L1 := hid (lex_ok hR (ne_len hl1))
    have HTL : Hid (ts.length = ts.length) := rfl
    unfold OkOut at L1
    have HLZ : Hid (zs.length = zs.length) := rfl
    generalize hLz : zs.length = L at hz HLZ ⊢
    have HLZ2 : Hid (zs.length = L) := hLz
    clear hR hLz HLZ
    generalize hm : ts.length = m at L1 hl1 hl2 HTL
    have HM : Hid (ts.length = m) := hm
    clear hm HTL
    have q3 : (m == 0) = false := by simp; omega
    have q4 : ((m : Int) == 0) = false := by simp; omega
    have q5 : decide ((0 : Int) < (m : Int)) = true := by simp; omega
    have q5' : (0 : Int) < (m : Int) := by omega
    by_cases h800 : 800 < s.size
    · have q6 : decide ((800 : Int) < (s.size : Int)) = true := by simp; omega
      have q6' : (800 : Int) < (s.size : Int) := by omega
      clear HRD HCH hat h800
      go_enter Try.func4, Try.ntmps4
      go_wp2_with fail
      refine (L1.out _).mono ?_
      rintro e w1 ⟨gx, cx, rfl, hox, hg1⟩
      have G1 := hid hg1
      clear hg1 hox L1
      go_wp2_with fail
      refine (f_awake _).mono ?_
      rintro e w3 ⟨rfl, hg3⟩
      have G3 := hid (G1.out.trans hg3)
      clear hg3 G1
      go_wp2
      go_ret
      exact ⟨rfl, G3.out⟩
    · have q6 : decide ((800 : Int) < (s.size : Int)) = false := by simp; omega
      have q6' : ¬ (800 : Int) < (s.size : Int) := by omega
      have HAT : Hid (∀ t ∈ ts, 0 ≤ t.2.1 ∧ t.2.1 ≤ (s.size : Int)) := hat
      have HSL : Hid ((sInts s).length ≤ 800) := by show _ ≤ _; rw [sInts_len]; omega
      have HB0 : Hid (BlAt (sInts s) ts 0 ⟨#[32]⟩) := by
        refine ⟨⟨[], [], rfl, Bld.nil, rfl, ?_⟩⟩
        cases hu : ts[0]? with
        | none => exact ⟨0, (fun u h => by cases h), Nat.le_refl _, Nat.le_refl _, Nat.zero_le _⟩
        | some u =>
          have h1 := hat u (List.mem_of_getElem? hu)
          refine ⟨u.2.1.toNat, fun v hv => ?_, by simp, by simp, by rw [sInts_len]; omega⟩
          cases hv
          omega
      clear hat
      go_enter Try.func4, Try.ntmps4
      go_wp2_with fail
      refine (L1.out _).mono ?_
      rintro e w1 ⟨gx, cx, rfl, hox, hg1⟩
      have G1 := hid hg1
      have OX1 := hid (SOwn.rd hox)
      have HR1 := hid (HRD.out.grown hg1 (by simp))
      clear hg1 hox L1 HRD
      go_wp2
      go_loopw [8, 9] (fun t8 t9 wr => ∃ (i : Nat) (Q : ByteArray), i + 1 ≤ m ∧ t9 = .int .i64 (i : Int) ∧ t8 = .string Q ∧ BlAt (sInts s) ts i Q ∧ w.grownBy wr none ∧ SRd tokE wr (some ⟨gx, 0, none⟩) ts ∧ Rd wr a1 zs) (fun _ t9 _ => m - (intOf t9).toNat)
      case atStart => exact ⟨0, _, hl1, rfl, rfl, HB0.out, G1.out, OX1.out, HR1.out⟩
      case round =>
        obtain ⟨i, Q, hi, rfl, rfl, hbl, hg, hox, hrd⟩ := hrel
        have BL := hid hbl
        have G := hid hg
        have OX := hid hox
        have HR := hid hrd
        have hqs := hbl.size HSL.out
        clear hbl hg hox hrd G1 OX1 HR1 HB0
        by_cases hlt : i + 1 < m
        · have hii : (i : Int) + 1 < (m : Int) := by omega
          have hii2 : (i : Int) < (m : Int) := by omega
          obtain ⟨p, n, q, kd, sp, c, t, u, hc⟩ := ch_at HCH.out i (by rw [HM.out]; exact hlt)
          have HC := hid hc
          obtain ⟨x0, x1, x2, x3⟩ := tok_cells OX.out hc.eq
          obtain ⟨y0, y1, y2, y3⟩ := tok_cells OX.out hc.nx
          rw [hc.uq] at y1
          have hpq : p ≤ q := by have := hc.le; omega
          have hqs2 : q ≤ s.size := by have := hc.lq; rw [sInts_len] at this; exact this
          have d1 : decide ((q : Int) < (p : Int)) = false := by simp; omega
          have d2 : decide ((s.size : Int) < (q : Int)) = false := by simp; omega
          have d3 : decide (q < p) = false := by simp; omega
          have d4 : decide (s.size < q) = false := by simp; omega
          have d5 : ¬ (q : Int) < (p : Int) := by omega
          have d6 : ¬ (s.size : Int) < (q : Int) := by omega
          simp only [Nat.zero_add] at x1 y1
          have HRW : Hid (∀ u, SRd tokE u (some ⟨gx, 0, none⟩) ts → Calls Try.prog 13 #[.string s, .slice (some ⟨gx, 0, none⟩) m cx, .int .i64 (i : Int)] u fun e w' => e = .returned (.string (strOfNums (((sInts s).drop p).take n))) ∧ u = w') := fun u hu => r_raw s ts gx m cx i p n q kd sp c t _ u (by omega) hu HM.out hlt hl2 hc
          have hrs : (strOfNums (((sInts s).drop p).take n)).size ≤ 800 := by rw [strOfNums_size, List.length_take, List.length_drop]; have := HSL.out; omega
          have HNX : Hid (∀ g, blankB g = true → 0 ≤ g ∧ g ≤ 255 → BlAt (sInts s) ts (i + 1) (Q ++ strOfNums (((sInts s).drop p).take n) ++ strOfNums [g, 32])) := fun g h1 h2 => BL.out.next (fun z hz => sInts_byte s z hz) hc h1 h2
          generalize strOfNums (((sInts s).drop p).take n) = RW at HRW hrs HNX
          clear x0 x2 x3 y0 y2 y3 hc
          go_wp2_with fail
          go_quiet (fail)
          clear x1 y1 d1 d2 d3 d4 d5 d6
          have GQ := hid (gb_drewR G.out nq)
          have OXQ : Hid (SRd tokE (wr.drewN nq) (some ⟨gx, 0, none⟩) ts) := OX.out
          have HRQ : Hid (Rd (wr.drewN nq) a1 zs) := HR.out
          clear G OX HR
          generalize wr.drewN nq = V at GQ OXQ HRQ ⊢
          by_cases hiL : i < L
          · have hil : (i : Int) < (L : Int) := by omega
            have GW := hid (GQ.out.trans (World.grownBy_alloc V (.cells #[.int .u8 32, .int .u8 9, .int .u8 13, .int .u8 10] 5) none))
            have OXW := hid (OXQ.out.grown (World.grownBy_alloc V (.cells #[.int .u8 32, .int .u8 9, .int .u8 13, .int .u8 10] 5) none) (by simp))
            have HRdW := hid (HRQ.out.grown (World.grownBy_alloc V (.cells #[.int .u8 32, .int .u8 9, .int .u8 13, .int .u8 10] 5) none) (by simp))
            obtain ⟨bb, off, rfl, hcell⟩ := HRdW.out.at (by rw [HLZ2.out]; omega)
            have b0 := hcell i (by rw [HLZ2.out]; exact hiL)
            have hzb := HRdW.out.byte i
            generalize zs.getD i 0 = zi at b0 hzb
            clear hcell
            obtain ⟨k4, hk4, ek⟩ := and3 zi
            obtain ⟨g, nk, hgb0, hgr⟩ : ∃ g, (V.alloc (.cells #[.int .u8 32, .int .u8 9, .int .u8 13, .int .u8 10] 5)).cell? ⟨V.heap.size, k4, none⟩ = some (.int .u8 g) ∧ blankB g = true ∧ (0 ≤ g ∧ g ≤ 255) := by
              have hk : k4 = 0 ∨ k4 = 1 ∨ k4 = 2 ∨ k4 = 3 := by omega
              rcases hk with rfl | rfl | rfl | rfl
              · exact ⟨32, by rw [cell_of_row _ V.heap.size _ _ _ _ (heap_alloc_new V _)]; rfl, by decide, by decide⟩
              · exact ⟨9, by rw [cell_of_row _ V.heap.size _ _ _ _ (heap_alloc_new V _)]; rfl, by decide, by decide⟩
              · exact ⟨13, by rw [cell_of_row _ V.heap.size _ _ _ _ (heap_alloc_new V _)]; rfl, by decide, by decide⟩
              · exact ⟨10, by rw [cell_of_row _ V.heap.size _ _ _ _ (heap_alloc_new V _)]; rfl, by decide, by decide⟩
            have hgb := hid hgb0
            have hk4i : (k4 : Int) < 4 := by omega
            clear GQ OXQ HRQ hgb0
            go_upto_region 13 with fail
            generalize V.alloc (.cells #[.int .u8 32, .int .u8 9, .int .u8 13, .int .u8 10] 5) = W at GW OXW HRdW ⊢
            clear b0 ek nk
            have hcv := two_rdD W g hgr
            have hg2 : (strOfNums [g, 32]).size = 2 := strOfNums_size _
            have HNG := hid (HNX.out g hgb.out hgr)
            generalize strOfNums [g, 32] = S2 at hcv hg2 HNG
            have GD : Hid (w.grownBy ((W.alloc (.cells #[.int .u8 g, .int .u8 32] 5)).drew) none) := gb_drew (GW.out.trans (World.grownBy_alloc _ _ none))
            have OXD : Hid (SRd tokE (W.drew) (some ⟨gx, 0, none⟩) ts) := OXW.out
            have OXE : Hid (SRd tokE ((W.alloc (.cells #[.int .u8 g, .int .u8 32] 5)).drew) (some ⟨gx, 0, none⟩) ts) := OXW.out.grown (gb_drew (World.grownBy_alloc _ _ none)) (by simp)
            have HRE : Hid (Rd ((W.alloc (.cells #[.int .u8 g, .int .u8 32] 5)).drew) (some ⟨bb, off, none⟩) zs) := HRdW.out.grown (gb_drew (World.grownBy_alloc _ _ none)) (by simp)
            go_region_with (first | (go_at_call 13; refine (HRW.out _ ?h1).mono ?_; (case h1 => first | exact OXE.out | exact OXD.out); rintro e w9 ⟨rfl, rfl⟩))
            all_goals go_wp2
            all_goals go_roundw
            all_goals first
              | exact ⟨i + 1, _, by omega, by go_num, rfl, HNG.out, GD.out, OXE.out, HRE.out⟩
              | (simp [intOf]; omega)
          · have hil : ¬ (i : Int) < (L : Int) := by omega
            have GW := GQ
            have OXW := OXQ
            have HRdW := HRQ
            clear GQ OXQ HRQ
            go_upto_region 13 with fail
            have hcv := two_rdD V 32 (by decide)
            have hg2 : (strOfNums [32, 32]).size = 2 := strOfNums_size _
            have HNG := hid (HNX.out 32 (by decide) (by decide))
            generalize strOfNums [32, 32] = S2 at hcv hg2 HNG
            have GD : Hid (w.grownBy ((V.alloc (.cells #[.int .u8 32, .int .u8 32] 5)).drew) none) := gb_drew (GW.out.trans (World.grownBy_alloc _ _ none))
            have OXD : Hid (SRd tokE (V.drew) (some ⟨gx, 0, none⟩) ts) := OXW.out
            have OXE : Hid (SRd tokE ((V.alloc (.cells #[.int .u8 32, .int .u8 32] 5)).drew) (some ⟨gx, 0, none⟩) ts) := OXW.out.grown (gb_drew (World.grownBy_alloc _ _ none)) (by simp)
            have HRE : Hid (Rd ((V.alloc (.cells #[.int .u8 32, .int .u8 32] 5)).drew) a1 zs) := HRdW.out.grown (gb_drew (World.grownBy_alloc _ _ none)) (by simp)
            go_region_with (first | (go_at_call 13; refine (HRW.out _ ?h1).mono ?_; (case h1 => first | exact OXE.out | exact OXD.out); rintro e w9 ⟨rfl, rfl⟩))
            all_goals go_wp2
            all_goals go_roundw
            all_goals first
              | exact ⟨i + 1, _, by omega, by go_num, rfl, HNG.out, GD.out, OXE.out, HRE.out⟩
              | (simp [intOf]; omega)
        · have hii : ¬ (i : Int) + 1 < (m : Int) := by omega
          have hmi : i + 1 = m := by omega
          obtain ⟨zt, hz1, hz2, hz3, hz4⟩ := BL.out.done (by omega) HCH.out (by rw [HM.out]; exact hmi)
          have HZ3 := hid hz3
          have hz2m : zt.length = m := by rw [hz2, HM.out]
          have HZL : Hid (zt.length = m) := hz2m
          obtain ⟨zl, hzl⟩ : ∃ q, zt[i]? = some q := ⟨_, List.getElem?_eq_getElem (by omega)⟩
          have hzat := hz4 _ hzl
          have L3 := hid (lex_ok hz1 (ne_len (by omega)))
          unfold OkOut at L3
          rw [hz2m] at L3
          have HZE : Hid (zt[i]? = some zl) := hzl
          clear hz1 hz2 hz3 hz4 hz2m hzl BL
          have e1 : (m : Int) - 1 = (i : Int) := by omega
          have e2 : IntKind.i64.wrap ((m : Int) - 1) = (i : Int) := by rw [← wrap64_is, IntWalk.wrap64_in _ (by omega)]; omega
          have him : (i : Int) < (m : Int) := by omega
          clear hlt hmi
          go_wp2_with fail
          refine (L3.out _).mono ?_
          rintro e w2 ⟨gz, cz, rfl, hoz, hg2⟩
          have OZ2 := hid (SOwn.rd hoz)
          have G2 := hid (G.out.trans hg2)
          have OX2 := hid (OX.out.grown hg2 (by simp))
          obtain ⟨y0, y1, y2, y3⟩ := tok_cells OZ2.out HZE.out
          rw [hzat] at y1
          simp only [Nat.zero_add] at y1
          clear hoz hg2 L3 G OX HR y0 y2 y3 hzat
          go_wp2_with fail
          clear y1
          go_loopw [14] (fun t14 wr => ∃ j : Nat, j ≤ m ∧ t14 = .int .i64 (j : Int) ∧ w.grownBy wr none ∧ SRd tokE wr (some ⟨gx, 0, none⟩) ts ∧ SRd tokE wr (some ⟨gz, 0, none⟩) zt) (fun t14 _ => m - (intOf t14).toNat)
          case atStart => exact ⟨0, Nat.zero_le _, rfl, G2.out, OX2.out, OZ2.out⟩
          case round =>
            obtain ⟨j, hj, rfl, hg, hox, hoz⟩ := hrel
            have G := hid hg
            have OX := hid hox
            have OZ := hid hoz
            clear hg hox hoz G2 OX2 OZ2 him e1 e2 hii
            by_cases hlt : j < m
            · have hii : (j : Int) < (m : Int) := by omega
              obtain ⟨⟨kd, p, t, sp⟩, eq⟩ : ∃ q, ts[j]? = some q := ⟨_, List.getElem?_eq_getElem (by rw [HM.out]; exact hlt)⟩
              obtain ⟨⟨kd', p', t', sp'⟩, ez⟩ : ∃ q, zt[j]? = some q := ⟨_, List.getElem?_eq_getElem (by rw [HZL.out]; exact hlt)⟩
              have h3 := HZ3.out j _ _ ez eq
              obtain ⟨h4, h5⟩ := h3
              have h6 : t' = t := congrArg Prod.fst h5
              have h7 : sp' = sp := congrArg Prod.snd h5
              have h4' : kd' = kd := h4
              subst h4' h6 h7
              obtain ⟨y0, y1, y2, y3⟩ := tok_cells OX.out eq
              obtain ⟨z0, z1, z2, z3⟩ := tok_cells OZ.out ez
              simp only [Nat.zero_add] at y0 y2 y3 z0 z2 z3
              have k1 : (kd' != kd') = false := by simp
              have k2 : (sp' != sp') = false := by simp
              have k3 : (t'.toList != t'.toList) = false := by simp
              clear y1 z1 eq ez h4 h5
              go_wp2_with fail
              go_quiet (fail)
              go_wp2
              go_roundw
              case rel => exact ⟨j + 1, by omega, by go_num, gb_drewR G.out _, OX.out, OZ.out⟩
              case measure => simp [intOf]; omega
            · have hii : ¬ (j : Int) < (m : Int) := by omega
              clear OX OZ
              go_wp2_with fail
              refine (f_awake _).mono ?_
              rintro e w9 ⟨rfl, hg9⟩
              have G9 := hid (G.out.trans hg9)
              clear hg9 G
              go_wp2
              go_ret
              exact ⟨rfl, G9.out⟩
end Go.Proofs.Ytkocdmkojoefoaa
