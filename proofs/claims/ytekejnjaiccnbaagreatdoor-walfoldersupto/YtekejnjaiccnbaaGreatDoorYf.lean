/- WalTorn: the walk. -/
import Derived.Test.YtekejnjaiccnbaaGreatDoorNc
namespace Go.Proofs.YtekejnjaiccnbaaGreatDoor
open Go.RowKit Go.Maps Go.Sort
set_option linter.unusedVariables false
set_option maxRecDepth 20000

theorem lit_own (w : World) (z : Int) (hz : 0 ≤ z ∧ z ≤ 255) : SOwn byteE 5 (w.alloc (.cells #[.int .u8 z] 5)) w.heap.size (.slice (some ⟨w.heap.size, 0, none⟩) 1 1) 1 [z] := by
  have h := (Own.ofBlock (base := w.heap.size) (g := w.heap.size) (n := 1) (zs := [z]) (w := w.alloc (.cells #[.int .u8 z] 5)) (heap_alloc_new w _) (Nat.le_refl _) rfl (by decide) (fun y hy => by simp at hy; subst hy; exact hz)).1
  exact h
theorem RecsIn.reads {W w : World} {a : Option Addr} {ts : List Sl} {recs : List (List Int)} (h : RecsIn W a ts recs) (hg : W.grownBy w none) : Reads w a ts recs :=
  ⟨h.rd.grown hg (by simp), h.len, fun i t r ht hr => ⟨(h.at_ i t r ht hr).1, (h.at_ i t r ht hr).2.1.grown hg (by simp), by have := (h.at_ i t r ht hr).2.2.2; omega⟩⟩
theorem l_same (a b : Option Addr) (ts us : List Sl) (xs : List (List Int)) (n c d : Nat) (w : World) (hx : Reads w a ts xs) (hy : Reads w b us xs) (hn : xs.length = n) (hn4 : n ≤ 4611686018427387904) :
    Calls Tryz.prog 22 #[.slice a n c, .slice b n d] w fun e w' => e = .returned (.bool true) ∧ w.grownBy w' none := by
  refine (l_sameLists a b ts us xs xs n n c d w hx hy hn hn hn4).mono ?_
  rintro e w' ⟨rfl, h⟩
  exact ⟨by simp, h⟩
theorem wrap_in (z : Int) (h : -9223372036854775808 ≤ z) (h' : z ≤ 9223372036854775807) : IntKind.i64.wrap z = z := by simp [IntKind.wrap, IntKind.bits, IntKind.signed]; omega
/-- The disk behind a torn frame. -/
def TearAt (W w7 w' : World) (d mb n : Nat) (x : DSt) (kl : Nat) (rl : List (List Int)) (syn : Nat) (fr : List Int) (B : Nat → Prop) : Prop := ∃ (k n8 : Nat) (B8 : Nat → Prop), 0 < k ∧ k < (frameR fr).length ∧ n8 ≤ n + 1 ∧ DS w' W.heap.size d mb n8 { x with wn := x.wn + 1, V := setV x.V (segN dirX kl) (some (logB frameR rl ++ (frameR fr).take k, syn)) } B8 ∧ Step w7 w' B B8
set_option maxHeartbeats 16000000 in
theorem w_torn (a : Option Addr) (ts : List Sl) (recs : List (List Int)) (N c : Nat) (ma : Option Addr) (more : List Int) (M mc : Nat) (at_ : Int) (w : World) (ht : Tab w) (hr : RecsIn w a ts recs) (hN : recs.length = N) (hN4 : N ≤ 1048573) (hm : Rd w ma more) (hM : more.length = M) (hMc : M ≤ mc) (hmc : mc ≤ 9223372036854775807) (hmn : ma = none → mc = 0) (hM4 : M ≤ 140737488351232) :
    Calls Tryz.prog 6 #[.slice a N c, .slice ma M mc, .int .i64 at_] w fun e w' => e = .returned (.bool true) ∧ w.grownBy w' none := by
  have HT : Hid (Tab w) := ht
  have HR : Hid (RecsIn w a ts recs) := hr
  have HN : Hid (recs.length = N) := hN
  have HMO : Hid (Rd w ma more) := hm
  have HM : Hid (more.length = M) := hM
  have HMN : Hid (ma = none → mc = 0) := hmn
  clear ht hr hN hm hM hmn
  go_enter Tryz.func6, Tryz.ntmps6
  go_wp2_with fail
  refine (v_new w).mono ?_
  rintro e w1 ⟨d, mb, B0, rfl, hd1, hg1, hl1⟩
  have hDe1 : De w w1 d mb 0 x0 dirX none [] (fun k => B0 k ∧ k < w1.heap.size) := ⟨DS.bound hd1, log0 dirX, x0_calm, hg1, fun k hk => hl1 k hk.1, fun k hk => hk.2, HT.out⟩
  have HO1 := s_open hDe1 dirX_ok (by decide) (by decide) (by decide)
  clear hd1 hg1 hl1 hDe1
  go_wp2_with fail
  refine HO1.mono ?_
  rintro e w2 ⟨p, v0, m0, lo0, A0, rfl, hSe2, hro2, _, _, _⟩
  obtain ⟨ts2, _, _, _, hnil2⟩ := hro2
  rw [hnil2 rfl]
  have HTW : Hid (ToAt w w2 d mb 0 (3 * (0 : Nat)) p (recs.take 0)) := ⟨0, x0, [], _, _, hSe2, rfl, by omega, by decide, by decide, by decide, by simp, fun q hq => (by cases hq)⟩
  clear HO1 hSe2 hnil2
  go_wp2_with fail
  go_loopw [11] (fun t11 wr => ∃ i : Nat, i ≤ N ∧ t11 = .int .i64 i ∧ ToAt w wr d mb i (3 * (i : Int)) p (recs.take i)) (fun t11 _ => N - (intOf t11).toNat)
  case atStart => exact ⟨0, Nat.zero_le _, rfl, HTW.out⟩
  case round =>
    obtain ⟨i, hi, rfl, htw⟩ := hrel
    have HW : Hid (ToAt w wr d mb i (3 * (i : Int)) p (recs.take i)) := htw
    by_cases hlt : i < N
    · have hii : (i : Int) < (N : Int) := by omega
      obtain ⟨b1, o1, t, r, rfl, hcl, hri, hl, hrd, hnil, hlen⟩ := HR.out.get (i := i) (by rw [HN.out]; exact hlt)
      obtain ⟨ta, tn, tc⟩ := t
      dsimp only at hcl hl hrd hnil
      have c1 := hcl wr htw.from_
      have HRD : Hid (Rd w ta r) := hrd
      have HL : Hid (tn = r.length) := hl
      have HNIL : Hid (ta = none → tc = 0) := hnil
      have HTA : Hid (recs.take (i + 1) = recs.take i ++ [r]) := by show _ = _; rw [List.take_add_one, hri]; rfl
      clear hri hnil hrd hcl
      by_cases hbig : 500 < tn
      · have hbb : (500 : Int) < (tn : Int) := by omega
        have haw := w_awake wr (HT.out.grown htw.from_)
        have HF : Hid (w.grownBy wr none) := htw.from_
        clear htw hl
        go_wp2_with fail
        refine haw.mono ?_
        rintro e w6 ⟨rfl, hg6⟩
        have HF6 : Hid (w.grownBy w6 none) := HF.out.trans hg6
        clear haw hg6
        go_wp2
        go_ret
        exact ⟨rfl, HF6.out⟩
      · have hbb : ¬ (500 : Int) < (tn : Int) := by omega
        have HC : Hid (Calls Tryz.prog 18 #[.slice ta tn tc] wr fun e w' => ∃ g c, e = .returned (.slice (some ⟨g, 0, none⟩) tn c) ∧ Own w' wr.heap.size g tn c r ∧ wr.grownBy w' none) := by
          show Calls _ _ _ _ _
          rw [hl]
          exact copy_any ta r tc wr (HRD.out.grown htw.from_ (by simp)) HNIL.out (by omega)
        clear htw hl
        go_wp2_with fail
        refine HC.out.mono ?_
        rintro e w3 ⟨g3, c3, rfl, hown3, hg3⟩
        have HA : Hid (Calls Tryz.prog 17 #[.pointer (some ⟨p, 0, none⟩), .slice (some ⟨g3, 0, none⟩) tn c3] w3 fun e w' => e = .returned (.int .i64 0) ∧ ToAt w w' d mb (i + 1) (3 * (i : Int) + 2) p (recs.take i ++ [r])) := to_append (HW.out.grown hg3) (some ⟨g3, 0, none⟩) r tn c3 hown3.rd HL.out.symm (by simp) (by omega) (by omega) (by omega)
        clear hown3 hg3 HC
        go_wp2_with fail
        refine HA.out.mono ?_
        rintro e w4 ⟨rfl, h4⟩
        have HW4 : Hid (ToAt w w4 d mb (i + 1) (3 * ((i + 1 : Nat) : Int)) p (recs.take (i + 1))) := by
          obtain ⟨n, x, Ls, A, B, h1, h2, h6, h7, h8⟩ := h4
          exact ⟨n, x, Ls, A, B, h1, by rw [HTA.out]; exact h2, h6, by omega, by rw [HTA.out]; exact h8⟩
        clear h4 HA
        go_wp2
        go_roundw
        case rel => exact ⟨i + 1, by omega, by go_num, HW4.out⟩
        case measure => simp [intOf]; omega
    · have hii : ¬ (i : Int) < (N : Int) := by omega
      have hiN : i = N := by omega
      obtain ⟨n, x, Ls, A, B, hSe, hrs, hn, hwn, hop, hlsl, _, hgood⟩ := htw
      rw [List.take_of_length_le (by rw [HN.out]; omega)] at hrs
      have HGOOD : Hid (∀ q ∈ Ls, Good q) := hgood
      have HRS : Hid (recsOf Ls = recs) := hrs
      have hsy := s_sync hSe dirX_ok (by omega) (by omega) (by omega)
      clear hSe hrs hgood HW
      go_wp2_with fail
      refine hsy.mono ?_
      rintro e w3 ⟨rfl, n3, B3, hn3, hw3, hSe3, _⟩
      obtain ⟨x3, ex3⟩ : ∃ x3, x3 = syncX x dirX (Ls.map Prod.fst) (openN none Ls) := ⟨_, rfl⟩
      rw [← ex3] at hw3 hSe3
      have HSE3 : Hid (Se w w3 d mb n3 x3 p dirX none Ls A B3) := hSe3
      obtain ⟨K, eK⟩ : ∃ K, K = min M 500 := ⟨_, rfl⟩
      have hK1 : K ≤ M := by omega
      have hK5 : K ≤ 500 := by omega
      have hmin : min (M : Int) 500 = (K : Int) := by omega
      have hsl1 : ∀ W : World, (Instr.slice 27 (.slice ma M mc) none (some (.int .i64 (K : Int))) none).run Tryz.prog W = .ok (.slice ma K mc) W := fun W => head_of W ma M mc K (by omega) hmc
      have HL7 : Hid (SOwn byteE 5 (w3.alloc (.cells #[.int .u8 7] 5)) w3.heap.size (.slice (some ⟨w3.heap.size, 0, none⟩) 1 1) 1 [7]) := lit_own w3 7 (by decide)
      have hmt : more = more.take K ++ more.drop K := (List.take_append_drop K more).symm
      have hrm : Rd w3 ma (more.take K) := by
        have h1 := HMO.out.grown hSe3.from_ (by simp)
        rw [hmt] at h1
        exact rd_head h1
      have HRM : Hid (SRd byteE (w3.alloc (.cells #[.int .u8 7] 5)) ma (more.take K)) := rd_srd (hrm.grown (World.grownBy_alloc _ _ none) (by simp))
      have HRB : Hid (∀ z ∈ [7] ++ more.take K, 0 ≤ z ∧ z ≤ 255) := by
        show ∀ z ∈ _, _
        intro z hz
        rcases List.mem_append.1 hz with hz | hz
        · simp at hz; omega
        · exact hrm.2 z hz
      have HRK : Hid ((more.take K).length = K) := by show _ = _; rw [List.length_take, HM.out]; omega
      clear hsy hSe3 hmt hrm eK
      go_wp2_with (at_builtin; refine wpList_append_s byteET rfl (.tmp 60) (.tmp 65) rfl w3.heap.size (.slice (some ⟨w3.heap.size, 0, none⟩) 1 1) 1 [7] rfl HL7.out ma (more.take K) K mc rfl HRK.out HRM.out HMN.out (by omega) (by unfold maxLen; omega) (World.grownBy_alloc w3 _ none).size ?_; intro v5 w5 ho5 hg5 hn5; have HO5 : Hid (SOwn byteE 5 w5 w3.heap.size v5 (1 + K) ([7] ++ more.take K)) := ho5; have HG5 : Hid ((w3.alloc (.cells #[.int .u8 7] 5)).grownBy w5 (some w3.heap.size)) := hg5; clear ho5 hg5 hn5; obtain ⟨a5, c5, rfl⟩ := sownSl HO5.out)
      obtain ⟨fr, efr⟩ : ∃ fr, fr = [7] ++ more.take K := ⟨_, rfl⟩
      have hfrl : fr.length = 1 + K := by rw [efr, List.length_append, HRK.out]; rfl
      have hO5 := HO5.out
      have hRB := HRB.out
      rw [← efr] at hO5 hRB
      have hFR := frm_short a5 fr (1 + K) c5 w5 (srd_rd hO5.rd hRB) hfrl (sown_cap hO5).2 (by omega)
      have HG35 : Hid (w3.grownBy w5 none) := gb_trans (World.grownBy_alloc w3 _ none) HG5.out (fun k hk => .inl (by cases hk; exact Nat.le_refl _))
      have HFRL : Hid (fr.length = 1 + K) := hfrl
      have HSZ5 : Hid (w3.heap.size ≤ w5.heap.size) := HG35.out.size
      clear hO5 hRB HO5 HRB efr HL7 HRM HRK HG5 hsl1 hfrl
      refine hFR.mono ?_
      rintro e w6 ⟨g6, c6, G6, rfl, ho6, hg6⟩
      have hfl : (frameR fr).length = G6 := ho6.len
      have hf6 : 6 ≤ G6 := by
        rw [← hfl, frameR]
        have h4 : (four (sumR fr)).length = 4 := rfl
        have h1 := enc_len_pos fr.length
        have h2 := HFRL.out
        simp only [List.length_append, h4]
        omega
      have hf7 : G6 ≤ 65543 := by rw [← hfl]; exact frame_len fr (by rw [HFRL.out]; omega)
      obtain ⟨G, eG⟩ : ∃ G, G6 = G + 1 := ⟨G6 - 1, by omega⟩
      subst eG
      have hc6 := ho6.cap
      unfold maxLen at hc6
      have HO6 : Hid (Own w6 w5.heap.size g6 (G + 1) c6 (frameR fr)) := ho6
      have HG36 : Hid (w3.grownBy w6 none) := HG35.out.trans hg6
      have hls := se_list HSE3.out (by omega) w6 HG36.out
      clear hFR ho6 hg6 HG35
      go_wp2_with fail
      refine hls.mono ?_
      rintro e w7 ⟨a7, c7, rfl, hr7, hy7, hg7⟩
      have HY7 : Hid (∀ y, a7 = some y → w6.heap.size ≤ y.block) := hy7
      have HG37 : Hid (w3.grownBy w7 none) := HG36.out.trans hg7
      have HR7 : Hid (SRd strE w7 a7 (Ls.map fun q => segN dirX q.1)) := hr7
      have HO7 : Hid (Own w7 w5.heap.size g6 (G + 1) c6 (frameR fr)) := HO6.out.kept hg7 (by simp)
      have HF7 : Hid (w.grownBy w7 none) := HSE3.out.from_.trans HG37.out
      clear hls hr7 hy7 hg7 HO6
      by_cases hN0 : N = 0
      · have q0 : ((N : Int) == 0) = true := by simp [hN0]
        have haw := w_awake w7 (HT.out.grown HF7.out)
        go_wp2_with fail
        refine haw.mono ?_
        rintro e w8 ⟨rfl, hg8⟩
        have HF8 : Hid (w.grownBy w8 none) := HF7.out.trans hg8
        clear haw hg8
        go_wp2
        go_ret
        exact ⟨rfl, HF8.out⟩
      · have q0 : ((N : Int) == 0) = false := by simp; omega
        rcases List.eq_nil_or_concat Ls with hnil | ⟨Ls0, ⟨kl, rl⟩, hcat⟩
        · exfalso
          rw [hnil] at HRS
          have h1 := HRS.out
          have h2 := HN.out
          rw [← h1] at h2
          exact hN0 h2.symm
        rw [List.concat_eq_append] at hcat
        subst hcat
        obtain ⟨L', eL'⟩ : ∃ L', (Ls0 ++ [(kl, rl)]).length = L' + 1 := ⟨Ls0.length, by simp⟩
        rw [eL'] at hlsl ⊢
        have q1 : (((L' + 1 : Nat) : Int) == 0) = false := by simp; omega
        have q1' : ((L' : Int) + 1 == 0) = false := by simp; omega
        have q2 : ¬ ((G + 1 : Nat) : Int) < 2 := by omega
        have q2' : ¬ (G : Int) + 1 < 2 := by omega
        have hL0 : Ls0.length = L' := by simp at eL'; exact eL'
        obtain ⟨b7, o7, rfl, hcell7⟩ := HR7.out.at (by simp)
        have c7' : w7.cell? ⟨b7, o7 + L', none⟩ = some (.string (segN dirX kl)) := by
          have := hcell7 L' (segN dirX kl) 0 _ (by rw [List.map_append, List.getElem?_append_right (by simp [hL0])]; simp [hL0]) rfl
          simpa [strE] using this
        clear hcell7
        go_wp2_with fail
        have hLw := HSE3.out.log.whole (kl, rl) (by simp)
        obtain ⟨⟨syn, hVl⟩, hrlen, hkl8⟩ := hLw
        dsimp only at hVl hrlen hkl8
        have HVL : Hid (x3.V (segN dirX kl) = some (logB frameR rl, syn)) := hVl
        have HGR : Hid (w3.grownBy w7.drew none) := gb_drew HG37.out
        have hgl := (HGOOD.out (kl, rl) (by simp)).2
        dsimp only at hgl
        have hap0 : ∀ k0 : Nat, k0 < G → Calls Tryz.prog 27 #[.pointer (some ⟨d, 0, none⟩), .string (segN dirX kl), .slice (some ⟨g6, 0, none⟩) (1 + k0) c6] w7.drew fun e w' => e = .returned (.int .i64 0) ∧ TearAt w w7.drew w' d mb n3 x3 kl rl syn fr B3 := fun k0 hk0 => by
          have hD := DV.kept HSE3.out.at_.disk HGR.out
          have hlts := hD.lts
          have hold : oldV x3.V (segN dirX kl) = (logB frameR rl, syn) := by unfold oldV; rw [hVl]; rfl
          have htk : ((frameR fr).take (1 + k0)).length = 1 + k0 := by rw [List.length_take, hfl]; omega
          have hrd : Rd w7.drew (some ⟨g6, 0, none⟩) ((frameR fr).take (1 + k0)) := by
            have h1 : Rd w7.drew (some ⟨g6, 0, none⟩) (frameR fr) := (HO7.out.drew).rd
            rw [← List.take_append_drop (1 + k0) (frameR fr)] at h1
            exact rd_head h1
          have hge := HO7.out.ge.1
          have hd35 := HSE3.out.at_.disk.lts
          have hwz : w3.heap.size ≤ w5.heap.size := HSZ5.out
          refine (x_append w.heap.size d mb n3 x3 B3 (segN dirX kl) ⟨g6, 0, none⟩ ((frameR fr).take (1 + k0)) (1 + k0) c6 w7.drew hD HSE3.out.calm.ok (seg_name dirX_ok kl) (by omega) (rd_srd hrd) htk hrd.2 (by rw [hold]; dsimp only; omega) (Nat.le_trans HSE3.out.from_.size HGR.out.size) (by show g6 ≠ mb; omega) (by show g6 ≠ d; omega)).mono ?_
          rintro e w' ⟨rfl, n8, B8, hn8, hd8, hs8⟩
          rw [calm_app x3 HSE3.out.calm, hold] at hd8 ⊢
          exact ⟨rfl, k0 + 1, n8, B8, by omega, by omega, hn8, by rw [Nat.add_comm k0 1]; exact hd8, hs8⟩
        have HAP : Hid (∀ k0 : Nat, k0 < G → Calls Tryz.prog 27 #[.pointer (some ⟨d, 0, none⟩), .string (segN dirX kl), .slice (some ⟨g6, 0, none⟩) (1 + k0) c6] w7.drew fun e w' => e = .returned (.int .i64 0) ∧ TearAt w w7.drew w' d mb n3 x3 kl rl syn fr B3) := hap0
        have HLOW : Hid (∀ W, Calls Tryz.prog 15 #[.int .i64 at_] W fun e w' => ∃ r, e = .returned (.int .i64 r) ∧ 0 ≤ r ∧ r ≤ 9223372036854775807 ∧ W = w') := fun W => Low_any at_ W
        have HREM : Hid (∀ r : Int, 0 ≤ r → r ≤ 9223372036854775807 → ∃ k0 : Nat, k0 < G ∧ r.tmod (G : Int) = (k0 : Int)) := fun r h0 _ => by
          refine ⟨(r % (G : Int)).toNat, ?_, ?_⟩
          · have h1 := Int.emod_lt_of_pos r (show (0 : Int) < (G : Int) by omega)
            have h2 := Int.emod_nonneg r (show (G : Int) ≠ 0 by omega)
            omega
          · rw [Int.tmod_eq_emod_of_nonneg h0]
            have h2 := Int.emod_nonneg r (show (G : Int) ≠ 0 by omega)
            omega
        have HSL : Hid (∀ k0 : Nat, k0 < G → ∀ W : World, (Instr.slice 27 (.slice (some ⟨g6, 0, none⟩) (G + 1) c6) none (some (.int .i64 (1 + (k0 : Int)))) none).run Tryz.prog W = .ok (.slice (some ⟨g6, 0, none⟩) (1 + k0) c6) W) := fun k0 hk0 W => by
          have := head_of W (some ⟨g6, 0, none⟩) (G + 1) c6 (1 + k0) (by omega) (by omega)
          rw [show (((1 + k0 : Nat)) : Int) = 1 + (k0 : Int) by omega] at this
          exact this
        have q3 : ((G : Int) == 0) = false := by simp; omega
        have q4 : (L' : Int) < (L' : Int) + 1 := by omega
        have hL4 : (L' : Int) ≤ 4194304 := by omega
        have hG4 : (G : Int) ≤ 65543 := by omega
        have hG5 : 5 ≤ (G : Int) := by omega
        have HC8 : Hid (∀ w8, TearAt w w7.drew w8 d mb n3 x3 kl rl syn fr B3 → w8.cell? ⟨b7, o7 + L', none⟩ = some (.string (segN dirX kl))) := fun w8 h8 => by
          obtain ⟨_, _, _, _, _, _, _, hs8⟩ := h8
          have h1 := HY7.out _ rfl
          have h3 := HG36.out.size
          dsimp only at h1
          refine cell_kept hs8.1 (cell_lt c7') (fun hb => ?_) c7'
          have := HSE3.out.at_.ltB _ hb
          omega
        have p0 : (0 : Int) ≤ (L' : Int) := by omega
        have p1 : IntKind.i64.wrap (L' : Int) = (L' : Int) := wrap_in _ (by omega) (by omega)
        have p2 : IntKind.i64.wrap ((L' : Int) + 1 - 1) = (L' : Int) := by rw [wrap_in _ (by omega) (by omega)]; omega
        have p3 : IntKind.i64.wrap (G : Int) = (G : Int) := wrap_in _ (by omega) (by omega)
        have p4 : IntKind.i64.wrap ((G : Int) + 1 - 1) = (G : Int) := by rw [wrap_in _ (by omega) (by omega)]; omega
        have p5 : (0 : Int) ≤ (G : Int) := by omega
        have p6 : ¬ (G : Int) = 0 := by omega
        have p7 : ¬ G = 0 := by omega
        have p8 : (G == 0) = false := by simp; omega
        clear hap0 hVl hrlen hgl
        go_region_held3 (fun W => W.cell? ⟨b7, o7 + L', none⟩ = some (.string (segN dirX kl))) (go_keep) (first
          | (go_at_call 15; refine (HLOW.out w7.drew).mono ?_; rintro e _ ⟨r, rfl, hr0, hr1, rfl⟩; obtain ⟨k0, hk0, hrem⟩ := HREM.out r hr0 hr1; have hsl2 := HSL.out k0 hk0; have hap := HAP.out k0 hk0; have hk0' : (k0 : Int) < (G : Int) := (by omega); have hk1 : (0 : Int) ≤ (k0 : Int) := (by omega); have hk2 : IntKind.i64.wrap (r.tmod (G : Int)) = (k0 : Int) := (by rw [hrem]; exact wrap_in _ (by omega) (by omega)); have hk3 : IntKind.i64.wrap (1 + (k0 : Int)) = 1 + (k0 : Int) := wrap_in _ (by omega) (by omega); have hk4 : IntKind.i64.wrap (k0 : Int) = (k0 : Int) := wrap_in _ (by omega) (by omega))
          | (go_at_call 27; refine hap.mono ?_; rintro e w8 ⟨rfl, h8⟩; have HW8 : Hid (TearAt w w7.drew w8 d mb n3 x3 kl rl syn fr B3) := h8; have c8 := HC8.out w8 h8; clear h8 hap))
        obtain ⟨k, n8, B8, hk0, hk1, hn8, hd8, hs8⟩ := HW8.out
        have hgood := HGOOD.out (kl, rl) (by simp)
        have hT := torn_of HSE3.out.log HVL.out fr k (by rw [HFRL.out]; omega) hk1
        have hfw7 : w.grownBy w7.drew none := gb_drew HF7.out
        have hlow3 : ∀ k, B3 k → w.heap.size ≤ k := fun k hb => HSE3.out.low k (.inr hb)
        have hf8 : w.grownBy w8 none := hs8.from_ hfw7 hlow3
        have hop := s_openT (DS.bound hd8) hT (calm_next x3 HSE3.out.calm (by omega) _) hf8 (fun j hj => by
          rcases Nat.lt_or_ge j w7.drew.heap.size with h | h
          · exact hlow3 j (hs8.2 j h hj.1)
          · exact Nat.le_trans hfw7.size h) (fun j hj => hj.2) HT.out dirX_ok (by dsimp only; omega) (by omega) (fun e => by
          have h1 := congrArg List.length e
          rw [List.length_take] at h1
          simp only [List.length_nil] at h1
          omega) hgood.1 (Nat.le_trans hgood.2 (by omega)) (by show (([] : List (List Int)) ++ recsOf (Ls0 ++ [(kl, rl)])).length ≤ _; rw [HRS.out, List.nil_append, HN.out]; omega) (by rw [eL']; omega)
        clear hT hd8 hs8 hgood hf8 hk0 hk1 hlow3 hfw7 HW8 HC8 HAP HSL HREM HLOW q1 q1' q2 q2' q3 q4 p0 p1 p2 p3 p4 p5 p6 p7 p8 hL4 hG4 hG5 c7'
        go_wp2_with fail
        refine hop.mono ?_
        rintro e w9 ⟨p9, v9, m9, lo9, n9, x9, B9, rfl, hDe9, hro9, hn9⟩
        have hlen9 : ∀ r ∈ cpRecs none ++ recsOf (Ls0 ++ [(kl, rl)]), r.length ≤ 65536 := by
          intro r hr
          simp only [cpRecs, List.nil_append, recsOf, List.mem_flatMap] at hr
          obtain ⟨q, hq, hr⟩ := hr
          exact (hDe9.log.whole q hq).2.1 r hr
        have HLEN9 : Hid (∀ r ∈ cpRecs none ++ recsOf (Ls0 ++ [(kl, rl)]), r.length ≤ 65536) := hlen9
        obtain ⟨ts9, hR9, hl9⟩ := hro9.reads hlen9
        have e9 : cpRecs none ++ recsOf (Ls0 ++ [(kl, rl)]) = recs := HRS.out
        have E9 : Hid (cpRecs none ++ recsOf (Ls0 ++ [(kl, rl)]) = recs) := e9
        rw [e9] at hR9 hl9
        obtain ⟨v9a, v9n, v9c⟩ := v9
        have hl9' : N = v9n := HN.out.symm.trans hl9
        subst hl9'
        have HR9 : Hid (Reads w9 v9a ts9 recs) := hR9.1
        have hop2 := s_open hDe9 dirX_ok (by omega) (by rw [e9, HN.out]; omega) (by rw [eL']; omega)
        clear hop hDe9 hro9 hlen9 hR9 hl9 e9
        go_wp2_with fail
        refine hop2.mono ?_
        rintro e wa ⟨pa, va, ma', loa, Aa, rfl, hSea, hroa, hga, _, _⟩
        obtain ⟨tsa, hRa, hla⟩ := hroa.reads HLEN9.out
        rw [E9.out] at hRa hla
        obtain ⟨vaa, van, vac⟩ := va
        have hla' : N = van := HN.out.symm.trans hla
        subst hla'
        have HRa : Hid (Reads wa vaa tsa recs) := hRa.1
        have HFa : Hid (w.grownBy wa none) := hSea.from_
        have hq1 := l_same v9a a ts9 ts recs N v9c c wa (HR9.out.grown hga) (HR.out.reads HFa.out) HN.out (by omega)
        clear hop2 hSea hroa hRa hla hga
        go_wp2_with fail
        refine hq1.mono ?_
        rintro e wb ⟨rfl, hgb⟩
        have HFb : Hid (w.grownBy wb none) := HFa.out.trans hgb
        have hq2 := l_same vaa a tsa ts recs N vac c wb (HRa.out.grown hgb) (HR.out.reads HFb.out) HN.out (by omega)
        clear hq1 hgb
        go_wp2_with fail
        refine hq2.mono ?_
        rintro e wc ⟨rfl, hgc⟩
        have HFc : Hid (w.grownBy wc none) := HFb.out.trans hgc
        have haw := w_awake wc (HT.out.grown HFc.out)
        clear hq2 hgc
        go_wp2_with fail
        refine haw.mono ?_
        rintro e we ⟨rfl, hge⟩
        have HFe : Hid (w.grownBy we none) := HFc.out.trans hge
        clear haw hge
        go_wp2
        go_ret
        exact ⟨rfl, HFe.out⟩
end Go.Proofs.YtekejnjaiccnbaaGreatDoor
