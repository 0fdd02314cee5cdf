/- Package parse: a row, walked. -/
import Derived.Test.YtnimdngiejcljaaQe
namespace Go.Proofs.Ytnimdngiejcljaa
open Go.RowKit
set_option linter.unusedVariables false
set_option linter.unusedSimpArgs false
set_option maxRecDepth 20000

set_option maxHeartbeats 8000000 in
theorem f_row {b p : Nat} {K : Tk} (fn lv n : Nat) (hlv : lv < 5) (hE : ∀ w, (callFunc fn #[.pointer (some ⟨p, 0, none⟩)]).run Try.prog w = .ok (.enter fn #[.pointer (some ⟨p, 0, none⟩)]) w) (hP : ∀ f, f ≤ n → LvOk b p K fn (P f (lv + 1))) {nest k : Nat} {v : Value} {L : List Row} {ts : List Tok} {w : World} (a2 : Option Addr) (c2 : Nat) (h : RdAt w b p K k (nest : Int) v L) (ho : OpsAt p a2 (rowOps lv) w v) (ha : Ahead K k ts) (hL : L.length ≤ k) (hn : nest ≤ 64) (hne : P (n + 1) lv nest ts ≠ .out) :
    Calls Try.prog 44 #[.pointer (some ⟨p, 0, none⟩), .func (.func fn) #[.pointer (some ⟨p, 0, none⟩)] #[], .slice a2 (rowOps lv).length c2] w fun e w' => PQ b p K k (nest : Int) v L (P (n + 1) lv nest ts) w e w' := by
  obtain ⟨R, eR⟩ : ∃ R, P (n + 1) lv nest ts = R := ⟨_, rfl⟩
  rw [P_level hlv] at hne
  have hne1 : P n (lv + 1) nest ts ≠ .out := bind_out hne
  have ER : Hid (((P n (lv + 1) nest ts).bind fun a r => (P n (lv + 7) nest r).bind fun b r => .ok (a ++ b) r) = R) := by rw [P_level hlv] at eR; exact eR
  rw [ER.out] at hne
  rw [eR]
  have HNE := hid hne
  have HNE1 := hid hne1
  have HP := hid hP
  have H := hid h
  have HO := hid ho
  have HA := hid ha
  have HL := hid hL
  have HP0 := hid (hP n (Nat.le_refl _) nest k v L ts w h ha hL hn hne1)
  have HM := hid (rowOps_no lv)
  have HLW := hid (P_few n (lv + 1) nest ts (by have := take_ahead ha; omega))
  obtain ⟨ML, eML⟩ : ∃ ML, ML = (rowOps lv).length := ⟨_, rfl⟩
  have EML := hid eML
  rw [← eML]
  clear h ho ha hL hne hne1 hP eR eML
  go_enter Try.func44, Try.ntmps44
  go_wp2_with fail
  refine HP0.out.mono ?_
  intro e w1 h1
  cases hx : P n (lv + 1) nest ts with
  | out => exact absurd hx HNE1.out
  | bad q c =>
    rw [hx] at h1
    obtain ⟨rfl, f1⟩ := h1
    have ER1 : Hid (R = .bad q c) := by
      have := ER.out
      rw [hx, bind_bad] at this
      exact this.symm
    have F1 := hid f1
    clear hx f1 HP0 ER
    go_wp2
    refine ⟨rfl, ?_⟩
    rw [ER1.out]
    exact ⟨rfl, F1.out⟩
  | ok a r =>
    rw [hx] at h1
    obtain ⟨rfl, v1, k1, Q1, h1, hq1, ha1, hk1, a1⟩ := h1
    have HRW : Hid (RwAt lv nest n b p K k v L a2 R w w1 n k1 v1 Q1 r) := by
      refine ⟨h1, HO.out.go a1, ha1, hk1, a1, tell_len HL.out ha1 hq1 (few_ok HLW.out hx) HA.out, Nat.le_refl _, ?_⟩
      have := ER.out
      rw [hx, bind_ok] at this
      rw [hq1]
      exact this
    clear hx h1 hq1 ha1 hk1 a1 HP0 ER HNE1 HLW HO
    go_wp2_with fail
    go_loopw [] (fun wr => ∃ f2 k2 v2 Q2 r2, Hid (RwAt lv nest n b p K k v L a2 R w wr f2 k2 v2 Q2 r2)) (fun wr => K.T.length - atW p wr)
    case atStart => exact ⟨n, k1, v1, Q1, r, HRW⟩
    case round =>
      clear HRW
      obtain ⟨f2, k2, v2, Q2, r2, HRW⟩ := hrel
      cases f2 with
      | zero => exact absurd HRW.out.eq.symm HNE.out
      | succ f3 =>
        have HLT := hid HRW.out.ah.lt
        have hsm := HRW.out.ah.small
        have hlt := HLT.out
        have HAT : Hid (atW p wr = k2) := atW_eq HRW.out.rd
        have hf3 : f3 ≤ n := by have := HRW.out.fl; omega
        have HEQ : Hid (((if takeN opsR (rowOps lv) r2 = 0 then .ok [] r2
            else (groupR 5000 [3, 4] (boolR (takeN opsR (rowOps lv) r2) (takeR opsR (rowOps lv) r2))).bind fun g r =>
              (P f3 (lv + 1) nest r).bind fun a r2' => (P f3 (lv + 7) nest r2').bind fun b r3 =>
                .ok (a ++ [binN (takeN opsR (rowOps lv) r2) (boolN (takeN opsR (rowOps lv) r2) (takeR opsR (rowOps lv) r2)) g.1 g.2] ++ b) r3) : Rs (List Nd)).bind (fun b r => .ok (Q2.map (·.1) ++ b) r) = R) := by
          have := HRW.out.eq
          rw [P_loop] at this
          exact this
        obtain ⟨N, eN⟩ : ∃ N, takeN opsR (rowOps lv) r2 = N := ⟨_, rfl⟩
        obtain ⟨T, eT⟩ : ∃ T, takeR opsR (rowOps lv) r2 = T := ⟨_, rfl⟩
        rw [eN, eT] at HEQ
        have EN := hid eN
        have ET := hid eT
        clear eN eT
        go_wp2_with fail
        refine (f_ops _).mono ?_
        rintro e w3 ⟨a3, c3, rfl, hr3, g3⟩
        have HR3 := hid hr3
        have G3 := hid g3
        have HON := hid (f_one (HRW.out.rd.grown g3) HRW.out.ah a3 a2 c3 c2 opsR (rowOps lv) hr3 (by decide) (HRW.out.ops.go (.gb g3)).rd HM.out.2 HM.out.1)
        rw [← EML.out] at HON
        clear hr3 g3
        go_wp2_with fail
        refine HON.out.mono ?_
        rintro e w4 ⟨rfl, k4, h4, ha4, hk4, hkk4, f4⟩
        rw [EN.out] at hkk4
        rw [EN.out]
        rw [ET.out] at ha4
        have HA4 := hid ha4
        have HF4 : Hid (Fr (Me p) wr w4) := (Fr.of (S := Me p) G3.out).trans f4 (fun _ _ e => e)
        have HN1 := hid (NAt.made HRW.out.rd h4 HF4.out (binN N false 0 []) nilS nilS (SOwn.nil _ _ _) (SOwn.nil _ _ _))
        obtain ⟨n0, n1, n2, n3, n4, n5, n6, n7, n8, n9⟩ := HN1.out.cells
        have HK4 := hid hk4
        have HKK4 := hid hkk4
        have z8 := free_row HN1.out.row 8
        have hsz4 : wr.heap.size ≤ w4.heap.size := HF4.out.size
        obtain ⟨NB, eNB⟩ : ∃ NB, NB = w4.heap.size := ⟨_, rfl⟩
        simp only [binN, ndA, slV] at n0 n1 n2 n3 n4 n5 n6 n7 n8 n9
        clear h4 ha4 f4 HON G3 HR3 hk4 hkk4
        by_cases hz : N = 0
        · have q0 : (N == 0) = true := by simpa using hz
          have ER2 : Hid (R = .ok (Q2.map (·.1)) r2) := by
            have := HEQ.out
            rw [if_pos hz, bind_ok, List.append_nil] at this
            exact this.symm
          have ETS : Hid (T = r2) := by
            show _ = _
            rw [← ET.out]
            have := EN.out
            rw [hz] at this
            unfold takeN at this
            unfold takeR
            split at this
            · rename_i hc
              rw [this, HM.out.1] at hc
              cases hc
            · rename_i hc
              rw [if_neg hc]
          clear hz HEQ n0 n2 n3 n4 n5 n6 n7 n8 n9 z8
          go_wp2
          go_end0
          rw [ER2.out]
          refine ⟨rfl, v2, k4, Q2, HN1.out.rd, rfl, by rw [← ETS.out]; exact HA4.out, Nat.le_trans HRW.out.le HK4.out, HRW.out.adv.trans HN1.out.adv⟩
        · have q0 : (N == 0) = false := by simpa using hz
          have hkk : k2 < k4 := HKK4.out hz
          have HEQ2 : Hid (((groupR 5000 [3, 4] (boolR N T)).bind fun g r =>
              (P f3 (lv + 1) nest r).bind fun a r2' => (P f3 (lv + 7) nest r2').bind fun b r3 =>
                .ok (a ++ [binN N (boolN N T) g.1 g.2] ++ b) r3).bind (fun b r => .ok (Q2.map (·.1) ++ b) r) = R) := by
            have := HEQ.out
            rw [if_neg hz] at this
            exact this
          have HC := hid (f_isCmp N)
          cases hcb : cmpB N with
          | true =>
            rw [hcb] at HC
            have HCB := hid hcb
            clear hz HEQ hcb
            go_wp2_with fail
            refine (HC.out _).mono ?_
            rintro e w5 ⟨rfl, rfl⟩
            clear n0 n1 n2 n3 n4 n5 n6 n7 n8 n9 z8
            go_wp2_with fail
            refine (f_takes HN1.out.rd HA4.out boolS).mono ?_
            rintro e w5 (⟨hb, rfl, h5, f5⟩ | ⟨hb, rfl, g5⟩)
            · have HN5 := hid (HN1.out.step h5 f5)
              have HA5 := hid (HA4.out.next (mean_next hb))
              have HEQ3 : Hid (((groupR 5000 [3, 4] T.tail).bind fun g r =>
                  (P f3 (lv + 1) nest r).bind fun a r2' => (P f3 (lv + 7) nest r2').bind fun b r3 =>
                    .ok (a ++ [binN N true g.1 g.2] ++ b) r3).bind (fun b r => .ok (Q2.map (·.1) ++ b) r) = R) := by
                have := HEQ2.out
                have e1 : boolN N T = true := by unfold boolN; rw [hb, Bool.and_true]; exact HCB.out
                have e2 : boolR N T = T.tail := by unfold boolR; rw [if_pos e1]
                rw [e1, e2] at this
                exact this
              have y8 := (NAt.cells HN5.out).2.2.2.2.2.2.2.2.1
              have z8 := free_row HN5.out.row 8
              have HN6 := hid (HN5.out.bool true)
              clear hb h5 f5 HEQ2 HN1
              go_upto_region 4 with fail
              generalize hW : w5.setCell ⟨w4.heap.size, 8, none⟩ (.bool true) = W6 at HN6 ⊢
              clear hW y8 z8 HN5
              have HN7 := hid (HN6.out.grown (World.grownBy_alloc _ (.cells #[.int .i64 3, .int .i64 4] 3) none))
              have HGR := hid (f_group HN7.out.rd HA5.out _ 2 [3, 4] (num_two _ 3 4) (by decide) (by decide))
              go_wp2_with fail
              refine HGR.out.mono ?_
              intro e w7 h7
              cases hg : groupR 5000 [3, 4] T.tail with
              | out => rw [hg] at h7; exact h7.elim
              | bad q c =>
                rw [hg] at h7
                obtain ⟨rfl, f7⟩ := h7
                have ER2 : Hid (R = .bad q c) := by
                  have := HEQ3.out
                  rw [hg, bind_bad, bind_bad] at this
                  exact this.symm
                have F7 := hid ((HRW.out.adv.trans HN7.out.adv).fr.trans f7 (fun j hj e => .inl e))
                clear hg f7 HGR
                go_wp2
                refine ⟨rfl, ?_⟩
                rw [ER2.out]
                exact ⟨rfl, F7.out⟩
              | ok g r8 =>
                rw [hg] at h7
                obtain ⟨sl, rfl, ho8, k8, h8, ha8, hk8, f8⟩ := h7
                obtain ⟨g1, ns⟩ := g
                have HEQ4 : Hid (((P f3 (lv + 1) nest r8).bind fun a r2' => (P f3 (lv + 7) nest r2').bind fun b r3 => .ok (a ++ [binN N true g1 ns] ++ b) r3).bind (fun b r => .ok (Q2.map (·.1) ++ b) r) = R) := by
                  have := HEQ3.out
                  rw [hg, bind_ok] at this
                  exact this
                have HN8 := hid (HN7.out.step h8 f8)
                have HA8 := hid ha8
                have hk28 : k2 < k8 := by omega
                have HB2 := hid (HN8.out.group g1 sl ns (SOwn.base ho8 (by have := HN7.out.adv.fr.size; omega)) (fun j hj e => by
                  have h1 := (SOwn.block ho8 j hj).1
                  have h2 := (SOwn.block HN7.out.rd.nds.own j e).2
                  omega))
                obtain ⟨n0, n1, n2, n3, n4, n5, n6, n7, n8, n9⟩ := HN8.out.cells
                have z6 := free_row HN8.out.row 6
                have z7 := free_row HN8.out.row 7
                have hne3 : P f3 (lv + 1) nest r8 ≠ .out := bind_out (bind_out (by rw [HEQ4.out]; exact HNE.out))
                have HNE3 := hid hne3
                have hl28 : (L ++ Q2).length ≤ k8 := by have := HRW.out.len; omega
                have HB := hid (HP.out f3 hf3 nest k8 v2 (L ++ Q2) r8 _ HB2.out.rd HA8.out hl28 hn hne3)
                have HFW := hid (P_few f3 (lv + 1) nest r8 (by have := take_ahead HA8.out; omega))
                obtain ⟨x1, x2, x3⟩ := sl
                simp only [slV] at HB2 HB ⊢
                clear hg h8 ho8 ha8 f8 HGR n0 n1 n2 n3 n4 n5 n8 n9 hne3
                go_wp2_with fail
                refine HB.out.mono ?_
                intro e w9 h9
                cases hx : P f3 (lv + 1) nest r8 with
                | out => exact absurd hx HNE3.out
                | bad q c =>
                  rw [hx] at h9
                  obtain ⟨rfl, f9⟩ := h9
                  have ER3 : Hid (R = .bad q c) := by
                    have := HEQ4.out
                    rw [hx, bind_bad, bind_bad] at this
                    exact this.symm
                  have A9 := hid (HRW.out.adv.trans HB2.out.adv)
                  have F9 := hid (A9.out.fr.trans f9 (fun j hj e => by
                    rcases e with e | e
                    · exact .inl e
                    · rcases A9.out.new j e with e2 | e2
                      · exact .inr e2
                      · omega))
                  clear hx f9 HB A9
                  go_wp2
                  refine ⟨rfl, ?_⟩
                  rw [ER3.out]
                  exact ⟨rfl, F9.out⟩
                | ok a r9 =>
                  rw [hx] at h9
                  obtain ⟨rfl, v9, k9, Q9, h9, hq9, ha9, hk9, a9⟩ := h9
                  have HN9 := hid (HB2.out.go h9 a9)
                  have HQ9 := hid hq9
                  have HA9 := hid ha9
                  have hln := few_ok HFW.out hx
                  have hlen : (L ++ Q2 ++ Q9).length + 1 ≤ k9 := by
                    have h1 := HA8.out.len
                    have h2 := HA9.out.len
                    have h3 : Q9.length = a.length := by rw [← hq9, List.length_map]
                    have h4 := HRW.out.len
                    rw [List.length_append]
                    omega
                  have HLEN := hid hlen
                  have hbig : (L ++ Q2 ++ Q9).length ≤ 1000000 := by have := HA9.out.len; have := HA9.out.small; omega
                  have HT := hid (f_tellN HN9.out hbig)
                  obtain ⟨n0, n1, n2, n3, n4, n5, n6', n7', n8, n9⟩ := HN9.out.cells
                  simp only [binN, ndA, slV] at HT n0 n1 n2 n3 n4 n5 n6' n7' n8 n9
                  have HXE := hid hx
                  clear hx h9 hq9 ha9 a9 HB hlen hbig
                  go_wp2_with fail
                  refine HT.out.mono ?_
                  rintro e w10 ⟨rfl, v10, h10, a10⟩
                  have HRW2 : Hid (RwAt lv nest n b p K k v L a2 R w w10 f3 k9 v10 (Q2 ++ Q9 ++ [(binN N true g1 ns, nilS, (x1, x2, x3))]) r9) := by
                    refine ⟨?_, HRW.out.ops.go a10, HA9.out, Nat.le_trans HRW.out.le (by omega), HRW.out.adv.trans a10, ?_, hf3, ?_⟩
                    · rw [← List.append_assoc, ← List.append_assoc]
                      exact h10
                    · have := HLEN.out
                      simp only [List.length_append, List.length_singleton] at this ⊢
                      omega
                    · have he := HEQ4.out
                      rw [HXE.out, bind_ok, bind_assoc] at he
                      rw [← he]
                      congr 1
                      funext b1 r1
                      rw [bind_ok, List.map_append, List.map_append, HQ9.out]
                      simp only [List.map_cons, List.map_nil, List.append_assoc]
                  have HAT10 : Hid (atW p w10 = k9) := atW_eq h10
                  clear h10 a10 HT n0 n1 n2 n3 n4 n5 n6' n7' n8 n9
                  go_wp2
                  go_roundw
                  case rel => exact ⟨f3, k9, v10, _, r9, HRW2⟩
                  case measure => rw [HAT.out, HAT10.out]; omega
            · have HN5 := hid (HN1.out.grown g5)
              have HEQ3 : Hid (((groupR 5000 [3, 4] T).bind fun g r =>
                  (P f3 (lv + 1) nest r).bind fun a r2' => (P f3 (lv + 7) nest r2').bind fun b r3 =>
                    .ok (a ++ [binN N false g.1 g.2] ++ b) r3).bind (fun b r => .ok (Q2.map (·.1) ++ b) r) = R) := by
                have := HEQ2.out
                have e1 : boolN N T = false := by unfold boolN; rw [hb, Bool.and_false]
                have e2 : boolR N T = T := by unfold boolR; rw [if_neg (by rw [e1]; simp)]
                rw [e1, e2] at this
                exact this
              have y8 := (NAt.cells HN5.out).2.2.2.2.2.2.2.2.1
              have z8 := free_row HN5.out.row 8
              have HN6 := hid (HN5.out.bool false)
              clear hb g5 HEQ2 HN1
              go_upto_region 4 with fail
              generalize hW : w5.setCell ⟨w4.heap.size, 8, none⟩ (.bool false) = W6 at HN6 ⊢
              clear hW y8 z8 HN5
              have HN7 := hid (HN6.out.grown (World.grownBy_alloc _ (.cells #[.int .i64 3, .int .i64 4] 3) none))
              have HGR := hid (f_group HN7.out.rd HA4.out _ 2 [3, 4] (num_two _ 3 4) (by decide) (by decide))
              go_wp2_with fail
              refine HGR.out.mono ?_
              intro e w7 h7
              cases hg : groupR 5000 [3, 4] T with
              | out => rw [hg] at h7; exact h7.elim
              | bad q c =>
                rw [hg] at h7
                obtain ⟨rfl, f7⟩ := h7
                have ER2 : Hid (R = .bad q c) := by
                  have := HEQ3.out
                  rw [hg, bind_bad, bind_bad] at this
                  exact this.symm
                have F7 := hid ((HRW.out.adv.trans HN7.out.adv).fr.trans f7 (fun j hj e => .inl e))
                clear hg f7 HGR
                go_wp2
                refine ⟨rfl, ?_⟩
                rw [ER2.out]
                exact ⟨rfl, F7.out⟩
              | ok g r8 =>
                rw [hg] at h7
                obtain ⟨sl, rfl, ho8, k8, h8, ha8, hk8, f8⟩ := h7
                obtain ⟨g1, ns⟩ := g
                have HEQ4 : Hid (((P f3 (lv + 1) nest r8).bind fun a r2' => (P f3 (lv + 7) nest r2').bind fun b r3 => .ok (a ++ [binN N false g1 ns] ++ b) r3).bind (fun b r => .ok (Q2.map (·.1) ++ b) r) = R) := by
                  have := HEQ3.out
                  rw [hg, bind_ok] at this
                  exact this
                have HN8 := hid (HN7.out.step h8 f8)
                have HA8 := hid ha8
                have hk28 : k2 < k8 := by omega
                have HB2 := hid (HN8.out.group g1 sl ns (SOwn.base ho8 (by have := HN7.out.adv.fr.size; omega)) (fun j hj e => by
                  have h1 := (SOwn.block ho8 j hj).1
                  have h2 := (SOwn.block HN7.out.rd.nds.own j e).2
                  omega))
                obtain ⟨n0, n1, n2, n3, n4, n5, n6, n7, n8, n9⟩ := HN8.out.cells
                have z6 := free_row HN8.out.row 6
                have z7 := free_row HN8.out.row 7
                have hne3 : P f3 (lv + 1) nest r8 ≠ .out := bind_out (bind_out (by rw [HEQ4.out]; exact HNE.out))
                have HNE3 := hid hne3
                have hl28 : (L ++ Q2).length ≤ k8 := by have := HRW.out.len; omega
                have HB := hid (HP.out f3 hf3 nest k8 v2 (L ++ Q2) r8 _ HB2.out.rd HA8.out hl28 hn hne3)
                have HFW := hid (P_few f3 (lv + 1) nest r8 (by have := take_ahead HA8.out; omega))
                obtain ⟨x1, x2, x3⟩ := sl
                simp only [slV] at HB2 HB ⊢
                clear hg h8 ho8 ha8 f8 HGR n0 n1 n2 n3 n4 n5 n8 n9 hne3
                go_wp2_with fail
                refine HB.out.mono ?_
                intro e w9 h9
                cases hx : P f3 (lv + 1) nest r8 with
                | out => exact absurd hx HNE3.out
                | bad q c =>
                  rw [hx] at h9
                  obtain ⟨rfl, f9⟩ := h9
                  have ER3 : Hid (R = .bad q c) := by
                    have := HEQ4.out
                    rw [hx, bind_bad, bind_bad] at this
                    exact this.symm
                  have A9 := hid (HRW.out.adv.trans HB2.out.adv)
                  have F9 := hid (A9.out.fr.trans f9 (fun j hj e => by
                    rcases e with e | e
                    · exact .inl e
                    · rcases A9.out.new j e with e2 | e2
                      · exact .inr e2
                      · omega))
                  clear hx f9 HB A9
                  go_wp2
                  refine ⟨rfl, ?_⟩
                  rw [ER3.out]
                  exact ⟨rfl, F9.out⟩
                | ok a r9 =>
                  rw [hx] at h9
                  obtain ⟨rfl, v9, k9, Q9, h9, hq9, ha9, hk9, a9⟩ := h9
                  have HN9 := hid (HB2.out.go h9 a9)
                  have HQ9 := hid hq9
                  have HA9 := hid ha9
                  have hln := few_ok HFW.out hx
                  have hlen : (L ++ Q2 ++ Q9).length + 1 ≤ k9 := by
                    have h1 := HA8.out.len
                    have h2 := HA9.out.len
                    have h3 : Q9.length = a.length := by rw [← hq9, List.length_map]
                    have h4 := HRW.out.len
                    rw [List.length_append]
                    omega
                  have HLEN := hid hlen
                  have hbig : (L ++ Q2 ++ Q9).length ≤ 1000000 := by have := HA9.out.len; have := HA9.out.small; omega
                  have HT := hid (f_tellN HN9.out hbig)
                  obtain ⟨n0, n1, n2, n3, n4, n5, n6', n7', n8, n9⟩ := HN9.out.cells
                  simp only [binN, ndA, slV] at HT n0 n1 n2 n3 n4 n5 n6' n7' n8 n9
                  have HXE := hid hx
                  clear hx h9 hq9 ha9 a9 HB hlen hbig
                  go_wp2_with fail
                  refine HT.out.mono ?_
                  rintro e w10 ⟨rfl, v10, h10, a10⟩
                  have HRW2 : Hid (RwAt lv nest n b p K k v L a2 R w w10 f3 k9 v10 (Q2 ++ Q9 ++ [(binN N false g1 ns, nilS, (x1, x2, x3))]) r9) := by
                    refine ⟨?_, HRW.out.ops.go a10, HA9.out, Nat.le_trans HRW.out.le (by omega), HRW.out.adv.trans a10, ?_, hf3, ?_⟩
                    · rw [← List.append_assoc, ← List.append_assoc]
                      exact h10
                    · have := HLEN.out
                      simp only [List.length_append, List.length_singleton] at this ⊢
                      omega
                    · have he := HEQ4.out
                      rw [HXE.out, bind_ok, bind_assoc] at he
                      rw [← he]
                      congr 1
                      funext b1 r1
                      rw [bind_ok, List.map_append, List.map_append, HQ9.out]
                      simp only [List.map_cons, List.map_nil, List.append_assoc]
                  have HAT10 : Hid (atW p w10 = k9) := atW_eq h10
                  clear h10 a10 HT n0 n1 n2 n3 n4 n5 n6' n7' n8 n9
                  go_wp2
                  go_roundw
                  case rel => exact ⟨f3, k9, v10, _, r9, HRW2⟩
                  case measure => rw [HAT.out, HAT10.out]; omega
          | false =>
            rw [hcb] at HC
            have HEQ3 : Hid (((groupR 5000 [3, 4] T).bind fun g r =>
                (P f3 (lv + 1) nest r).bind fun a r2' => (P f3 (lv + 7) nest r2').bind fun b r3 =>
                  .ok (a ++ [binN N false g.1 g.2] ++ b) r3).bind (fun b r => .ok (Q2.map (·.1) ++ b) r) = R) := by
              have := HEQ2.out
              have e1 : boolN N T = false := by unfold boolN; have := hcb; unfold cmpB at this; rw [this, Bool.false_and]
              have e2 : boolR N T = T := by unfold boolR; rw [if_neg (by rw [e1]; simp)]
              rw [e1, e2] at this
              exact this
            have HN6 : Hid (NAt wr v2 w4.heap.size b p K k4 (nest : Int) v2 (L ++ Q2) (binN N false 0 []) nilS nilS (w4.alloc (.cells #[.int .i64 6, .int .i64 N, .string ⟨#[]⟩, .slice none 0 0, .int .i64 0, .int .i64 0, .int .i64 0, .slice none 0 0, .bool false, .int .i64 2] 34))) := HN1
            clear hz HEQ hcb HEQ2
            go_wp2_with fail
            refine (HC.out _).mono ?_
            rintro e w5 ⟨rfl, rfl⟩
            clear n0 n1 n2 n3 n4 n5 n6 n7 n8 n9
            go_upto_region 4 with fail
            generalize hW : (w4.alloc (.cells #[.int .i64 6, .int .i64 N, .string ⟨#[]⟩, .slice none 0 0, .int .i64 0, .int .i64 0, .int .i64 0, .slice none 0 0, .bool false, .int .i64 2] 34)) = W6 at HN6 ⊢
            clear hW z8 HN1
            have HN7 := hid (HN6.out.grown (World.grownBy_alloc _ (.cells #[.int .i64 3, .int .i64 4] 3) none))
            have HGR := hid (f_group HN7.out.rd HA4.out _ 2 [3, 4] (num_two _ 3 4) (by decide) (by decide))
            go_wp2_with fail
            refine HGR.out.mono ?_
            intro e w7 h7
            cases hg : groupR 5000 [3, 4] T with
            | out => rw [hg] at h7; exact h7.elim
            | bad q c =>
              rw [hg] at h7
              obtain ⟨rfl, f7⟩ := h7
              have ER2 : Hid (R = .bad q c) := by
                have := HEQ3.out
                rw [hg, bind_bad, bind_bad] at this
                exact this.symm
              have F7 := hid ((HRW.out.adv.trans HN7.out.adv).fr.trans f7 (fun j hj e => .inl e))
              clear hg f7 HGR
              go_wp2
              refine ⟨rfl, ?_⟩
              rw [ER2.out]
              exact ⟨rfl, F7.out⟩
            | ok g r8 =>
              rw [hg] at h7
              obtain ⟨sl, rfl, ho8, k8, h8, ha8, hk8, f8⟩ := h7
              obtain ⟨g1, ns⟩ := g
              have HEQ4 : Hid (((P f3 (lv + 1) nest r8).bind fun a r2' => (P f3 (lv + 7) nest r2').bind fun b r3 => .ok (a ++ [binN N false g1 ns] ++ b) r3).bind (fun b r => .ok (Q2.map (·.1) ++ b) r) = R) := by
                have := HEQ3.out
                rw [hg, bind_ok] at this
                exact this
              have HN8 := hid (HN7.out.step h8 f8)
              have HA8 := hid ha8
              have hk28 : k2 < k8 := by omega
              have HB2 := hid (HN8.out.group g1 sl ns (SOwn.base ho8 (by have := HN7.out.adv.fr.size; omega)) (fun j hj e => by
                have h1 := (SOwn.block ho8 j hj).1
                have h2 := (SOwn.block HN7.out.rd.nds.own j e).2
                omega))
              obtain ⟨n0, n1, n2, n3, n4, n5, n6, n7, n8, n9⟩ := HN8.out.cells
              have z6 := free_row HN8.out.row 6
              have z7 := free_row HN8.out.row 7
              have hne3 : P f3 (lv + 1) nest r8 ≠ .out := bind_out (bind_out (by rw [HEQ4.out]; exact HNE.out))
              have HNE3 := hid hne3
              have hl28 : (L ++ Q2).length ≤ k8 := by have := HRW.out.len; omega
              have HB := hid (HP.out f3 hf3 nest k8 v2 (L ++ Q2) r8 _ HB2.out.rd HA8.out hl28 hn hne3)
              have HFW := hid (P_few f3 (lv + 1) nest r8 (by have := take_ahead HA8.out; omega))
              obtain ⟨x1, x2, x3⟩ := sl
              simp only [slV] at HB2 HB ⊢
              clear hg h8 ho8 ha8 f8 HGR n0 n1 n2 n3 n4 n5 n8 n9 hne3
              go_wp2_with fail
              refine HB.out.mono ?_
              intro e w9 h9
              cases hx : P f3 (lv + 1) nest r8 with
              | out => exact absurd hx HNE3.out
              | bad q c =>
                rw [hx] at h9
                obtain ⟨rfl, f9⟩ := h9
                have ER3 : Hid (R = .bad q c) := by
                  have := HEQ4.out
                  rw [hx, bind_bad, bind_bad] at this
                  exact this.symm
                have A9 := hid (HRW.out.adv.trans HB2.out.adv)
                have F9 := hid (A9.out.fr.trans f9 (fun j hj e => by
                  rcases e with e | e
                  · exact .inl e
                  · rcases A9.out.new j e with e2 | e2
                    · exact .inr e2
                    · omega))
                clear hx f9 HB A9
                go_wp2
                refine ⟨rfl, ?_⟩
                rw [ER3.out]
                exact ⟨rfl, F9.out⟩
              | ok a r9 =>
                rw [hx] at h9
                obtain ⟨rfl, v9, k9, Q9, h9, hq9, ha9, hk9, a9⟩ := h9
                have HN9 := hid (HB2.out.go h9 a9)
                have HQ9 := hid hq9
                have HA9 := hid ha9
                have hln := few_ok HFW.out hx
                have hlen : (L ++ Q2 ++ Q9).length + 1 ≤ k9 := by
                  have h1 := HA8.out.len
                  have h2 := HA9.out.len
                  have h3 : Q9.length = a.length := by rw [← hq9, List.length_map]
                  have h4 := HRW.out.len
                  rw [List.length_append]
                  omega
                have HLEN := hid hlen
                have hbig : (L ++ Q2 ++ Q9).length ≤ 1000000 := by have := HA9.out.len; have := HA9.out.small; omega
                have HT := hid (f_tellN HN9.out hbig)
                obtain ⟨n0, n1, n2, n3, n4, n5, n6', n7', n8, n9⟩ := HN9.out.cells
                simp only [binN, ndA, slV] at HT n0 n1 n2 n3 n4 n5 n6' n7' n8 n9
                have HXE := hid hx
                clear hx h9 hq9 ha9 a9 HB hlen hbig
                go_wp2_with fail
                refine HT.out.mono ?_
                rintro e w10 ⟨rfl, v10, h10, a10⟩
                have HRW2 : Hid (RwAt lv nest n b p K k v L a2 R w w10 f3 k9 v10 (Q2 ++ Q9 ++ [(binN N false g1 ns, nilS, (x1, x2, x3))]) r9) := by
                  refine ⟨?_, HRW.out.ops.go a10, HA9.out, Nat.le_trans HRW.out.le (by omega), HRW.out.adv.trans a10, ?_, hf3, ?_⟩
                  · rw [← List.append_assoc, ← List.append_assoc]
                    exact h10
                  · have := HLEN.out
                    simp only [List.length_append, List.length_singleton] at this ⊢
                    omega
                  · have he := HEQ4.out
                    rw [HXE.out, bind_ok, bind_assoc] at he
                    rw [← he]
                    congr 1
                    funext b1 r1
                    rw [bind_ok, List.map_append, List.map_append, HQ9.out]
                    simp only [List.map_cons, List.map_nil, List.append_assoc]
                have HAT10 : Hid (atW p w10 = k9) := atW_eq h10
                clear h10 a10 HT n0 n1 n2 n3 n4 n5 n6' n7' n8 n9
                go_wp2
                go_roundw
                case rel => exact ⟨f3, k9, v10, _, r9, HRW2⟩
                case measure => rw [HAT.out, HAT10.out]; omega
end Go.Proofs.Ytnimdngiejcljaa
