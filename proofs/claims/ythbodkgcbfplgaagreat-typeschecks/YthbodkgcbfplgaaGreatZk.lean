/- Several texts in one: Qe, Qf, Qg, Qh, Qi, Qj. -/
import Derived.Test.YthbodkgcbfplgaaGreatQd
import Derived.Recover
import Derived.Test.YthbodkgcbfplgaaGreatZd
/- Package parse: a row. -/
namespace Go.Proofs.YthbodkgcbfplgaaGreat
open Go.RowKit
set_option linter.unusedVariables false
set_option linter.unusedSimpArgs false
set_option maxRecDepth 20000

def cmpB (n : Int) : Bool := decide (5 ≤ n) && decide (n ≤ 10)
theorem f_isCmp (n : Int) (w : World) : Calls Tryz.prog 52 #[.int .i64 n] w fun e w' => e = .returned (.bool (cmpB n)) ∧ w' = w := by
  unfold cmpB
  by_cases h : 5 ≤ n
  · have q0 : decide (5 ≤ n) = true := by simpa using h
    have Q0 := hid q0
    clear h
    go_enter Tryz.func52, Tryz.ntmps52
    go_wp2
    go_ret
    exact ⟨ret_bool (by rw [Q0.out, Bool.true_and]), rfl⟩
  · have q0 : decide (5 ≤ n) = false := by simpa using h
    have Q0 := hid q0
    clear h
    go_enter Tryz.func52, Tryz.ntmps52
    go_wp2
    go_ret
    exact ⟨ret_bool (by rw [Q0.out, Bool.false_and]), rfl⟩
theorem bind_assoc {α β γ : Type} (x : Rs α) (f : α → List Tok → Rs β) (g : β → List Tok → Rs γ) : (x.bind f).bind g = x.bind fun a r => (f a r).bind g := by cases x <;> rfl
/-- The numbers of the operations that may be. -/
structure OpsAt (p : Nat) (a2 : Option Addr) (may : List Int) (w : World) (v : Value) : Prop where
  ex : ∃ ob, a2 = some ⟨ob, 0, none⟩ ∧ SRd numE w a2 may ∧ ob < w.heap.size ∧ ob ≠ p ∧ v.ownBlock ≠ some ob
theorem OpsAt.go {p : Nat} {a2 : Option Addr} {may : List Int} {w w' : World} {v v' : Value} (h : OpsAt p a2 may w v) (ha : Adv p w v w' v') : OpsAt p a2 may w' v' := by
  obtain ⟨ob, e, hr, hl, hp, hv⟩ := h.ex
  subst e
  refine ⟨ob, rfl, srd_same hr (ha.fr.block ob hl (fun e => by rcases e with e | e; exact hp e; exact hv e)), Nat.lt_of_lt_of_le hl ha.fr.size, hp, fun e => ?_⟩
  rcases ha.new ob e with e2 | e2
  · exact hv e2
  · omega
theorem OpsAt.rd {p : Nat} {a2 : Option Addr} {may : List Int} {w : World} {v : Value} (h : OpsAt p a2 may w v) : SRd numE w a2 may := by
  obtain ⟨ob, e, hr, _⟩ := h.ex
  exact hr
theorem rowOps_no (lv : Nat) : (rowOps lv).contains 0 = false ∧ (rowOps lv).length ≤ 1000 := by
  match lv with
  | 0 => decide
  | 1 => decide
  | 2 => decide
  | 3 => decide
  | n + 4 => exact ⟨rfl, by show 2 ≤ 1000; omega⟩
theorem P_loop (f lv nest : Nat) (ts : List Tok) : P (f + 1) (lv + 7) nest ts =
    if takeN opsR (rowOps lv) ts = 0 then .ok [] ts
    else (groupR 5000 [3, 4] (boolR (takeN opsR (rowOps lv) ts) (takeR opsR (rowOps lv) ts))).bind fun g r =>
      (P f (lv + 1) nest r).bind fun a r2 => (P f (lv + 7) nest r2).bind fun b r3 =>
        .ok (a ++ [binN (takeN opsR (rowOps lv) ts) (boolN (takeN opsR (rowOps lv) ts) (takeR opsR (rowOps lv) ts)) g.1 g.2] ++ b) r3 := by
  rw [P_succ, if_neg (by omega), if_neg (by omega), if_neg (by omega)]
  rfl
theorem P_level {f lv nest : Nat} {ts : List Tok} (h : lv < 5) : P (f + 1) lv nest ts = (P f (lv + 1) nest ts).bind fun a r => (P f (lv + 7) nest r).bind fun b r => .ok (a ++ b) r := by rw [P_succ, if_pos h]
/-- Between the parts of a row. -/
structure RwAt (lv nest n b p : Nat) (K : Tk) (k : Nat) (v : Value) (L : List Row) (a2 : Option Addr) (R : Rs (List Nd)) (w wr : World) (f2 k2 : Nat) (v2 : Value) (Q2 : List Row) (r2 : List Tok) : Prop where
  rd : RdAt wr b p K k2 (nest : Int) v2 (L ++ Q2)
  ops : OpsAt p a2 (rowOps lv) wr v2
  ah : Ahead K k2 r2
  le : k ≤ k2
  adv : Adv p w v wr v2
  len : (L ++ Q2).length ≤ k2
  fl : f2 ≤ n
  eq : ((P f2 (lv + 7) nest r2).bind fun b r => .ok (Q2.map (·.1) ++ b) r) = R
end Go.Proofs.YthbodkgcbfplgaaGreat

/- Package parse: a row, walked. -/
namespace Go.Proofs.YthbodkgcbfplgaaGreat
open Go.RowKit
set_option linter.unusedVariables false
set_option linter.unusedSimpArgs false
set_option maxRecDepth 20000

set_option maxHeartbeats 8000000 in
theorem f_row {b p : Nat} {K : Tk} (fn lv n : Nat) (hlv : lv < 5) (hE : ∀ w, (callFunc fn #[.pointer (some ⟨p, 0, none⟩)]).run Tryz.prog w = .ok (.enter fn #[.pointer (some ⟨p, 0, none⟩)]) w) (hP : ∀ f, f ≤ n → LvOk b p K fn (P f (lv + 1))) {nest k : Nat} {v : Value} {L : List Row} {ts : List Tok} {w : World} (a2 : Option Addr) (c2 : Nat) (h : RdAt w b p K k (nest : Int) v L) (ho : OpsAt p a2 (rowOps lv) w v) (ha : Ahead K k ts) (hL : L.length ≤ k) (hn : nest ≤ 64) (hne : P (n + 1) lv nest ts ≠ .out) :
    Calls Tryz.prog 64 #[.pointer (some ⟨p, 0, none⟩), .func (.func fn) #[.pointer (some ⟨p, 0, none⟩)] #[], .slice a2 (rowOps lv).length c2] w fun e w' => PQ b p K k (nest : Int) v L (P (n + 1) lv nest ts) w e w' := by
  obtain ⟨R, eR⟩ : ∃ R, P (n + 1) lv nest ts = R := ⟨_, rfl⟩
  rw [P_level hlv] at hne
  have hne1 : P n (lv + 1) nest ts ≠ .out := bind_out hne
  have ER : Hid (((P n (lv + 1) nest ts).bind fun a r => (P n (lv + 7) nest r).bind fun b r => .ok (a ++ b) r) = R) := by rw [P_level hlv] at eR; exact eR
  rw [ER.out] at hne
  rw [eR]
  have HNE := hid hne
  have HNE1 := hid hne1
  have HP := hid hP
  have H := hid h
  have HO := hid ho
  have HA := hid ha
  have HL := hid hL
  have HP0 := hid (hP n (Nat.le_refl _) nest k v L ts w h ha hL hn hne1)
  have HM := hid (rowOps_no lv)
  have HLW := hid (P_few n (lv + 1) nest ts (by have := take_ahead ha; omega))
  obtain ⟨ML, eML⟩ : ∃ ML, ML = (rowOps lv).length := ⟨_, rfl⟩
  have EML := hid eML
  rw [← eML]
  clear h ho ha hL hne hne1 hP eR eML
  go_enter Tryz.func64, Tryz.ntmps64
  go_wp2_with fail
  refine HP0.out.mono ?_
  intro e w1 h1
  cases hx : P n (lv + 1) nest ts with
  | out => exact absurd hx HNE1.out
  | bad q c =>
    rw [hx] at h1
    obtain ⟨rfl, f1⟩ := h1
    have ER1 : Hid (R = .bad q c) := by
      have := ER.out
      rw [hx, bind_bad] at this
      exact this.symm
    have F1 := hid f1
    clear hx f1 HP0 ER
    go_wp2
    refine ⟨rfl, ?_⟩
    rw [ER1.out]
    exact ⟨rfl, F1.out⟩
  | ok a r =>
    rw [hx] at h1
    obtain ⟨rfl, v1, k1, Q1, h1, hq1, ha1, hk1, a1⟩ := h1
    have HRW : Hid (RwAt lv nest n b p K k v L a2 R w w1 n k1 v1 Q1 r) := by
      refine ⟨h1, HO.out.go a1, ha1, hk1, a1, tell_len HL.out ha1 hq1 (few_ok HLW.out hx) HA.out, Nat.le_refl _, ?_⟩
      have := ER.out
      rw [hx, bind_ok] at this
      rw [hq1]
      exact this
    clear hx h1 hq1 ha1 hk1 a1 HP0 ER HNE1 HLW HO
    go_wp2_with fail
    go_loopw [] (fun wr => ∃ f2 k2 v2 Q2 r2, Hid (RwAt lv nest n b p K k v L a2 R w wr f2 k2 v2 Q2 r2)) (fun wr => K.T.length - atW p wr)
    case atStart => exact ⟨n, k1, v1, Q1, r, HRW⟩
    case round =>
      clear HRW
      obtain ⟨f2, k2, v2, Q2, r2, HRW⟩ := hrel
      cases f2 with
      | zero => exact absurd HRW.out.eq.symm HNE.out
      | succ f3 =>
        have HLT := hid HRW.out.ah.lt
        have hsm := HRW.out.ah.small
        have hlt := HLT.out
        have HAT : Hid (atW p wr = k2) := atW_eq HRW.out.rd
        have hf3 : f3 ≤ n := by have := HRW.out.fl; omega
        have HEQ : Hid (((if takeN opsR (rowOps lv) r2 = 0 then .ok [] r2
            else (groupR 5000 [3, 4] (boolR (takeN opsR (rowOps lv) r2) (takeR opsR (rowOps lv) r2))).bind fun g r =>
              (P f3 (lv + 1) nest r).bind fun a r2' => (P f3 (lv + 7) nest r2').bind fun b r3 =>
                .ok (a ++ [binN (takeN opsR (rowOps lv) r2) (boolN (takeN opsR (rowOps lv) r2) (takeR opsR (rowOps lv) r2)) g.1 g.2] ++ b) r3) : Rs (List Nd)).bind (fun b r => .ok (Q2.map (·.1) ++ b) r) = R) := by
          have := HRW.out.eq
          rw [P_loop] at this
          exact this
        obtain ⟨N, eN⟩ : ∃ N, takeN opsR (rowOps lv) r2 = N := ⟨_, rfl⟩
        obtain ⟨T, eT⟩ : ∃ T, takeR opsR (rowOps lv) r2 = T := ⟨_, rfl⟩
        rw [eN, eT] at HEQ
        have EN := hid eN
        have ET := hid eT
        clear eN eT
        go_wp2_with fail
        refine (f_ops _).mono ?_
        rintro e w3 ⟨a3, c3, rfl, hr3, g3⟩
        have HR3 := hid hr3
        have G3 := hid g3
        have HON := hid (f_one (HRW.out.rd.grown g3) HRW.out.ah a3 a2 c3 c2 opsR (rowOps lv) hr3 (by decide) (HRW.out.ops.go (.gb g3)).rd HM.out.2 HM.out.1)
        rw [← EML.out] at HON
        clear hr3 g3
        go_wp2_with fail
        refine HON.out.mono ?_
        rintro e w4 ⟨rfl, k4, h4, ha4, hk4, hkk4, f4⟩
        rw [EN.out] at hkk4
        rw [EN.out]
        rw [ET.out] at ha4
        have HA4 := hid ha4
        have HF4 : Hid (Fr (Me p) wr w4) := (Fr.of (S := Me p) G3.out).trans f4 (fun _ _ e => e)
        have HN1 := hid (NAt.made HRW.out.rd h4 HF4.out (binN N false 0 []) nilS nilS (SOwn.nil _ _ _) (SOwn.nil _ _ _))
        obtain ⟨n0, n1, n2, n3, n4, n5, n6, n7, n8, n9⟩ := HN1.out.cells
        have HK4 := hid hk4
        have HKK4 := hid hkk4
        have z8 := free_row HN1.out.row 8
        have hsz4 : wr.heap.size ≤ w4.heap.size := HF4.out.size
        obtain ⟨NB, eNB⟩ : ∃ NB, NB = w4.heap.size := ⟨_, rfl⟩
        simp only [binN, ndA, slV] at n0 n1 n2 n3 n4 n5 n6 n7 n8 n9
        clear h4 ha4 f4 HON G3 HR3 hk4 hkk4
        by_cases hz : N = 0
        · have q0 : (N == 0) = true := by simpa using hz
          have ER2 : Hid (R = .ok (Q2.map (·.1)) r2) := by
            have := HEQ.out
            rw [if_pos hz, bind_ok, List.append_nil] at this
            exact this.symm
          have ETS : Hid (T = r2) := by
            show _ = _
            rw [← ET.out]
            have := EN.out
            rw [hz] at this
            unfold takeN at this
            unfold takeR
            split at this
            · rename_i hc
              rw [this, HM.out.1] at hc
              cases hc
            · rename_i hc
              rw [if_neg hc]
          clear hz HEQ n0 n2 n3 n4 n5 n6 n7 n8 n9 z8
          go_wp2
          go_end0
          rw [ER2.out]
          refine ⟨rfl, v2, k4, Q2, HN1.out.rd, rfl, by rw [← ETS.out]; exact HA4.out, Nat.le_trans HRW.out.le HK4.out, HRW.out.adv.trans HN1.out.adv⟩
        · have q0 : (N == 0) = false := by simpa using hz
          have hkk : k2 < k4 := HKK4.out hz
          have HEQ2 : Hid (((groupR 5000 [3, 4] (boolR N T)).bind fun g r =>
              (P f3 (lv + 1) nest r).bind fun a r2' => (P f3 (lv + 7) nest r2').bind fun b r3 =>
                .ok (a ++ [binN N (boolN N T) g.1 g.2] ++ b) r3).bind (fun b r => .ok (Q2.map (·.1) ++ b) r) = R) := by
            have := HEQ.out
            rw [if_neg hz] at this
            exact this
          have HC := hid (f_isCmp N)
          cases hcb : cmpB N with
          | true =>
            rw [hcb] at HC
            have HCB := hid hcb
            clear hz HEQ hcb
            go_wp2_with fail
            refine (HC.out _).mono ?_
            rintro e w5 ⟨rfl, rfl⟩
            clear n0 n1 n2 n3 n4 n5 n6 n7 n8 n9 z8
            go_wp2_with fail
            refine (f_takes HN1.out.rd HA4.out boolS).mono ?_
            rintro e w5 (⟨hb, rfl, h5, f5⟩ | ⟨hb, rfl, g5⟩)
            · have HN5 := hid (HN1.out.step h5 f5)
              have HA5 := hid (HA4.out.next (mean_next hb))
              have HEQ3 : Hid (((groupR 5000 [3, 4] T.tail).bind fun g r =>
                  (P f3 (lv + 1) nest r).bind fun a r2' => (P f3 (lv + 7) nest r2').bind fun b r3 =>
                    .ok (a ++ [binN N true g.1 g.2] ++ b) r3).bind (fun b r => .ok (Q2.map (·.1) ++ b) r) = R) := by
                have := HEQ2.out
                have e1 : boolN N T = true := by unfold boolN; rw [hb, Bool.and_true]; exact HCB.out
                have e2 : boolR N T = T.tail := by unfold boolR; rw [if_pos e1]
                rw [e1, e2] at this
                exact this
              have y8 := (NAt.cells HN5.out).2.2.2.2.2.2.2.2.1
              have z8 := free_row HN5.out.row 8
              have HN6 := hid (HN5.out.bool true)
              clear hb h5 f5 HEQ2 HN1
              go_upto_region 4 with fail
              generalize hW : w5.setCell ⟨w4.heap.size, 8, none⟩ (.bool true) = W6 at HN6 ⊢
              clear hW y8 z8 HN5
              have HN7 := hid (HN6.out.grown (World.grownBy_alloc _ (.cells #[.int .i64 3, .int .i64 4] 3) none))
              have HGR := hid (f_group HN7.out.rd HA5.out _ 2 [3, 4] (num_two _ 3 4) (by decide) (by decide))
              go_wp2_with fail
              refine HGR.out.mono ?_
              intro e w7 h7
              cases hg : groupR 5000 [3, 4] T.tail with
              | out => rw [hg] at h7; exact h7.elim
              | bad q c =>
                rw [hg] at h7
                obtain ⟨rfl, f7⟩ := h7
                have ER2 : Hid (R = .bad q c) := by
                  have := HEQ3.out
                  rw [hg, bind_bad, bind_bad] at this
                  exact this.symm
                have F7 := hid ((HRW.out.adv.trans HN7.out.adv).fr.trans f7 (fun j hj e => .inl e))
                clear hg f7 HGR
                go_wp2
                refine ⟨rfl, ?_⟩
                rw [ER2.out]
                exact ⟨rfl, F7.out⟩
              | ok g r8 =>
                rw [hg] at h7
                obtain ⟨sl, rfl, ho8, k8, h8, ha8, hk8, f8⟩ := h7
                obtain ⟨g1, ns⟩ := g
                have HEQ4 : Hid (((P f3 (lv + 1) nest r8).bind fun a r2' => (P f3 (lv + 7) nest r2').bind fun b r3 => .ok (a ++ [binN N true g1 ns] ++ b) r3).bind (fun b r => .ok (Q2.map (·.1) ++ b) r) = R) := by
                  have := HEQ3.out
                  rw [hg, bind_ok] at this
                  exact this
                have HN8 := hid (HN7.out.step h8 f8)
                have HA8 := hid ha8
                have hk28 : k2 < k8 := by omega
                have HB2 := hid (HN8.out.group g1 sl ns (SOwn.base ho8 (by have := HN7.out.adv.fr.size; omega)) (fun j hj e => by
                  have h1 := (SOwn.block ho8 j hj).1
                  have h2 := (SOwn.block HN7.out.rd.nds.own j e).2
                  omega))
                obtain ⟨n0, n1, n2, n3, n4, n5, n6, n7, n8, n9⟩ := HN8.out.cells
                have z6 := free_row HN8.out.row 6
                have z7 := free_row HN8.out.row 7
                have hne3 : P f3 (lv + 1) nest r8 ≠ .out := bind_out (bind_out (by rw [HEQ4.out]; exact HNE.out))
                have HNE3 := hid hne3
                have hl28 : (L ++ Q2).length ≤ k8 := by have := HRW.out.len; omega
                have HB := hid (HP.out f3 hf3 nest k8 v2 (L ++ Q2) r8 _ HB2.out.rd HA8.out hl28 hn hne3)
                have HFW := hid (P_few f3 (lv + 1) nest r8 (by have := take_ahead HA8.out; omega))
                obtain ⟨x1, x2, x3⟩ := sl
                simp only [slV] at HB2 HB ⊢
                clear hg h8 ho8 ha8 f8 HGR n0 n1 n2 n3 n4 n5 n8 n9 hne3
                go_wp2_with fail
                refine HB.out.mono ?_
                intro e w9 h9
                cases hx : P f3 (lv + 1) nest r8 with
                | out => exact absurd hx HNE3.out
                | bad q c =>
                  rw [hx] at h9
                  obtain ⟨rfl, f9⟩ := h9
                  have ER3 : Hid (R = .bad q c) := by
                    have := HEQ4.out
                    rw [hx, bind_bad, bind_bad] at this
                    exact this.symm
                  have A9 := hid (HRW.out.adv.trans HB2.out.adv)
                  have F9 := hid (A9.out.fr.trans f9 (fun j hj e => by
                    rcases e with e | e
                    · exact .inl e
                    · rcases A9.out.new j e with e2 | e2
                      · exact .inr e2
                      · omega))
                  clear hx f9 HB A9
                  go_wp2
                  refine ⟨rfl, ?_⟩
                  rw [ER3.out]
                  exact ⟨rfl, F9.out⟩
                | ok a r9 =>
                  rw [hx] at h9
                  obtain ⟨rfl, v9, k9, Q9, h9, hq9, ha9, hk9, a9⟩ := h9
                  have HN9 := hid (HB2.out.go h9 a9)
                  have HQ9 := hid hq9
                  have HA9 := hid ha9
                  have hln := few_ok HFW.out hx
                  have hlen : (L ++ Q2 ++ Q9).length + 1 ≤ k9 := by
                    have h1 := HA8.out.len
                    have h2 := HA9.out.len
                    have h3 : Q9.length = a.length := by rw [← hq9, List.length_map]
                    have h4 := HRW.out.len
                    rw [List.length_append]
                    omega
                  have HLEN := hid hlen
                  have hbig : (L ++ Q2 ++ Q9).length ≤ 1000000 := by have := HA9.out.len; have := HA9.out.small; omega
                  have HT := hid (f_tellN HN9.out hbig)
                  obtain ⟨n0, n1, n2, n3, n4, n5, n6', n7', n8, n9⟩ := HN9.out.cells
                  simp only [binN, ndA, slV] at HT n0 n1 n2 n3 n4 n5 n6' n7' n8 n9
                  have HXE := hid hx
                  clear hx h9 hq9 ha9 a9 HB hlen hbig
                  go_wp2_with fail
                  refine HT.out.mono ?_
                  rintro e w10 ⟨rfl, v10, h10, a10⟩
                  have HRW2 : Hid (RwAt lv nest n b p K k v L a2 R w w10 f3 k9 v10 (Q2 ++ Q9 ++ [(binN N true g1 ns, nilS, (x1, x2, x3))]) r9) := by
                    refine ⟨?_, HRW.out.ops.go a10, HA9.out, Nat.le_trans HRW.out.le (by omega), HRW.out.adv.trans a10, ?_, hf3, ?_⟩
                    · rw [← List.append_assoc, ← List.append_assoc]
                      exact h10
                    · have := HLEN.out
                      simp only [List.length_append, List.length_singleton] at this ⊢
                      omega
                    · have he := HEQ4.out
                      rw [HXE.out, bind_ok, bind_assoc] at he
                      rw [← he]
                      congr 1
                      funext b1 r1
                      rw [bind_ok, List.map_append, List.map_append, HQ9.out]
                      simp only [List.map_cons, List.map_nil, List.append_assoc]
                  have HAT10 : Hid (atW p w10 = k9) := atW_eq h10
                  clear h10 a10 HT n0 n1 n2 n3 n4 n5 n6' n7' n8 n9
                  go_wp2
                  go_roundw
                  case rel => exact ⟨f3, k9, v10, _, r9, HRW2⟩
                  case measure => rw [HAT.out, HAT10.out]; omega
            · have HN5 := hid (HN1.out.grown g5)
              have HEQ3 : Hid (((groupR 5000 [3, 4] T).bind fun g r =>
                  (P f3 (lv + 1) nest r).bind fun a r2' => (P f3 (lv + 7) nest r2').bind fun b r3 =>
                    .ok (a ++ [binN N false g.1 g.2] ++ b) r3).bind (fun b r => .ok (Q2.map (·.1) ++ b) r) = R) := by
                have := HEQ2.out
                have e1 : boolN N T = false := by unfold boolN; rw [hb, Bool.and_false]
                have e2 : boolR N T = T := by unfold boolR; rw [if_neg (by rw [e1]; simp)]
                rw [e1, e2] at this
                exact this
              have y8 := (NAt.cells HN5.out).2.2.2.2.2.2.2.2.1
              have z8 := free_row HN5.out.row 8
              have HN6 := hid (HN5.out.bool false)
              clear hb g5 HEQ2 HN1
              go_upto_region 4 with fail
              generalize hW : w5.setCell ⟨w4.heap.size, 8, none⟩ (.bool false) = W6 at HN6 ⊢
              clear hW y8 z8 HN5
              have HN7 := hid (HN6.out.grown (World.grownBy_alloc _ (.cells #[.int .i64 3, .int .i64 4] 3) none))
              have HGR := hid (f_group HN7.out.rd HA4.out _ 2 [3, 4] (num_two _ 3 4) (by decide) (by decide))
              go_wp2_with fail
              refine HGR.out.mono ?_
              intro e w7 h7
              cases hg : groupR 5000 [3, 4] T with
              | out => rw [hg] at h7; exact h7.elim
              | bad q c =>
                rw [hg] at h7
                obtain ⟨rfl, f7⟩ := h7
                have ER2 : Hid (R = .bad q c) := by
                  have := HEQ3.out
                  rw [hg, bind_bad, bind_bad] at this
                  exact this.symm
                have F7 := hid ((HRW.out.adv.trans HN7.out.adv).fr.trans f7 (fun j hj e => .inl e))
                clear hg f7 HGR
                go_wp2
                refine ⟨rfl, ?_⟩
                rw [ER2.out]
                exact ⟨rfl, F7.out⟩
              | ok g r8 =>
                rw [hg] at h7
                obtain ⟨sl, rfl, ho8, k8, h8, ha8, hk8, f8⟩ := h7
                obtain ⟨g1, ns⟩ := g
                have HEQ4 : Hid (((P f3 (lv + 1) nest r8).bind fun a r2' => (P f3 (lv + 7) nest r2').bind fun b r3 => .ok (a ++ [binN N false g1 ns] ++ b) r3).bind (fun b r => .ok (Q2.map (·.1) ++ b) r) = R) := by
                  have := HEQ3.out
                  rw [hg, bind_ok] at this
                  exact this
                have HN8 := hid (HN7.out.step h8 f8)
                have HA8 := hid ha8
                have hk28 : k2 < k8 := by omega
                have HB2 := hid (HN8.out.group g1 sl ns (SOwn.base ho8 (by have := HN7.out.adv.fr.size; omega)) (fun j hj e => by
                  have h1 := (SOwn.block ho8 j hj).1
                  have h2 := (SOwn.block HN7.out.rd.nds.own j e).2
                  omega))
                obtain ⟨n0, n1, n2, n3, n4, n5, n6, n7, n8, n9⟩ := HN8.out.cells
                have z6 := free_row HN8.out.row 6
                have z7 := free_row HN8.out.row 7
                have hne3 : P f3 (lv + 1) nest r8 ≠ .out := bind_out (bind_out (by rw [HEQ4.out]; exact HNE.out))
                have HNE3 := hid hne3
                have hl28 : (L ++ Q2).length ≤ k8 := by have := HRW.out.len; omega
                have HB := hid (HP.out f3 hf3 nest k8 v2 (L ++ Q2) r8 _ HB2.out.rd HA8.out hl28 hn hne3)
                have HFW := hid (P_few f3 (lv + 1) nest r8 (by have := take_ahead HA8.out; omega))
                obtain ⟨x1, x2, x3⟩ := sl
                simp only [slV] at HB2 HB ⊢
                clear hg h8 ho8 ha8 f8 HGR n0 n1 n2 n3 n4 n5 n8 n9 hne3
                go_wp2_with fail
                refine HB.out.mono ?_
                intro e w9 h9
                cases hx : P f3 (lv + 1) nest r8 with
                | out => exact absurd hx HNE3.out
                | bad q c =>
                  rw [hx] at h9
                  obtain ⟨rfl, f9⟩ := h9
                  have ER3 : Hid (R = .bad q c) := by
                    have := HEQ4.out
                    rw [hx, bind_bad, bind_bad] at this
                    exact this.symm
                  have A9 := hid (HRW.out.adv.trans HB2.out.adv)
                  have F9 := hid (A9.out.fr.trans f9 (fun j hj e => by
                    rcases e with e | e
                    · exact .inl e
                    · rcases A9.out.new j e with e2 | e2
                      · exact .inr e2
                      · omega))
                  clear hx f9 HB A9
                  go_wp2
                  refine ⟨rfl, ?_⟩
                  rw [ER3.out]
                  exact ⟨rfl, F9.out⟩
                | ok a r9 =>
                  rw [hx] at h9
                  obtain ⟨rfl, v9, k9, Q9, h9, hq9, ha9, hk9, a9⟩ := h9
                  have HN9 := hid (HB2.out.go h9 a9)
                  have HQ9 := hid hq9
                  have HA9 := hid ha9
                  have hln := few_ok HFW.out hx
                  have hlen : (L ++ Q2 ++ Q9).length + 1 ≤ k9 := by
                    have h1 := HA8.out.len
                    have h2 := HA9.out.len
                    have h3 : Q9.length = a.length := by rw [← hq9, List.length_map]
                    have h4 := HRW.out.len
                    rw [List.length_append]
                    omega
                  have HLEN := hid hlen
                  have hbig : (L ++ Q2 ++ Q9).length ≤ 1000000 := by have := HA9.out.len; have := HA9.out.small; omega
                  have HT := hid (f_tellN HN9.out hbig)
                  obtain ⟨n0, n1, n2, n3, n4, n5, n6', n7', n8, n9⟩ := HN9.out.cells
                  simp only [binN, ndA, slV] at HT n0 n1 n2 n3 n4 n5 n6' n7' n8 n9
                  have HXE := hid hx
                  clear hx h9 hq9 ha9 a9 HB hlen hbig
                  go_wp2_with fail
                  refine HT.out.mono ?_
                  rintro e w10 ⟨rfl, v10, h10, a10⟩
                  have HRW2 : Hid (RwAt lv nest n b p K k v L a2 R w w10 f3 k9 v10 (Q2 ++ Q9 ++ [(binN N false g1 ns, nilS, (x1, x2, x3))]) r9) := by
                    refine ⟨?_, HRW.out.ops.go a10, HA9.out, Nat.le_trans HRW.out.le (by omega), HRW.out.adv.trans a10, ?_, hf3, ?_⟩
                    · rw [← List.append_assoc, ← List.append_assoc]
                      exact h10
                    · have := HLEN.out
                      simp only [List.length_append, List.length_singleton] at this ⊢
                      omega
                    · have he := HEQ4.out
                      rw [HXE.out, bind_ok, bind_assoc] at he
                      rw [← he]
                      congr 1
                      funext b1 r1
                      rw [bind_ok, List.map_append, List.map_append, HQ9.out]
                      simp only [List.map_cons, List.map_nil, List.append_assoc]
                  have HAT10 : Hid (atW p w10 = k9) := atW_eq h10
                  clear h10 a10 HT n0 n1 n2 n3 n4 n5 n6' n7' n8 n9
                  go_wp2
                  go_roundw
                  case rel => exact ⟨f3, k9, v10, _, r9, HRW2⟩
                  case measure => rw [HAT.out, HAT10.out]; omega
          | false =>
            rw [hcb] at HC
            have HEQ3 : Hid (((groupR 5000 [3, 4] T).bind fun g r =>
                (P f3 (lv + 1) nest r).bind fun a r2' => (P f3 (lv + 7) nest r2').bind fun b r3 =>
                  .ok (a ++ [binN N false g.1 g.2] ++ b) r3).bind (fun b r => .ok (Q2.map (·.1) ++ b) r) = R) := by
              have := HEQ2.out
              have e1 : boolN N T = false := by unfold boolN; have := hcb; unfold cmpB at this; rw [this, Bool.false_and]
              have e2 : boolR N T = T := by unfold boolR; rw [if_neg (by rw [e1]; simp)]
              rw [e1, e2] at this
              exact this
            have HN6 : Hid (NAt wr v2 w4.heap.size b p K k4 (nest : Int) v2 (L ++ Q2) (binN N false 0 []) nilS nilS (w4.alloc (.cells #[.int .i64 6, .int .i64 N, .string ⟨#[]⟩, .slice none 0 0, .int .i64 0, .int .i64 0, .int .i64 0, .slice none 0 0, .bool false, .int .i64 2] 37))) := HN1
            clear hz HEQ hcb HEQ2
            go_wp2_with fail
            refine (HC.out _).mono ?_
            rintro e w5 ⟨rfl, rfl⟩
            clear n0 n1 n2 n3 n4 n5 n6 n7 n8 n9
            go_upto_region 4 with fail
            generalize hW : (w4.alloc (.cells #[.int .i64 6, .int .i64 N, .string ⟨#[]⟩, .slice none 0 0, .int .i64 0, .int .i64 0, .int .i64 0, .slice none 0 0, .bool false, .int .i64 2] 37)) = W6 at HN6 ⊢
            clear hW z8 HN1
            have HN7 := hid (HN6.out.grown (World.grownBy_alloc _ (.cells #[.int .i64 3, .int .i64 4] 3) none))
            have HGR := hid (f_group HN7.out.rd HA4.out _ 2 [3, 4] (num_two _ 3 4) (by decide) (by decide))
            go_wp2_with fail
            refine HGR.out.mono ?_
            intro e w7 h7
            cases hg : groupR 5000 [3, 4] T with
            | out => rw [hg] at h7; exact h7.elim
            | bad q c =>
              rw [hg] at h7
              obtain ⟨rfl, f7⟩ := h7
              have ER2 : Hid (R = .bad q c) := by
                have := HEQ3.out
                rw [hg, bind_bad, bind_bad] at this
                exact this.symm
              have F7 := hid ((HRW.out.adv.trans HN7.out.adv).fr.trans f7 (fun j hj e => .inl e))
              clear hg f7 HGR
              go_wp2
              refine ⟨rfl, ?_⟩
              rw [ER2.out]
              exact ⟨rfl, F7.out⟩
            | ok g r8 =>
              rw [hg] at h7
              obtain ⟨sl, rfl, ho8, k8, h8, ha8, hk8, f8⟩ := h7
              obtain ⟨g1, ns⟩ := g
              have HEQ4 : Hid (((P f3 (lv + 1) nest r8).bind fun a r2' => (P f3 (lv + 7) nest r2').bind fun b r3 => .ok (a ++ [binN N false g1 ns] ++ b) r3).bind (fun b r => .ok (Q2.map (·.1) ++ b) r) = R) := by
                have := HEQ3.out
                rw [hg, bind_ok] at this
                exact this
              have HN8 := hid (HN7.out.step h8 f8)
              have HA8 := hid ha8
              have hk28 : k2 < k8 := by omega
              have HB2 := hid (HN8.out.group g1 sl ns (SOwn.base ho8 (by have := HN7.out.adv.fr.size; omega)) (fun j hj e => by
                have h1 := (SOwn.block ho8 j hj).1
                have h2 := (SOwn.block HN7.out.rd.nds.own j e).2
                omega))
              obtain ⟨n0, n1, n2, n3, n4, n5, n6, n7, n8, n9⟩ := HN8.out.cells
              have z6 := free_row HN8.out.row 6
              have z7 := free_row HN8.out.row 7
              have hne3 : P f3 (lv + 1) nest r8 ≠ .out := bind_out (bind_out (by rw [HEQ4.out]; exact HNE.out))
              have HNE3 := hid hne3
              have hl28 : (L ++ Q2).length ≤ k8 := by have := HRW.out.len; omega
              have HB := hid (HP.out f3 hf3 nest k8 v2 (L ++ Q2) r8 _ HB2.out.rd HA8.out hl28 hn hne3)
              have HFW := hid (P_few f3 (lv + 1) nest r8 (by have := take_ahead HA8.out; omega))
              obtain ⟨x1, x2, x3⟩ := sl
              simp only [slV] at HB2 HB ⊢
              clear hg h8 ho8 ha8 f8 HGR n0 n1 n2 n3 n4 n5 n8 n9 hne3
              go_wp2_with fail
              refine HB.out.mono ?_
              intro e w9 h9
              cases hx : P f3 (lv + 1) nest r8 with
              | out => exact absurd hx HNE3.out
              | bad q c =>
                rw [hx] at h9
                obtain ⟨rfl, f9⟩ := h9
                have ER3 : Hid (R = .bad q c) := by
                  have := HEQ4.out
                  rw [hx, bind_bad, bind_bad] at this
                  exact this.symm
                have A9 := hid (HRW.out.adv.trans HB2.out.adv)
                have F9 := hid (A9.out.fr.trans f9 (fun j hj e => by
                  rcases e with e | e
                  · exact .inl e
                  · rcases A9.out.new j e with e2 | e2
                    · exact .inr e2
                    · omega))
                clear hx f9 HB A9
                go_wp2
                refine ⟨rfl, ?_⟩
                rw [ER3.out]
                exact ⟨rfl, F9.out⟩
              | ok a r9 =>
                rw [hx] at h9
                obtain ⟨rfl, v9, k9, Q9, h9, hq9, ha9, hk9, a9⟩ := h9
                have HN9 := hid (HB2.out.go h9 a9)
                have HQ9 := hid hq9
                have HA9 := hid ha9
                have hln := few_ok HFW.out hx
                have hlen : (L ++ Q2 ++ Q9).length + 1 ≤ k9 := by
                  have h1 := HA8.out.len
                  have h2 := HA9.out.len
                  have h3 : Q9.length = a.length := by rw [← hq9, List.length_map]
                  have h4 := HRW.out.len
                  rw [List.length_append]
                  omega
                have HLEN := hid hlen
                have hbig : (L ++ Q2 ++ Q9).length ≤ 1000000 := by have := HA9.out.len; have := HA9.out.small; omega
                have HT := hid (f_tellN HN9.out hbig)
                obtain ⟨n0, n1, n2, n3, n4, n5, n6', n7', n8, n9⟩ := HN9.out.cells
                simp only [binN, ndA, slV] at HT n0 n1 n2 n3 n4 n5 n6' n7' n8 n9
                have HXE := hid hx
                clear hx h9 hq9 ha9 a9 HB hlen hbig
                go_wp2_with fail
                refine HT.out.mono ?_
                rintro e w10 ⟨rfl, v10, h10, a10⟩
                have HRW2 : Hid (RwAt lv nest n b p K k v L a2 R w w10 f3 k9 v10 (Q2 ++ Q9 ++ [(binN N false g1 ns, nilS, (x1, x2, x3))]) r9) := by
                  refine ⟨?_, HRW.out.ops.go a10, HA9.out, Nat.le_trans HRW.out.le (by omega), HRW.out.adv.trans a10, ?_, hf3, ?_⟩
                  · rw [← List.append_assoc, ← List.append_assoc]
                    exact h10
                  · have := HLEN.out
                    simp only [List.length_append, List.length_singleton] at this ⊢
                    omega
                  · have he := HEQ4.out
                    rw [HXE.out, bind_ok, bind_assoc] at he
                    rw [← he]
                    congr 1
                    funext b1 r1
                    rw [bind_ok, List.map_append, List.map_append, HQ9.out]
                    simp only [List.map_cons, List.map_nil, List.append_assoc]
                have HAT10 : Hid (atW p w10 = k9) := atW_eq h10
                clear h10 a10 HT n0 n1 n2 n3 n4 n5 n6' n7' n8 n9
                go_wp2
                go_roundw
                case rel => exact ⟨f3, k9, v10, _, r9, HRW2⟩
                case measure => rw [HAT.out, HAT10.out]; omega
end Go.Proofs.YthbodkgcbfplgaaGreat

/- Package parse: the levels. -/
namespace Go.Proofs.YthbodkgcbfplgaaGreat
open Go.RowKit
set_option linter.unusedVariables false
set_option linter.unusedSimpArgs false
set_option maxRecDepth 20000

theorem ops_made {w : World} {b p : Nat} {K : Tk} {k : Nat} {op : Int} {v : Value} {L : List Row} (h : RdAt w b p K k op v L) (l : List Int) : OpsAt p (some ⟨w.heap.size, 0, none⟩) l (w.alloc (.cells (l.map (fun s => Value.int .i64 s)).toArray 3)) v :=
  ⟨⟨w.heap.size, rfl, num_lit w l, by rw [size_alloc]; omega, by have := h.lt; omega, fun e => by have := (SOwn.block h.nds.own _ e).2; omega⟩⟩
theorem ent45 (caps : Array Value) (w : World) : (callFunc 65 caps).run Tryz.prog w = .ok (.enter 65 caps) w := by kernel_rfl
theorem f_or {b p : Nat} {K : Tk} (n : Nat) (hP : ∀ f, f ≤ n → LvOk b p K 65 (P f (0 + 1))) : LvOk b p K 43 (P (n + 1) 0) := by
  intro nest k v L ts w h ha hL hn hne
  have HV : Hid (∀ j, v.ownBlock = some j → j < w.heap.size) := fun j hj => (SOwn.block h.nds.own j hj).2
  have g0 := World.grownBy_alloc w (.cells #[.int .i64 12] 3) none
  have G0 := hid g0
  have HR := hid (f_row 65 0 n (by decide) (ent45 _) hP (some ⟨w.heap.size, 0, none⟩) 1 (h.grown g0) (ops_made h [12]) ha hL hn hne)
  have HNE := hid hne
  clear h ha hL hne g0 hP
  go_enter Tryz.func43, Tryz.ntmps43
  go_wp2_with fail
  refine HR.out.mono ?_
  intro e w4 h4
  have h5 := h4.grown G0.out HV.out
  cases hx : P (n + 1) 0 nest ts with
  | out => exact absurd hx HNE.out
  | bad q c =>
    rw [hx] at h5
    have HXE := hid hx
    obtain ⟨rfl, f5⟩ := h5
    have F5 := hid f5
    clear hx f5 h4
    go_wp2
    refine ⟨rfl, ?_⟩
    rw [HXE.out]
    exact ⟨rfl, F5.out⟩
  | ok a r =>
    rw [hx] at h5
    have HXE := hid hx
    obtain ⟨rfl, h6⟩ := h5
    have H6 := hid h6
    clear hx h6 h4
    go_wp2
    go_end0
    rw [HXE.out]
    exact ⟨rfl, H6.out⟩
theorem ent54 (caps : Array Value) (w : World) : (callFunc 81 caps).run Tryz.prog w = .ok (.enter 81 caps) w := by kernel_rfl
theorem f_and {b p : Nat} {K : Tk} (n : Nat) (hP : ∀ f, f ≤ n → LvOk b p K 81 (P f (1 + 1))) : LvOk b p K 65 (P (n + 1) 1) := by
  intro nest k v L ts w h ha hL hn hne
  have HV : Hid (∀ j, v.ownBlock = some j → j < w.heap.size) := fun j hj => (SOwn.block h.nds.own j hj).2
  have g0 := World.grownBy_alloc w (.cells #[.int .i64 11, .int .i64 13] 3) none
  have G0 := hid g0
  have HR := hid (f_row 81 1 n (by decide) (ent54 _) hP (some ⟨w.heap.size, 0, none⟩) 2 (h.grown g0) (ops_made h [11, 13]) ha hL hn hne)
  have HNE := hid hne
  clear h ha hL hne g0 hP
  go_enter Tryz.func65, Tryz.ntmps65
  go_wp2_with fail
  refine HR.out.mono ?_
  intro e w4 h4
  have h5 := h4.grown G0.out HV.out
  cases hx : P (n + 1) 1 nest ts with
  | out => exact absurd hx HNE.out
  | bad q c =>
    rw [hx] at h5
    have HXE := hid hx
    obtain ⟨rfl, f5⟩ := h5
    have F5 := hid f5
    clear hx f5 h4
    go_wp2
    refine ⟨rfl, ?_⟩
    rw [HXE.out]
    exact ⟨rfl, F5.out⟩
  | ok a r =>
    rw [hx] at h5
    have HXE := hid hx
    obtain ⟨rfl, h6⟩ := h5
    have H6 := hid h6
    clear hx h6 h4
    go_wp2
    go_end0
    rw [HXE.out]
    exact ⟨rfl, H6.out⟩
theorem ent62 (caps : Array Value) (w : World) : (callFunc 93 caps).run Tryz.prog w = .ok (.enter 93 caps) w := by kernel_rfl
theorem f_cmp {b p : Nat} {K : Tk} (n : Nat) (hP : ∀ f, f ≤ n → LvOk b p K 93 (P f (2 + 1))) : LvOk b p K 81 (P (n + 1) 2) := by
  intro nest k v L ts w h ha hL hn hne
  have HV : Hid (∀ j, v.ownBlock = some j → j < w.heap.size) := fun j hj => (SOwn.block h.nds.own j hj).2
  have g0 := World.grownBy_alloc w (.cells #[.int .i64 5, .int .i64 6, .int .i64 7, .int .i64 8, .int .i64 9, .int .i64 10] 3) none
  have G0 := hid g0
  have HR := hid (f_row 93 2 n (by decide) (ent62 _) hP (some ⟨w.heap.size, 0, none⟩) 6 (h.grown g0) (ops_made h [5, 6, 7, 8, 9, 10]) ha hL hn hne)
  have HNE := hid hne
  clear h ha hL hne g0 hP
  go_enter Tryz.func81, Tryz.ntmps81
  go_wp2_with fail
  refine HR.out.mono ?_
  intro e w4 h4
  have h5 := h4.grown G0.out HV.out
  cases hx : P (n + 1) 2 nest ts with
  | out => exact absurd hx HNE.out
  | bad q c =>
    rw [hx] at h5
    have HXE := hid hx
    obtain ⟨rfl, f5⟩ := h5
    have F5 := hid f5
    clear hx f5 h4
    go_wp2
    refine ⟨rfl, ?_⟩
    rw [HXE.out]
    exact ⟨rfl, F5.out⟩
  | ok a r =>
    rw [hx] at h5
    have HXE := hid hx
    obtain ⟨rfl, h6⟩ := h5
    have H6 := hid h6
    clear hx h6 h4
    go_wp2
    go_end0
    rw [HXE.out]
    exact ⟨rfl, H6.out⟩
theorem ent68 (caps : Array Value) (w : World) : (callFunc 102 caps).run Tryz.prog w = .ok (.enter 102 caps) w := by kernel_rfl
theorem f_sum {b p : Nat} {K : Tk} (n : Nat) (hP : ∀ f, f ≤ n → LvOk b p K 102 (P f (3 + 1))) : LvOk b p K 93 (P (n + 1) 3) := by
  intro nest k v L ts w h ha hL hn hne
  have HV : Hid (∀ j, v.ownBlock = some j → j < w.heap.size) := fun j hj => (SOwn.block h.nds.own j hj).2
  have g0 := World.grownBy_alloc w (.cells #[.int .i64 1, .int .i64 2] 3) none
  have G0 := hid g0
  have HR := hid (f_row 102 3 n (by decide) (ent68 _) hP (some ⟨w.heap.size, 0, none⟩) 2 (h.grown g0) (ops_made h [1, 2]) ha hL hn hne)
  have HNE := hid hne
  clear h ha hL hne g0 hP
  go_enter Tryz.func93, Tryz.ntmps93
  go_wp2_with fail
  refine HR.out.mono ?_
  intro e w4 h4
  have h5 := h4.grown G0.out HV.out
  cases hx : P (n + 1) 3 nest ts with
  | out => exact absurd hx HNE.out
  | bad q c =>
    rw [hx] at h5
    have HXE := hid hx
    obtain ⟨rfl, f5⟩ := h5
    have F5 := hid f5
    clear hx f5 h4
    go_wp2
    refine ⟨rfl, ?_⟩
    rw [HXE.out]
    exact ⟨rfl, F5.out⟩
  | ok a r =>
    rw [hx] at h5
    have HXE := hid hx
    obtain ⟨rfl, h6⟩ := h5
    have H6 := hid h6
    clear hx h6 h4
    go_wp2
    go_end0
    rw [HXE.out]
    exact ⟨rfl, H6.out⟩
theorem f_term {b p : Nat} {K : Tk} (n : Nat) (hP : ∀ f, f ≤ n → LvOk b p K 104 (P f (4 + 1))) : LvOk b p K 102 (P (n + 1) 4) := by
  intro nest k v L ts w h ha hL hn hne
  have HV : Hid (∀ j, v.ownBlock = some j → j < w.heap.size) := fun j hj => (SOwn.block h.nds.own j hj).2
  have g0 := World.grownBy_alloc w (.cells #[.int .i64 3, .int .i64 4] 3) none
  have G0 := hid g0
  have HR := hid (f_row 104 4 n (by decide) (ent71 _) hP (some ⟨w.heap.size, 0, none⟩) 2 (h.grown g0) (ops_made h [3, 4]) ha hL hn hne)
  have HNE := hid hne
  clear h ha hL hne g0 hP
  go_enter Tryz.func102, Tryz.ntmps102
  go_wp2_with fail
  refine HR.out.mono ?_
  intro e w4 h4
  have h5 := h4.grown G0.out HV.out
  cases hx : P (n + 1) 4 nest ts with
  | out => exact absurd hx HNE.out
  | bad q c =>
    rw [hx] at h5
    have HXE := hid hx
    obtain ⟨rfl, f5⟩ := h5
    have F5 := hid f5
    clear hx f5 h4
    go_wp2
    refine ⟨rfl, ?_⟩
    rw [HXE.out]
    exact ⟨rfl, F5.out⟩
  | ok a r =>
    rw [hx] at h5
    have HXE := hid hx
    obtain ⟨rfl, h6⟩ := h5
    have H6 := hid h6
    clear hx h6 h4
    go_wp2
    go_end0
    rw [HXE.out]
    exact ⟨rfl, H6.out⟩
theorem lv_zero {b p : Nat} {K : Tk} (fn lv : Nat) : LvOk b p K fn (P 0 lv) := fun nest k v L ts w h ha hL hn hne => absurd rfl hne
theorem levels {b p : Nat} {K : Tk} : ∀ n f, f ≤ n → LvOk b p K 43 (P f 0) ∧ LvOk b p K 65 (P f 1) ∧ LvOk b p K 81 (P f 2) ∧ LvOk b p K 93 (P f 3) ∧ LvOk b p K 102 (P f 4) ∧ LvOk b p K 104 (P f 5) ∧ LvOk b p K 108 (P f 6) := by
  intro n
  induction n with
  | zero =>
    intro f hf
    obtain rfl : f = 0 := by omega
    exact ⟨lv_zero _ _, lv_zero _ _, lv_zero _ _, lv_zero _ _, lv_zero _ _, lv_zero _ _, lv_zero _ _⟩
  | succ n ih =>
    intro f hf
    by_cases hfn : f ≤ n
    · exact ih f hfn
    · obtain rfl : f = n + 1 := by omega
      refine ⟨f_or n fun g hg => (ih g hg).2.1, f_and n fun g hg => (ih g hg).2.2.1, f_cmp n fun g hg => (ih g hg).2.2.2.1, f_sum n fun g hg => (ih g hg).2.2.2.2.1, f_term n fun g hg => (ih g hg).2.2.2.2.2.1, f_unary n (ih n (Nat.le_refl _)).2.2.2.2.2.1 (ih n (Nat.le_refl _)).2.2.2.2.2.2, ?_⟩
      exact f_oneR (P n 0) (ih n (Nat.le_refl _)).1 (fun m us hu => P_few n 0 m us hu)
/-- or, with enough fuel. -/
theorem f_top {b p : Nat} {K : Tk} {k : Nat} {v : Value} {L : List Row} {ts : List Tok} {w : World} (h : RdAt w b p K k 0 v L) (ha : Ahead K k ts) (hL : L.length ≤ k) :
    Calls Tryz.prog 43 #[.pointer (some ⟨p, 0, none⟩)] w fun e w' => PQ b p K k 0 v L (P (8 * ts.length + 8) 0 0 ts) w e w' :=
  (levels _ _ (Nat.le_refl _)).1 0 k v L ts w h ha hL (by decide) (fine_ne (P_fine _ 0 0 ts (by decide) (by have := take_ahead ha; omega) (by unfold fuelN; simp)))
end Go.Proofs.YthbodkgcbfplgaaGreat

/- Package parse: query; what is thrown is caught. -/
namespace Go.Proofs.YthbodkgcbfplgaaGreat
open Go.RowKit
set_option linter.unusedVariables false
set_option linter.unusedSimpArgs false
set_option maxRecDepth 20000

/-- What query answers. -/
def QrOut (b p : Nat) (R : Pr) (w : World) (e : Ending) (w' : World) : Prop :=
  match R with
  | .ok ns => ∃ v' Q, e = .returned v' ∧ NdAt w' b v' Q ∧ Q.map (·.1) = ns ∧ Fr (Me p) w w'
  | .bad q c => e = .panicked (flt q c) ∧ Fr (Me p) w w'
theorem f_query {b p : Nat} {K : Tk} {ts : List Tok} {w : World} (h : RdAt w b p K 0 0 (.slice none 0 0) []) (ha : Ahead K 0 ts) :
    Calls Tryz.prog 25 #[.pointer (some ⟨p, 0, none⟩)] w fun e w' => QrOut b p (parseT ts) w e w' := by
  have HT := hid (f_top h ha (Nat.zero_le _))
  have HWR : Hid (∀ j, Wr p (.slice none 0 0) j → Me p j) := fun j e => by
    rcases e with e | e
    · exact e
    · cases e
  have HNE := hid (fine_ne (P_fine (8 * ts.length + 8) 0 0 ts (by decide) (by have := take_ahead ha; omega) (by unfold fuelN; simp)))
  obtain ⟨X, eX⟩ : ∃ X, P (8 * ts.length + 8) 0 0 ts = X := ⟨_, rfl⟩
  have EX : Hid (parseT ts = endR X) := by show _ = _; unfold parseT; rw [eX]
  rw [eX] at HT HNE
  rw [EX.out]
  clear h ha eX
  go_enter Tryz.func25, Tryz.ntmps25
  go_wp2_with fail
  refine HT.out.mono ?_
  intro e w1 h1
  cases X with
  | out => exact absurd rfl HNE.out
  | bad q c =>
    obtain ⟨rfl, f1⟩ := h1
    have F1 := hid (f1.mono (fun j _ e => HWR.out j e))
    clear f1 HT
    go_wp2
    exact ⟨rfl, rfl, F1.out⟩
  | ok a r =>
    obtain ⟨rfl, v1, k1, Q1, h1, hq1, ha1, hk1, a1⟩ := h1
    rw [List.nil_append] at h1
    have H1 := hid h1
    have HQ1 := hid hq1
    have HA1 := hid ha1
    have F1 : Hid (Fr (Me p) w w1) := a1.fr.mono (fun j _ e => HWR.out j e)
    have f0 := fld0 (.int .i64 (hd r).1) (.int .i64 (hd r).2.1) (.string (hd r).2.2.1) (.int .i64 (hd r).2.2.2)
    clear h1 hq1 ha1 a1 HT
    go_wp2_with fail
    refine (f_here H1.out HA1.out).mono ?_
    rintro e w2 ⟨rfl, g2⟩
    have H2 := hid (H1.out.grown g2)
    have F2 : Hid (Fr (Me p) w w2) := F1.out.trans (.of (S := Me p) g2) (fun _ _ e => e)
    unfold tkV
    clear g2
    by_cases h0 : (hd r).1 = 0
    · have q0 : ((hd r).1 == 0) = true := by simpa using h0
      have ER : Hid (endR (.ok a r) = .ok a) := by show _ = _; unfold endR; simp only [h0, if_true]
      clear h0
      go_wp2_with fail
      refine (f_must H2.out HA1.out true).mono ?_
      rintro e w3 ⟨⟨_, rfl⟩ | ⟨h, _⟩, g3⟩
      · have H3 := hid (H2.out.grown g3)
        have F3 : Hid (Fr (Me p) w w3) := F2.out.trans (.of (S := Me p) g3) (fun _ _ e => e)
        have c3 := H3.out.cells.2.2.2
        obtain ⟨x1, x2, x3⟩ := H3.out.nds.val
        have EV := hid x3
        rw [x3] at c3
        clear g3 x3
        go_wp2
        go_ret
        rw [ER.out]
        exact ⟨_, Q1, rfl, by rw [← EV.out]; exact H3.out.nds, HQ1.out, F3.out⟩
      · cases h
    · have q0 : ((hd r).1 == 0) = false := by simpa using h0
      have ER : Hid (endR (.ok a r) = .bad (hd r).2.1 181) := by show _ = _; unfold endR; simp only [h0, if_false]
      have EC : Hid (failC r = 181) := by show _ = _; unfold failC; rw [if_neg h0]
      clear h0
      go_wp2_with fail
      refine (f_must H2.out HA1.out false).mono ?_
      rintro e w3 ⟨⟨h, _⟩ | ⟨_, rfl⟩, g3⟩
      · cases h
      · have F3 : Hid (Fr (Me p) w w3) := F2.out.trans (.of (S := Me p) g3) (fun _ _ e => e)
        clear g3
        go_wp2
        refine ⟨rfl, ?_⟩
        rw [ER.out]
        exact ⟨by rw [EC.out], F3.out⟩
theorem run_flt (x : Value) (w : World) : (Instr.typeAssert (.iface 77 x) 20 77 true).run Tryz.prog w = .ok (.tuple #[x, .bool true]) w := by kernel_rfl
theorem c_idle (c d : Nat) (w : World) : CallsD Tryz.prog 42 #[.pointer (some ⟨c, 0, none⟩), .pointer (some ⟨d, 0, none⟩)] .returning w fun e u' w' => e = .returned (.tuple #[]) ∧ u' = .returning ∧ w' = w := by
  refine callsD_of_wpS Tryz.func42 rfl fun c₀ cs hu => ?_
  apply wpS_seq
  apply wpS_region
  simp [wpOpsS, go_sem, recoverD, hu, Tryz.ntmps42, Exit.thenS]
  refine wpS_of_wp ?_
  refine wp_block ?_
  go_wp2
  cases c₀
  simp_all [bodyPostS, results, Tryz.results42]
set_option maxHeartbeats 4000000 in
theorem c_catch (c d : Nat) (x y : Int) (w : World) (hc : w.heap[c]? = some (.cells #[.int .i64 0] 3 (0, 0))) (hd : w.heap[d]? = some (.cells #[.int .i64 0] 23 (0, 0))) (hcd : c ≠ d) :
    CallsD Tryz.prog 42 #[.pointer (some ⟨c, 0, none⟩), .pointer (some ⟨d, 0, none⟩)] (.panicking ({ v := .iface 77 (.agg #[.int .i64 x, .int .i64 y]), recovered := false } :: [])) w fun e u' w' =>
      e = .returned (.tuple #[]) ∧ u' = .panicking ({ v := .iface 77 (.agg #[.int .i64 x, .int .i64 y]), recovered := true } :: []) ∧ w'.cell? ⟨c, 0, none⟩ = some (.int .i64 x) ∧ w'.cell? ⟨d, 0, none⟩ = some (.int .i64 y) ∧ Fr (fun j => j = c ∨ j = d) w w' := by
  refine callsD_of_wpS Tryz.func42 rfl fun c₀ cs hu => ?_
  have hta := run_flt (.agg #[.int .i64 x, .int .i64 y])
  have lc := (Array.getElem?_eq_some_iff.1 hc).1
  have ld := (Array.getElem?_eq_some_iff.1 hd).1
  have HG := hid (World.grownBy_alloc w (.cells #[.int .i64 x, .int .i64 y] 77) none)
  have nc : c ≠ w.heap.size := by omega
  have nd : d ≠ w.heap.size := by omega
  have c0 := one_cell hc
  have d0 := one_cell hd
  have c1 := free_row hc 0
  have d1 := free_row hd 0
  have HFW : Hid (∀ W, (W = (((w.setCell ⟨c, 0, none⟩ (.int .i64 x)).setCell ⟨d, 0, none⟩ (.int .i64 y)).alloc (.cells #[.int .i64 x, .int .i64 y] 77)).drew ∨ W = (((w.setCell ⟨d, 0, none⟩ (.int .i64 y)).setCell ⟨c, 0, none⟩ (.int .i64 x)).alloc (.cells #[.int .i64 x, .int .i64 y] 77)).drew) → W.cell? ⟨c, 0, none⟩ = some (.int .i64 x) ∧ W.cell? ⟨d, 0, none⟩ = some (.int .i64 y) ∧ Fr (fun j => j = c ∨ j = d) w W) := by
    rintro W (rfl | rfl)
    · have r1 : (w.setCell ⟨c, 0, none⟩ (.int .i64 x)).heap[d]? = some (.cells #[.int .i64 0] 23 (0, 0)) := by rw [set_other (fun e => hcd e.symm)]; exact hd
      have r2 : ((w.setCell ⟨c, 0, none⟩ (.int .i64 x)).setCell ⟨d, 0, none⟩ (.int .i64 y)).heap[c]? = some (.cells #[.int .i64 x] 3 (0, 0)) := by rw [set_other hcd]; exact one_set hc _
      have ga := World.grownBy_alloc ((w.setCell ⟨c, 0, none⟩ (.int .i64 x)).setCell ⟨d, 0, none⟩ (.int .i64 y)) (.cells #[.int .i64 x, .int .i64 y] 77) none
      exact ⟨(gb_drew ga).cell (one_cell r2) (by simp), (gb_drew ga).cell (one_cell (one_set r1 _)) (by simp), (((fr_set c 0 w (.int .i64 x)).mono (S' := fun j => j = c ∨ j = d) (fun _ _ e => .inl e)).trans (fr_set d 0 _ _) (fun _ _ e => .inr e)).trans (.of (S := fun j => j = c ∨ j = d) (gb_drew ga)) (fun _ _ e => e)⟩
    · have r1 : (w.setCell ⟨d, 0, none⟩ (.int .i64 y)).heap[c]? = some (.cells #[.int .i64 0] 3 (0, 0)) := by rw [set_other hcd]; exact hc
      have r2 : ((w.setCell ⟨d, 0, none⟩ (.int .i64 y)).setCell ⟨c, 0, none⟩ (.int .i64 x)).heap[d]? = some (.cells #[.int .i64 y] 23 (0, 0)) := by rw [set_other (fun e => hcd e.symm)]; exact one_set hd _
      have ga := World.grownBy_alloc ((w.setCell ⟨d, 0, none⟩ (.int .i64 y)).setCell ⟨c, 0, none⟩ (.int .i64 x)) (.cells #[.int .i64 x, .int .i64 y] 77) none
      exact ⟨(gb_drew ga).cell (one_cell (one_set r1 _)) (by simp), (gb_drew ga).cell (one_cell r2) (by simp), (((fr_set d 0 w (.int .i64 y)).mono (S' := fun j => j = c ∨ j = d) (fun _ _ e => .inr e)).trans (fr_set c 0 _ _) (fun _ _ e => .inl e)).trans (.of (S := fun j => j = c ∨ j = d) (gb_drew ga)) (fun _ _ e => e)⟩
  have HCD := hid hcd
  clear hc hd HG
  apply wpS_seq
  apply wpS_region
  simp [wpOpsS, go_sem, recoverD, hu, Tryz.ntmps42, Exit.thenS]
  refine wpS_of_wp ?_
  refine wp_block ?_
  go_wp2
  go_region
  all_goals go_wp2
  all_goals first
    | (generalize hW : (((w.setCell ⟨c, 0, none⟩ (.int .i64 x)).setCell ⟨d, 0, none⟩ (.int .i64 y)).alloc (.cells #[.int .i64 x, .int .i64 y] 77)).drew = W
       have HX := hid (HFW.out W (.inl hW.symm))
       clear hW HFW hta
       cases c₀
       simp [bodyPostS, results, Tryz.results42]
       exact HX.out)
    | (generalize hW : (((w.setCell ⟨d, 0, none⟩ (.int .i64 y)).setCell ⟨c, 0, none⟩ (.int .i64 x)).alloc (.cells #[.int .i64 x, .int .i64 y] 77)).drew = W
       have HX := hid (HFW.out W (.inr hW.symm))
       clear hW HFW hta
       cases c₀
       simp [bodyPostS, results, Tryz.results42]
       exact HX.out)
end Go.Proofs.YthbodkgcbfplgaaGreat

/- Package parse: Parse. -/
namespace Go.Proofs.YthbodkgcbfplgaaGreat
open Go.RowKit
set_option linter.unusedVariables false
set_option linter.unusedSimpArgs false
set_option maxRecDepth 20000

/-- What Parse answers. -/
def PrOut (b p : Nat) (R : Pr) (w : World) (e : Ending) (w' : World) : Prop :=
  match R with
  | .ok ns => ∃ v' Q, e = .returned (.tuple #[v', .int .i64 0, .int .i64 0]) ∧ NdAt w' b v' Q ∧ Q.map (·.1) = ns ∧ Fr (Me p) w w'
  | .bad q c => e = .returned (.tuple #[.slice none 0 0, .int .i64 q, .int .i64 c]) ∧ Fr (Me p) w w'
theorem NdAt.other {w w' : World} {b c d : Nat} {v : Value} {L : List Row} {x y : Array Value} (h : NdAt w b v L) (hf : Fr (fun j => j = c ∨ j = d) w w') (hc : w.heap[c]? = some (.cells x 3 (0, 0))) (hd : w.heap[d]? = some (.cells y 23 (0, 0))) : NdAt w' b v L := by
  have apart : ∀ {α : Type} {E : Elem α} {e : TypeId} {base n : Nat} {u : Value} {l : List α}, e ≠ 3 → e ≠ 23 → SOwn E e w base u n l → SOwn E e w' base u n l := fun h3 h23 ho => sown_same ho (fun j hj hl => hf.block j hl (fun e => by
    obtain ⟨cur, hcur⟩ := sown_blk ho hj
    rcases e with e | e
    · subst e; rw [hc] at hcur; cases hcur; exact h3 rfl
    · subst e; rw [hd] at hcur; cases hcur; exact h23 rfl))
  exact ⟨apart (by decide) (by decide) h.own, fun q hq => apart (by decide) (by decide) (h.mat q hq), fun q hq => apart (by decide) (by decide) (h.nam q hq), h.apm, h.apn⟩
theorem NdAt.base {w : World} {b b' : Nat} {v : Value} {L : List Row} (h : NdAt w b v L) (hb : b' ≤ b) : NdAt w b' v L :=
  ⟨SOwn.base h.own hb, fun q hq => SOwn.base (h.mat q hq) hb, fun q hq => SOwn.base (h.nam q hq) hb, h.apm, h.apn⟩
set_option maxHeartbeats 4000000 in
theorem f_caught {b p : Nat} (R : Pr) (w : World) (hq : Calls Tryz.prog 25 #[.pointer (some ⟨p, 0, none⟩)] ((w.alloc (.cells #[.int .i64 0] 3)).alloc (.cells #[.int .i64 0] 23)) fun e w' => QrOut b p R ((w.alloc (.cells #[.int .i64 0] 3)).alloc (.cells #[.int .i64 0] 23)) e w') (hp : p < w.heap.size) (hb : b ≤ w.heap.size) :
    Calls Tryz.prog 24 #[.func (.func 25) #[.pointer (some ⟨p, 0, none⟩)] #[]] w fun e w' => PrOut b p R w e w' := by
  have hmf : ∀ (fn : Fn) (first cap : Array Value) (w : World), (Instr.makeFunc fn first cap).run Tryz.prog w = .ok (.func fn first cap) w := fun _ _ _ _ => rfl
  have HQ := hid hq
  have g1 := World.grownBy_alloc w (.cells #[.int .i64 0] 3) none
  have g2 := World.grownBy_alloc (w.alloc (.cells #[.int .i64 0] 3)) (.cells #[.int .i64 0] 23) none
  have HG := hid (g1.trans g2)
  have HC : Hid (((w.alloc (.cells #[.int .i64 0] 3)).alloc (.cells #[.int .i64 0] 23)).heap[w.heap.size]? = some (.cells #[.int .i64 0] 3 (0, 0))) := (g2.block _ (by rw [size_alloc]; omega) (by simp)).trans (heap_alloc_new w _)
  have HD : Hid (((w.alloc (.cells #[.int .i64 0] 3)).alloc (.cells #[.int .i64 0] 23)).heap[w.heap.size + 1]? = some (.cells #[.int .i64 0] 23 (0, 0))) := by
    have := heap_alloc_new (w.alloc (.cells #[.int .i64 0] 3)) (.cells #[.int .i64 0] 23)
    rw [size_alloc] at this
    exact this
  have HP := hid hp
  have HBB := hid hb
  clear g1 g2 hq
  go_enter_defers Tryz.func24, Tryz.ntmps24
  go_wp2_with fail
  generalize hW : ((w.alloc (.cells #[.int .i64 0] 3)).alloc (.cells #[.int .i64 0] 23)) = W at *
  clear hW
  refine HQ.out.mono ?_
  intro e w1 h1
  cases R with
  | ok ns =>
    obtain ⟨v1, Q1, rfl, hn, hq1, f1⟩ := h1
    have HN := hid hn
    have HQ1 := hid hq1
    have HF := hid f1
    have C1 := hid ((f1.block _ (Array.getElem?_eq_some_iff.1 HC.out).1 (fun e => by change w.heap.size = p at e; omega)).trans HC.out)
    have D1 := hid ((f1.block _ (Array.getElem?_eq_some_iff.1 HD.out).1 (fun e => by change w.heap.size + 1 = p at e; omega)).trans HD.out)
    have c0 := one_cell C1.out
    have d0 := one_cell D1.out
    have c1 := free_row C1.out 0
    have d1 := free_row D1.out 0
    clear hn hq1 f1 HQ
    go_wp2
    have hFcd : Fr (fun j => j = w.heap.size ∨ j = w.heap.size + 1) w1 ((w1.setCell ⟨w.heap.size, 0, none⟩ (.int .i64 0)).setCell ⟨w.heap.size + 1, 0, none⟩ (.int .i64 0)) := ((fr_set w.heap.size 0 w1 (.int .i64 0)).mono (S' := fun j => j = w.heap.size ∨ j = w.heap.size + 1) (fun _ _ e => .inl e)).trans (fr_set (w.heap.size + 1) 0 _ _) (fun _ _ e => .inr e)
    have hcs : ((w1.setCell ⟨w.heap.size, 0, none⟩ (.int .i64 0)).setCell ⟨w.heap.size + 1, 0, none⟩ (.int .i64 0)).cell? ⟨w.heap.size, 0, none⟩ = some (.int .i64 0) := by
      have : ((w1.setCell ⟨w.heap.size, 0, none⟩ (.int .i64 0)).setCell ⟨w.heap.size + 1, 0, none⟩ (.int .i64 0)).heap[w.heap.size]? = _ := (set_other (by omega)).trans (one_set C1.out _)
      exact one_cell this
    have hds : ((w1.setCell ⟨w.heap.size, 0, none⟩ (.int .i64 0)).setCell ⟨w.heap.size + 1, 0, none⟩ (.int .i64 0)).cell? ⟨w.heap.size + 1, 0, none⟩ = some (.int .i64 0) := by
      have h1 : (w1.setCell ⟨w.heap.size, 0, none⟩ (.int .i64 0)).heap[w.heap.size + 1]? = _ := (set_other (by omega)).trans D1.out
      exact one_cell (one_set h1 _)
    have HNO := hid (HN.out.other hFcd C1.out D1.out)
    have HFO : Hid (Fr (Me p) w ((w1.setCell ⟨w.heap.size, 0, none⟩ (.int .i64 0)).setCell ⟨w.heap.size + 1, 0, none⟩ (.int .i64 0))) := ((Fr.of (S := Me p) HG.out).trans HF.out (fun _ _ e => e)).trans hFcd (fun j hj e => by omega)
    generalize hW5 : ((w1.setCell ⟨w.heap.size, 0, none⟩ (.int .i64 0)).setCell ⟨w.heap.size + 1, 0, none⟩ (.int .i64 0)) = W5 at hcs hds HNO HFO ⊢
    clear hW5 hFcd c0 d0 c1 d1
    refine leaves_cons (f := 42) (args := #[.pointer (some ⟨w.heap.size, 0, none⟩), .pointer (some ⟨w.heap.size + 1, 0, none⟩)]) (by simp) (by simp [go_sem]) ?_
    refine (c_idle _ _ _).mono ?_
    rintro e u' w'' ⟨rfl, rfl, rfl⟩
    simp [Go.Leaves, settle, results, Tryz.results24, go_sem, hcs, hds]
    exact ⟨v1, Q1, rfl, HNO.out, HQ1.out, HFO.out⟩
  | bad q c =>
    obtain ⟨rfl, f1⟩ := h1
    have HF := hid f1
    have C1 := hid ((f1.block _ (Array.getElem?_eq_some_iff.1 HC.out).1 (fun e => by change w.heap.size = p at e; omega)).trans HC.out)
    have D1 := hid ((f1.block _ (Array.getElem?_eq_some_iff.1 HD.out).1 (fun e => by change w.heap.size + 1 = p at e; omega)).trans HD.out)
    clear f1 HQ
    unfold flt
    go_wp2
    refine leaves_cons (f := 42) (args := #[.pointer (some ⟨w.heap.size, 0, none⟩), .pointer (some ⟨w.heap.size + 1, 0, none⟩)]) (by simp) (by simp [go_sem]) ?_
    refine (c_catch w.heap.size (w.heap.size + 1) q c _ C1.out D1.out (by omega)).mono ?_
    rintro e u' w'' ⟨rfl, rfl, hcs, hds, hf⟩
    have HFO : Hid (Fr (Me p) w w'') := ((Fr.of (S := Me p) HG.out).trans HF.out (fun _ _ e => e)).trans hf (fun j hj e => by omega)
    clear hf
    simp [Go.Leaves, settle, results, Tryz.results24, go_sem, hcs, hds]
    exact ⟨rfl, HFO.out⟩
/-- What Parse answers. -/
def PaOut (R : Pr) (w : World) (e : Ending) (w' : World) : Prop :=
  match R with
  | .ok ns => ∃ v' Q, e = .returned (.tuple #[v', .int .i64 0, .int .i64 0]) ∧ NdAt w' w.heap.size v' Q ∧ Q.map (·.1) = ns ∧ w.grownBy w' none
  | .bad q c => e = .returned (.tuple #[.slice none 0 0, .int .i64 q, .int .i64 c]) ∧ w.grownBy w' none
set_option maxHeartbeats 4000000 in
theorem f_parse (s : ByteArray) (w : World) : Calls Tryz.prog 12 #[.string s] w fun e w' => PaOut (parseR s) w e w' := by
  have HL := hid (f_lex s w)
  have hmf : ∀ (fn : Fn) (first cap : Array Value) (w : World), (Instr.makeFunc fn first cap).run Tryz.prog w = .ok (.func fn first cap) w := fun _ _ _ _ => rfl
  unfold parseR
  cases hs : lexR s with
  | bad p c =>
    rw [hs] at HL
    have hc := (lexR_bad hs).1
    have q0 : (c != 0) = true := by simpa using hc
    clear hs hc
    go_enter Tryz.func12, Tryz.ntmps12
    go_wp2_with fail
    refine HL.out.mono ?_
    rintro e w1 ⟨rfl, g1⟩
    have G1 := hid g1
    clear g1 HL
    go_wp2
    go_ret3
    exact ⟨rfl, G1.out⟩
  | ok ts =>
    rw [hs] at HL
    have he := lexR_end hs
    have HEN := hid he
    clear hs
    go_enter Tryz.func12, Tryz.ntmps12
    go_wp2_with fail
    refine HL.out.mono ?_
    intro e w1 h1
    obtain ⟨g, c, rfl, ho, g1⟩ := lx_slice h1 he.1.ne
    have HO := hid ho
    have G1 := hid g1
    have gb := SOwn.block ho g rfl
    clear h1 ho g1 HL he
    have HRD : Hid (RdAt (w1.alloc (.cells #[.slice (some ⟨g, 0, none⟩) ts.length c, .int .i64 0, .int .i64 0, .slice none 0 0] 60)) (w1.heap.size + 1) w1.heap.size ⟨g, c, ts⟩ 0 0 (.slice none 0 0) []) := by
      have ga := World.grownBy_alloc w1 (.cells #[.slice (some ⟨g, 0, none⟩) ts.length c, .int .i64 0, .int .i64 0, .slice none 0 0] 60) none
      exact ⟨by omega, by show g < _; omega, by show g ≠ _; omega, by rw [size_alloc]; omega, heap_alloc_new _ _, (SOwn.rd HO.out).grown ga (by simp), NdAt.nil _ _⟩
    have HAH : Hid (Ahead ⟨g, c, ts⟩ 0 ts) := ⟨rfl, HEN.out.1, HEN.out.2⟩
    generalize hW : (w1.alloc (.cells #[.slice (some ⟨g, 0, none⟩) ts.length c, .int .i64 0, .int .i64 0, .slice none 0 0] 60)) = W at HRD
    have HCA := hid (f_caught (b := w1.heap.size + 1) (p := w1.heap.size) (parseT ts) W (f_query ((HRD.out.grown (World.grownBy_alloc W _ none)).grown (World.grownBy_alloc _ _ none)) HAH.out) HRD.out.lt HRD.out.hb)
    have HGW : Hid (w.grownBy W none) := by show World.grownBy _ _ _; rw [← hW]; exact G1.out.trans (World.grownBy_alloc _ _ none)
    have HSZ : Hid (w.heap.size ≤ w1.heap.size) := G1.out.size
    have HW := hid hW
    clear hW
    obtain ⟨R, eR⟩ : ∃ R, parseT ts = R := ⟨_, rfl⟩
    have ER := hid eR
    rw [eR] at HCA
    clear eR
    go_wp2_with fail
    rw [HW.out]
    refine HCA.out.mono ?_
    intro e w2 h2
    cases R with
    | ok ns =>
      obtain ⟨v2, Q2, rfl, hn, hq, hf⟩ := h2
      have HN := hid (hn.base (b' := w.heap.size) (by have := HSZ.out; omega))
      have HQ := hid hq
      have HG2 := hid (((Fr.of (S := Me w1.heap.size) HGW.out).trans hf (fun _ _ e => e)).grown (fun k hk e => by change k = w1.heap.size at e; have := HSZ.out; omega))
      clear hn hq hf HCA
      go_wp2
      go_ret3
      show PaOut (parseT ts) _ _ _
      rw [ER.out]
      exact ⟨v2, Q2, rfl, HN.out, HQ.out, HG2.out⟩
    | bad q c9 =>
      obtain ⟨rfl, hf⟩ := h2
      have HG2 := hid (((Fr.of (S := Me w1.heap.size) HGW.out).trans hf (fun _ _ e => e)).grown (fun k hk e => by change k = w1.heap.size at e; have := HSZ.out; omega))
      clear hf HCA
      go_wp2
      go_ret3
      show PaOut (parseT ts) _ _ _
      rw [ER.out]
      exact ⟨rfl, HG2.out⟩
end Go.Proofs.YthbodkgcbfplgaaGreat

/- Package parse: awake. -/
namespace Go.Proofs.YthbodkgcbfplgaaGreat
open Go.RowKit
set_option linter.unusedVariables false
set_option linter.unusedSimpArgs false
set_option maxRecDepth 20000

def awT : List Tok := [(3, 0, ⟨#[115, 117, 109]⟩, 0), (3, 4, ⟨#[98, 121]⟩, 0), (5, 7, ⟨#[40]⟩, 0), (3, 8, ⟨#[97]⟩, 0), (5, 9, ⟨#[41]⟩, 0), (5, 11, ⟨#[40]⟩, 0), (3, 12, ⟨#[114, 97, 116, 101]⟩, 0), (5, 16, ⟨#[40]⟩, 0), (3, 17, ⟨#[120]⟩, 0), (5, 18, ⟨#[91]⟩, 0), (2, 19, ⟨#[53, 109]⟩, 300), (5, 21, ⟨#[93]⟩, 0), (5, 22, ⟨#[41]⟩, 0), (5, 23, ⟨#[41]⟩, 0), (5, 25, ⟨#[47]⟩, 0), (1, 27, ⟨#[50]⟩, 0), (0, 28, ⟨#[]⟩, 0)]
def awN : List Nd := [⟨3, 0, ⟨#[]⟩, [(1, nameS, ⟨#[120]⟩)], 300, 0, 0, [], false, 0⟩, callN 1, aggN 1 1 [⟨#[97]⟩], numN ⟨#[50]⟩, binN 4 false 0 []]
theorem aw_lex : lexR ⟨#[115, 117, 109, 32, 98, 121, 32, 40, 97, 41, 32, 40, 114, 97, 116, 101, 40, 120, 91, 53, 109, 93, 41, 41, 32, 47, 32, 50]⟩ = .ok awT := lex_lit _ _ _ rfl (by decide) (by rfl)
theorem aw_lex2 : lexR ⟨#[120, 32, 120]⟩ = .ok [(3, 0, ⟨#[120]⟩, 0), (3, 2, ⟨#[120]⟩, 0), (0, 3, ⟨#[]⟩, 0)] := lex_lit _ _ _ rfl (by decide) (by rfl)
theorem aw_tree2 : parseT [(3, 0, ⟨#[120]⟩, 0), (3, 2, ⟨#[120]⟩, 0), (0, 3, ⟨#[]⟩, 0)] = .bad 2 181 := by kernel_rfl
theorem aw_tree : parseT awT = .ok awN := by kernel_rfl
theorem aw_pa : parseR ⟨#[115, 117, 109, 32, 98, 121, 32, 40, 97, 41, 32, 40, 114, 97, 116, 101, 40, 120, 91, 53, 109, 93, 41, 41, 32, 47, 32, 50]⟩ = .ok awN := by unfold parseR; rw [aw_lex]; exact aw_tree
theorem aw_pa2 : parseR ⟨#[120, 32, 120]⟩ = .bad 2 181 := by unfold parseR; rw [aw_lex2]; exact aw_tree2
/-- The cells of a node in a list. -/
theorem nd_cells {w : World} {b off i : Nat} {L : List Row} {q : Row} (h : SRd ndE w (some ⟨b, off, none⟩) L) (hq : L[i]? = some q) :
    w.cell? ⟨b, off + i * 10, none⟩ = some (.int .i64 q.1.kind) ∧ w.cell? ⟨b, off + i * 10 + 1, none⟩ = some (.int .i64 q.1.op) ∧ w.cell? ⟨b, off + i * 10 + 2, none⟩ = some (.string q.1.text) ∧ w.cell? ⟨b, off + i * 10 + 3, none⟩ = some (slV q.2.1) ∧ w.cell? ⟨b, off + i * 10 + 4, none⟩ = some (.int .i64 q.1.width) ∧ w.cell? ⟨b, off + i * 10 + 5, none⟩ = some (.int .i64 q.1.back) ∧ w.cell? ⟨b, off + i * 10 + 6, none⟩ = some (.int .i64 q.1.group) ∧ w.cell? ⟨b, off + i * 10 + 7, none⟩ = some (slV q.2.2) ∧ w.cell? ⟨b, off + i * 10 + 8, none⟩ = some (.bool q.1.bool) ∧ w.cell? ⟨b, off + i * 10 + 9, none⟩ = some (.int .i64 q.1.parts) := by
  obtain ⟨b', off', e, hc⟩ := h.at (by have := (List.getElem?_eq_some_iff.1 hq).1; omega)
  cases e
  refine ⟨hc i q 0 _ hq rfl, ?_, ?_, ?_, ?_, ?_, ?_, ?_, ?_, ?_⟩ <;> rw [Nat.add_assoc]
  · exact hc i q 1 _ hq rfl
  · exact hc i q 2 _ hq rfl
  · exact hc i q 3 _ hq rfl
  · exact hc i q 4 _ hq rfl
  · exact hc i q 5 _ hq rfl
  · exact hc i q 6 _ hq rfl
  · exact hc i q 7 _ hq rfl
  · exact hc i q 8 _ hq rfl
  · exact hc i q 9 _ hq rfl
theorem row_of {Q : List Row} {ns : List Nd} {i : Nat} {x : Nd} (h : Q.map (·.1) = ns) (hx : ns[i]? = some x) : ∃ q, Q[i]? = some q ∧ q.1 = x := by
  rw [← h, List.getElem?_map] at hx
  cases hq : Q[i]? with
  | none => rw [hq] at hx; cases hx
  | some q => rw [hq] at hx; exact ⟨q, rfl, Option.some.inj hx⟩
theorem NdAt.some {w : World} {b : Nat} {v : Value} {L : List Row} (h : NdAt w b v L) (hl : 0 < L.length) : ∃ g c, v = .slice (some ⟨g, 0, none⟩) L.length c ∧ SRd ndE w (some ⟨g, 0, none⟩) L := by
  rcases h.own.2 with ⟨e, h0⟩ | ⟨g, c, cur, e, _⟩
  · omega
  · have := h.own
    rw [e] at this
    exact ⟨g, c, e, this.rd⟩
theorem NdAt.grown {w w' : World} {b : Nat} {v : Value} {L : List Row} (h : NdAt w b v L) (hg : w.grownBy w' none) : NdAt w' b v L := h.same (fun j _ hj => hg.block j hj (by simp))
end Go.Proofs.YthbodkgcbfplgaaGreat

