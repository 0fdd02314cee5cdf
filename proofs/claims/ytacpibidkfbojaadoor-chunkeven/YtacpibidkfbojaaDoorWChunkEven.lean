/- Points at even distances with one value take two bits each. -/
import Derived.Test.YtacpibidkfbojaaDoorKwalk
import Derived.Test.YtacpibidkfbojaaDoorHeven
namespace Go.Proofs.YtacpibidkfbojaaDoor
open Go.ChangeShapes Go.WideShapes Go.ChangeAt Go.RowKit
set_option linter.unusedVariables false

def ev (t d v : Int) (n : Nat) : List Pnt := (List.range n).map (fun i : Nat => ((t + (i : Int) * d, v) : Pt))
theorem ev_len (t d v : Int) (n : Nat) : (ev t d v n).length = n := by simp [ev]
theorem ev_succ (t d v : Int) (n : Nat) : ev t d v (n + 1) = ev t d v n ++ [(t + (n : Int) * d, v)] := by simp [ev, List.range_succ]
theorem ev_evens (t d v : Int) (n : Nat) : ev t d v (n + 1) = (t, v) :: evens t d v n := evens_range t d v n
theorem ev_vals {t d v : Int} (hv : okV v) (n : Nat) : ∀ q ∈ ev t d v n, okV q.2 := by
  intro q hq
  simp only [ev, List.mem_map] at hq
  obtain ⟨i, _, rfl⟩ := hq
  exact hv
theorem ev_two (t d v : Int) (n : Nat) (h : 2 ≤ n) : (ev t d v n).take 2 = ev t d v 2 := by
  unfold ev
  rw [← List.map_take, List.take_range]
  rw [Nat.min_eq_left h]
theorem ev_enc {t d v : Int} (hd : 1 ≤ d) (hd2 : d ≤ 10000) (h1 : -1073741824 ≤ t) (h2 : t ≤ 1073741824) (n : Nat) (hn : 1 ≤ n) (hn2 : n ≤ 8191) : encC (ev t d v n) = 0 := by
  refine encC_zero.2 ⟨by rw [ev_len]; exact hn2, ?_⟩
  obtain ⟨m, rfl⟩ : ∃ m, n = m + 1 := ⟨n - 1, by omega⟩
  rw [ev_evens]
  exact okTimes_even hd hd2 m (by omega) (by omega)
theorem ev_size {t d v : Int} (hd : 1 ≤ d) (hd2 : d ≤ 10000) (h1 : -1073741824 ≤ t) (h2 : t ≤ 1073741824) (n : Nat) (hn : 2 ≤ n) (hn2 : n ≤ 8191) : (encB (ev t d v n)).length ≤ (encB (ev t d v 2)).length + (2 * n + 7) / 8 := by
  unfold encB
  rw [if_pos (ev_enc hd hd2 h1 h2 n (by omega) hn2), if_pos (ev_enc hd hd2 h1 h2 2 (by omega) (by omega)), pack_len, pack_len]
  obtain ⟨m, rfl⟩ : ∃ m, n = m + 2 := ⟨n - 2, by omega⟩
  rw [ev_evens t d v (m + 1), ev_evens t d v 1, encP_even t d v m]
  omega
theorem SRd.take {α : Type} {E : Elem α} {w : World} {a : Option Addr} {l : List α} (h : SRd E w a l) (k : Nat) : SRd E w a (l.take k) := by
  rcases h with h | ⟨b, off, e, h⟩
  · rw [h]; exact .inl (by simp)
  · refine .inr ⟨b, off, e, fun j v hj => h j v ?_⟩
    rw [E.flat_take] at hj
    rw [List.getElem?_take] at hj
    split at hj
    · exact hj
    · cases hj
def lenOf : Value → Nat
  | .slice _ n _ => n
  | _ => 0
theorem step_bd (gap : Int) : 1 ≤ wrap64 (1 + wrap64 ((IntKind.u64.wrap gap).tmod 10000)) ∧ wrap64 (1 + wrap64 ((IntKind.u64.wrap gap).tmod 10000)) ≤ 10000 := by
  rw [wrap_is]
  rw [Int.tmod_eq_emod_of_nonneg (show 0 ≤ gap % 18446744073709551616 by omega)]
  unfold wrap64
  omega
theorem SOwn.any {α : Type} {E : Elem α} {e : TypeId} {W w w' : World} {v : Value} {n : Nat} {l : List α} (h : SOwn E e w W.heap.size v n l) (hW : W.grownBy w none) (hg : w.grownBy w' v.ownBlock) : W.grownBy w' none :=
  gb_trans hW hg (fun k hk => .inl (SOwn.block h k hk).1)
set_option maxRecDepth 100000 in
set_option maxHeartbeats 8000000 in
theorem chunkEven_walk (first gap v many : Int) (W : World) (w0 : (Lit.int .i64 first).wf = true) (w1 : (Lit.int .i64 gap).wf = true) (w2 : (Lit.int .u64 v).wf = true) (w3 : (Lit.int .i64 many).wf = true) (hB : Bf W) :
    Calls Tryd.prog 8 #[.int .i64 first, .int .i64 gap, .int .u64 v, .int .i64 many] W fun e w' => e = .returned (.bool true) ∧ Below W.heap.size W w' := by
  have hv : okV v := by
    simp only [Lit.wf, Bool.and_eq_true, decide_eq_true_eq] at w2
    have e1 : IntKind.u64.min = 0 := rfl
    have e2 : IntKind.u64.max = 18446744073709551615 := rfl
    have e3 : (2 : Int) ^ 64 = 18446744073709551616 := rfl
    exact ⟨by omega, by omega⟩
  have HV : Hid (okV v) := hv
  have HAw : Hid (∀ w, W.grownBy w none → Calls Tryd.prog 16 #[] w fun e w' => e = .returned (.bool true) ∧ w.grownBy w' none) := fun w hg => awake_chunk w (hB.grown hg (by simp))
  have HBF : Hid (∀ w, W.grownBy w none → Bf w) := fun w hg => hB.grown hg (by simp)
  clear w0 w1 w2 w3 hv hB
  go_enter Tryd.func8, Tryd.ntmps8
  go_wp2_with fail
  refine (Low_any _ _).mono ?_
  rintro e w1 ⟨r, rfl, hr0, hr1, rfl⟩
  have hq0 := Int.emod_nonneg r (show (8190 : Int) ≠ 0 by omega)
  have hq1 := Int.emod_lt_of_pos r (show (0 : Int) < 8190 by omega)
  go_wp2
  obtain ⟨n, hn⟩ : ∃ n : Nat, 2 + r % 8190 = (n : Int) := ⟨(2 + r % 8190).toNat, by omega⟩
  have hnb : 2 ≤ n ∧ n ≤ 8191 := by omega
  rw [hn]
  clear hn hq0 hq1 hr0 hr1
  have hT := And.intro (Int.lt_tmod_of_pos first (show (0 : Int) < 1073741824 by omega)) (Int.tmod_lt_of_pos first (show (0 : Int) < 1073741824 by omega))
  have hD := step_bd gap
  generalize first.tmod 1073741824 = T at hT ⊢
  generalize wrap64 (1 + wrap64 ((IntKind.u64.wrap gap).tmod 10000)) = D at hD ⊢
  have HT : Hid (-1073741824 ≤ T ∧ T ≤ 1073741824) := by show _ ∧ _; omega
  have HD : Hid (1 ≤ D ∧ D ≤ 10000) := hD
  go_loopw [12, 13] (fun t12 t13 wr => ∃ (k : Nat) (vP : Value), k ≤ n ∧ t12 = vP ∧ t13 = .int .i64 k ∧ SOwn pntE 41 wr W.heap.size vP k (ev T D v k) ∧ W.grownBy wr none) (fun _ i _ => n - (intOf i).toNat)
  case atStart => exact ⟨0, _, Nat.zero_le _, rfl, rfl, SOwn.nil 41 _ _, World.grownBy.refl _ _⟩
  case round =>
    obtain ⟨k, v0, hk, e12, rfl, hso, hgr⟩ := hrel
    have e12' := e12.symm
    clear e12
    subst e12'
    have HSO : Hid (SOwn pntE 41 wr W.heap.size v0 k (ev T D v k)) := hso
    have HGR : Hid (W.grownBy wr none) := hgr
    clear hso hgr
    by_cases hlt : k < n
    · have hi : (k : Int) < (n : Int) := by omega
      have hk0 : (0 : Int) ≤ (k : Int) * D := Int.mul_nonneg (by omega) (by omega)
      have hk1 : (k : Int) * D ≤ 81910000 := Int.le_trans (Int.mul_le_mul (show (k : Int) ≤ 8191 by omega) hD.2 (by omega) (by omega)) (by omega)
      go_wp2_with (at_builtin; refine wpList_append_s pntET rfl (.tmp 38) (.tmp 46) rfl W.heap.size v0 k (ev T D v k) rfl (SOwn.kept HSO.out (World.grownBy_alloc wr _ none) (Classical.em _)) (some ⟨wr.heap.size, 0, none⟩) [(T + (k : Int) * D, v)] 1 1 rfl rfl (plit wr [(T + (k : Int) * D, v)]) (by simp) (by omega) (by unfold maxLen; omega) (Nat.le_trans HGR.out.size (World.grownBy_alloc wr _ none).size) ?_; intro v2 w2 ho2 hg2 hn2)
      have HO2 : Hid (SOwn pntE 41 w2 W.heap.size v2 (k + 1) (ev T D v (k + 1))) := by show SOwn _ _ _ _ _ _ _; rw [ev_succ]; exact ho2
      have HG2 : Hid (W.grownBy w2 none) := SOwn.any (SOwn.kept HSO.out (World.grownBy_alloc wr _ none) (Classical.em _)) (HGR.out.trans (World.grownBy_alloc wr _ none)) hg2
      clear ho2 hg2 hn2
      go_wp2
      go_roundw
      case rel => exact ⟨k + 1, v2, by omega, rfl, by go_num, HO2.out, HG2.out⟩
      case measure => simp [intOf]; omega
    · obtain rfl : k = n := by omega
      clear hlt hk hT hD
      obtain ⟨g, c, rfl, hgW, hgs, hkc, hcm⟩ := SOwn.some HSO.out (by
        intro e
        rcases HSO.out.2 with ⟨_, h0⟩ | ⟨g', cap, cur, h', _⟩
        · omega
        · rw [e] at h'; cases h')
      have HPO : Hid (PO wr W.heap.size (some ⟨g, 0, none⟩) k c (ev T D v k)) := HSO.out
      have hkc' : (2 : Int) ≤ (c : Int) := by omega
      have hc0 : (c : Int) ≤ 9223372036854775807 := by unfold maxLen at hcm; omega
      have HC9 : Hid (Calls Tryd.prog 13 #[.slice (some ⟨g, 0, none⟩) k c] wr fun e w' => ∃ g c, e = .returned (.slice (some ⟨g, 0, none⟩) k c) ∧ POwn w' wr.heap.size g k c (ev T D v k) ∧ wr.grownBy w' none) := pcopy _ _ k c wr HPO.out.rd (ev_len _ _ _ _) (by simp) (by omega)
      have HC10 : Hid (∀ w, wr.grownBy w none → Calls Tryd.prog 13 #[.slice (some ⟨g, 0, none⟩) 2 c] w fun e w' => ∃ g c, e = .returned (.slice (some ⟨g, 0, none⟩) 2 c) ∧ POwn w' w.heap.size g 2 c (ev T D v 2) ∧ w.grownBy w' none) := by
        intro w hg
        have h := (HPO.out.kept hg).rd.take 2
        rw [ev_two T D v k (by omega)] at h
        exact pcopy _ _ 2 c w h (ev_len _ _ _ _) (by simp) (by omega)
      have HE : Hid (∀ (m : Nat) (g c : Nat) (w : World), 1 ≤ m → m ≤ 8191 → W.grownBy w none → SRd pntE w (some ⟨g, 0, none⟩) (ev T D v m) → Calls Tryd.prog 11 #[.slice (some ⟨g, 0, none⟩) m c] w fun e w' => ∃ v' n' c', e = .returned (.tuple #[.slice v' n' c', .int .i64 0]) ∧ BO w' w.heap.size v' n' c' (encB (ev T D v m)) ∧ w.grownBy w' none) := by
        intro m g c w h1 h2 hg hr
        refine (k_enc _ (ev T D v m) m c w hr (ev_len _ _ _ _) (by omega) (ev_vals HV.out m) (HBF.out w hg)).mono ?_
        rintro e w' ⟨v', n', c', rfl, hn', ho, hg'⟩
        rw [ev_enc HD.out.1 HD.out.2 HT.out.1 HT.out.2 m h1 h2]
        exact ⟨v', n', c', rfl, ho, hg'⟩
      have HDC : Hid (∀ (a : Option Addr) (m c : Nat) (w : World), W.grownBy w none → Rd w a (encB (ev T D v k)) → (encB (ev T D v k)).length = m → Calls Tryd.prog 19 #[.slice a m c] w fun e w' => ∃ v' n' c', e = .returned (.tuple #[.slice v' n' c', .int .i64 0]) ∧ n' = k ∧ PO w' w.heap.size v' n' c' (ev T D v k) ∧ w.grownBy w' none) := by
        intro a m c w hg hr hm
        have hb := encB_len (ps := ev T D v k) (ev_vals HV.out k)
        refine (k_dec a _ m c w hr hm (by omega) (HBF.out w hg)).mono ?_
        rintro e w' ⟨v', n', c', ps, d, rfl, hn', ho, hg', hd⟩
        obtain ⟨rfl, rfl⟩ := (DecAns.some (dec_encB (ev_vals HV.out k) (ev_enc HD.out.1 HD.out.2 HT.out.1 HT.out.2 k (by omega) (by omega)))).det hd
        exact ⟨v', n', c', rfl, by rw [hn', ev_len], ho, hg'⟩
      have HSZ : Hid ((encB (ev T D v k)).length ≤ (encB (ev T D v 2)).length + (2 * k + 7) / 8) := ev_size HD.out.1 HD.out.2 HT.out.1 HT.out.2 k (by omega) (by omega)
      clear HSO hgW hgs hkc hcm
      go_wp2_with fail
      refine HC9.out.mono ?_
      rintro e w1 ⟨g1, c1, rfl, ho1, hg1⟩
      have HO1 : Hid (POwn w1 wr.heap.size g1 k c1 (ev T D v k)) := ho1
      have HG1 : Hid (wr.grownBy w1 none) := hg1
      clear ho1 hg1 HC9
      go_wp2_with fail
      refine (HE.out k g1 c1 w1 (by omega) (by omega) (HGR.out.trans HG1.out) HO1.out.rd).mono ?_
      rintro e w2 ⟨v2, m2, c2, rfl, lo2, hg2⟩
      have HB2 : Hid (BO w2 w1.heap.size v2 m2 c2 (encB (ev T D v k))) := lo2
      have HG2 : Hid (wr.grownBy w2 none) := HG1.out.trans hg2
      clear lo2 hg2 HO1 HG1
      go_wp2_with fail
      refine (HC10.out w2 HG2.out).mono ?_
      rintro e w3 ⟨g3, c3, rfl, ho3, hg3⟩
      have HO3 : Hid (POwn w3 w2.heap.size g3 2 c3 (ev T D v 2)) := ho3
      have HG3 : Hid (wr.grownBy w3 none) := HG2.out.trans hg3
      have HB3 : Hid (BO w3 w1.heap.size v2 m2 c2 (encB (ev T D v k))) := HB2.out.kept hg3
      clear ho3 hg3 HC10 HB2 HG2
      go_wp2_with fail
      refine (HE.out 2 g3 c3 w3 (by omega) (by omega) (HGR.out.trans HG3.out) HO3.out.rd).mono ?_
      rintro e w4 ⟨v4, m4, c4, rfl, lo4, hg4⟩
      have HG4 : Hid (wr.grownBy w4 none) := HG3.out.trans hg4
      have HB4 : Hid (BO w4 w1.heap.size v2 m2 c2 (encB (ev T D v k))) := HB3.out.kept hg4
      have HM4 : Hid ((encB (ev T D v 2)).length = m4) := lo4.len
      clear lo4 hg4 HE HB3 HG3 HO3
      go_wp2_with fail
      refine (HDC.out v2 m2 c2 w4 (HGR.out.trans HG4.out) (HB4.out.rd (encB_byte _)) HB4.out.len).mono ?_
      rintro e w5 ⟨v5, m5, c5, rfl, rfl, lo5, hg5⟩
      have HP5 : Hid (PO w5 w4.heap.size v5 m5 c5 (ev T D v m5)) := lo5
      have HG5 : Hid (wr.grownBy w5 none) := HG4.out.trans hg5
      have HPO5 : Hid (PO w5 W.heap.size (some ⟨g, 0, none⟩) m5 c (ev T D v m5)) := HPO.out.kept HG5.out
      have hsz : (m2 : Int) ≤ (m4 : Int) + (2 * (m5 : Int) + 7) / 8 := by have h1 := HSZ.out; have h2 := HB4.out.len; have h3 := HM4.out; omega
      have qsz : decide ((m4 : Int) + (2 * (m5 : Int) + 7) / 8 < (m2 : Int)) = false := by simp; omega
      have hm4 : (m4 : Int) ≤ 137438954000 := by have h1 := encB_len (ps := ev T D v 2) (ev_vals HV.out 2); have h3 := HM4.out; omega
      clear lo5 hg5 HDC HB4 HG4 HM4 HSZ hsz
      go_wp2_with fail
      refine (psame v5 (some ⟨g, 0, none⟩) _ _ m5 m5 c5 c w5 HP5.out.rd HPO5.out.rd (ev_len _ _ _ _) (ev_len _ _ _ _) (by omega)).mono ?_
      rintro e w6 ⟨rfl, hg6⟩
      have htt : decide (ev T D v m5 = ev T D v m5) = true := by simp
      rw [htt]
      clear htt
      have HG6 : Hid (W.grownBy w6 none) := (HGR.out.trans HG5.out).trans hg6
      have HPO6 : Hid (SOwn pntE 41 w6 W.heap.size (.slice (some ⟨g, 0, none⟩) m5 c) m5 (ev T D v m5)) := HPO5.out.kept hg6
      clear hg6 HP5 HPO5 HG5
      go_wp2
      go_loopw [12] (fun t12 wq => ∃ (j : Nat) (ls : List Pnt) (vP : Value), 2 ≤ j ∧ j ≤ 8192 ∧ t12 = vP ∧ SOwn pntE 41 wq W.heap.size vP j ls ∧ (∀ q ∈ ls, okV q.2) ∧ W.grownBy wq none) (fun t12 _ => 8192 - lenOf t12)
      case atStart => exact ⟨m5, _, _, hnb.1, by omega, rfl, HPO6.out, ev_vals HV.out m5, HG6.out⟩
      case round =>
        obtain ⟨j, ls, vQ, hj2, hj, e12, hso, hvs, hgr⟩ := hrel
        have e12' := e12.symm
        clear e12
        obtain ⟨aQ, cQ, rfl⟩ := SOwn.form hso
        subst e12'
        have HSQ : Hid (SOwn pntE 41 wr W.heap.size (.slice aQ j cQ) j ls) := hso
        have HVS : Hid (∀ q ∈ ls, okV q.2) := hvs
        have HGQ : Hid (W.grownBy wr none) := hgr
        clear hso hvs hgr HPO6 HG6 HPO
        by_cases hlt : j ≤ 8191
        · have hi : decide ((j : Int) ≤ 8191) = true := by simp; omega
          obtain ⟨i, rfl⟩ : ∃ i, j = i + 1 := ⟨j - 1, by omega⟩
          obtain ⟨bq, oq, rfl, hcq⟩ := (SOwn.rd HSQ.out).at (by rw [SOwn.len HSQ.out]; omega)
          obtain ⟨⟨tq, uq⟩, exq⟩ : ∃ x, ls[i]? = some x := ⟨_, List.getElem?_eq_getElem (by rw [SOwn.len HSQ.out]; omega)⟩
          have cq : wr.cell? ⟨bq, oq + i * 2, none⟩ = some (.int .i64 tq) := hcq i _ 0 _ exq rfl
          have hii : (i : Int) < (i : Int) + 1 := by omega
          clear hcq exq
          go_wp2_with (at_builtin; refine wpList_append_s pntET rfl (.tmp 93) (.tmp 104) rfl W.heap.size (.slice (some ⟨bq, oq, none⟩) (i + 1) cQ) (i + 1) ls rfl (SOwn.kept HSQ.out (World.grownBy_alloc wr _ none) (Classical.em _)) (some ⟨wr.heap.size, 0, none⟩) [(wrap64 (tq + 1), v)] 1 1 rfl rfl (plit wr [(wrap64 (tq + 1), v)]) (by simp) (by omega) (by unfold maxLen; omega) (Nat.le_trans HGQ.out.size (World.grownBy_alloc wr _ none).size) ?_; intro v2 w2 ho2 hg2 hn2)
          have HO2 : Hid (SOwn pntE 41 w2 W.heap.size v2 (i + 1 + 1) (ls ++ [(wrap64 (tq + 1), v)])) := ho2
          have HG2 : Hid (W.grownBy w2 none) := SOwn.any (SOwn.kept HSQ.out (World.grownBy_alloc wr _ none) (Classical.em _)) (HGQ.out.trans (World.grownBy_alloc wr _ none)) hg2
          have HV2 : Hid (∀ q ∈ ls ++ [(wrap64 (tq + 1), v)], okV q.2) := by
            intro q hq
            rcases List.mem_append.1 hq with h | h
            · exact HVS.out q h
            · simp only [List.mem_singleton] at h
              subst h
              exact HV.out
          clear ho2 hg2 hn2
          obtain ⟨a2, c2, rfl⟩ := SOwn.form HO2.out
          go_wp2
          go_roundw
          case rel => exact ⟨i + 1 + 1, _, _, by omega, by omega, rfl, HO2.out, HV2.out, HG2.out⟩
          case measure => simp [lenOf]; omega
        · have hi : decide ((j : Int) ≤ 8191) = false := by simp; omega
          have hlen := SOwn.len HSQ.out
          have HE51 : Hid (Calls Tryd.prog 11 #[.slice aQ j cQ] wr fun e w' => ∃ v' n' c', e = .returned (.tuple #[.slice v' n' c', .int .i64 51]) ∧ wr.grownBy w' none) := by
            refine (k_enc aQ ls j cQ wr (SOwn.rd HSQ.out) hlen (by omega) HVS.out (HBF.out wr HGQ.out)).mono ?_
            rintro e w' ⟨v', n', c', rfl, hn', ho, hg'⟩
            have h51 : encC ls = 51 := by unfold encC; rw [if_pos (by omega)]
            rw [h51]
            exact ⟨v', n', c', rfl, hg'⟩
          clear hlen
          go_wp2_with fail
          refine HE51.out.mono ?_
          rintro e w2 ⟨v2, m2, c2, rfl, hg2⟩
          have HG2 : Hid (W.grownBy w2 none) := HGQ.out.trans hg2
          clear hg2 HE51
          go_wp2_with fail
          refine (HAw.out w2 HG2.out).mono ?_
          rintro e w3 ⟨rfl, hg3⟩
          have HG3 : Hid (W.grownBy w3 none) := HG2.out.trans hg3
          clear hg3
          go_wp2
          go_ret
          exact ⟨rfl, gb_below HG3.out⟩
end Go.Proofs.YtacpibidkfbojaaDoor
