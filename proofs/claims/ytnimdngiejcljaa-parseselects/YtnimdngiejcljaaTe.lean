/- ParseSelects: the walk. -/
import Derived.Test.YtnimdngiejcljaaTd
import Derived.Test.YtnimdngiejcljaaWi
import Derived.Deep.CutRange
namespace Go.Proofs.Ytnimdngiejcljaa
open Go.RowKit
set_option linter.unusedVariables false
set_option linter.unusedSimpArgs false
set_option maxRecDepth 20000

theorem sInts_at {W : ByteArray} {i : Nat} (h : i < W.size) : (sInts W)[i]? = some ((W[i].toNat : Nat) : Int) := by
  have h2 : i < (sInts W).length := by rw [sInts_len]; exact h
  unfold sInts
  rw [List.getElem?_map, Array.getElem?_toList, Array.getElem?_eq_getElem (by exact h)]
  rfl
theorem empty_W (W : ByteArray) : W.toList.isEmpty = decide (W.size = 0) := by
  have h1 : W.toList.isEmpty = (W.toList == ByteArray.toList ⟨#[]⟩) := by
    rw [show ByteArray.toList ⟨#[]⟩ = [] by kernel_rfl]
    cases W.toList <;> rfl
  rw [h1, str_eq]
  congr 1
  apply propext
  constructor
  · intro e; rw [e]; rfl
  · intro e; exact ByteArray.ext (Array.eq_empty_of_size_eq_zero e)
theorem take_next {P : Int → Prop} {W : ByteArray} {i : Nat} (h : i < W.size) (hj : ∀ c ∈ (sInts W).take i, P c) (hc : P ((W[i].toNat : Nat) : Int)) : ∀ c ∈ (sInts W).take (i + 1), P c := fun c hm => by
  rw [List.take_add_one, sInts_at h] at hm
  rcases List.mem_append.1 hm with h1 | h1
  · exact hj c h1
  · have : c = ((W[i].toNat : Nat) : Int) := by simpa using h1
    rw [this]; exact hc
theorem take_whole {P : Int → Prop} {W : ByteArray} {i : Nat} (h : ¬ i < W.size) (hj : ∀ c ∈ (sInts W).take i, P c) : ∀ c ∈ sInts W, P c := fun c hm => by
  rw [List.take_of_length_le (by rw [sInts_len]; omega)] at hj
  exact hj c hm
theorem digs_str (n : Nat) (h : n < 10000000000) : sInts (strOfNums (digsF 10 n)) = digsF 10 n := sInts_str fun z hz => by
  have := (digs_ok 10 n h (by decide)).2.1 z hz
  unfold digB at this
  simp only [Bool.and_eq_true, decide_eq_true_eq] at this
  omega
theorem hin_size {w : World} {i : Nat} {c : Array Value} {t : TypeId} {x : Nat × Nat} (h : w.heap[i]? = some (.cells c t x)) : i < w.heap.size := (Array.getElem?_eq_some_iff.1 h).1
theorem box_set5 {w : World} {g : Nat} {kd op wi ba gr pa : Int} {tx : ByteArray} {ms ns : Value} {bo : Bool} (h : w.heap[g]? = some (.cells #[.int .i64 kd, .int .i64 op, .string tx, ms, .int .i64 wi, .int .i64 ba, .int .i64 gr, ns, .bool bo, .int .i64 pa] 34 (0, 0))) (b : Int) :
    (w.setCell ⟨g, 5, none⟩ (.int .i64 b)).heap[g]? = some (.cells #[.int .i64 kd, .int .i64 op, .string tx, ms, .int .i64 wi, .int .i64 b, .int .i64 gr, ns, .bool bo, .int .i64 pa] 34 (0, 0)) := by simp [World.setCell, Array.getElem?_modify, h]
theorem sel_str (W V K D : ByteArray) : sInts ((((((((W ++ ⟨#[123, 32]⟩) ++ W) ++ K) ++ ⟨#[34]⟩) ++ V) ++ ⟨#[34, 32, 125, 91]⟩) ++ D) ++ ⟨#[115, 93]⟩) = sInts W ++ ([123] ++ ([32] ++ (sInts W ++ (sInts K ++ ((34 :: (sInts V ++ [34])) ++ ([32] ++ ([125] ++ ([91] ++ ((sInts D ++ [115]) ++ [93]))))))))) := by
  have h1 : sInts ⟨#[123, 32]⟩ = [123, 32] := rfl
  have h2 : sInts ⟨#[34]⟩ = [34] := rfl
  have h3 : sInts ⟨#[34, 32, 125, 91]⟩ = [34, 32, 125, 91] := rfl
  have h4 : sInts ⟨#[115, 93]⟩ = [115, 93] := rfl
  simp only [sInts_cat, h1, h2, h3, h4, List.append_assoc]
  simp
theorem kindS_le {k : Nat} (hk : k < 4) : (kindS ((k : Int) + 1)).size ≤ 2 := by
  have : k = 0 ∨ k = 1 ∨ k = 2 ∨ k = 3 := by omega
  rcases this with rfl | rfl | rfl | rfl <;> decide
theorem kinds_rd (w : World) : ∀ {k : Nat}, k < 4 → (w.alloc (.cells #[.string ⟨#[61]⟩, .string ⟨#[33, 61]⟩, .string ⟨#[61, 126]⟩, .string ⟨#[33, 126]⟩] 9)).cell? ⟨w.heap.size, k, none⟩ = some (.string (kindS ((k : Int) + 1))) := fun {k} hk => by
  rw [cell_of_row _ _ _ _ _ _ (heap_alloc_new w _)]
  have : k = 0 ∨ k = 1 ∨ k = 2 ∨ k = 3 := by omega
  rcases this with rfl | rfl | rfl | rfl <;> rfl
set_option maxHeartbeats 16000000 in
theorem selects_walk (W V : ByteArray) (kind span back : Int) (w : World) (hWz : W.size ≤ 9223372036854775807) (hVz : V.size ≤ 9223372036854775807) : Calls Try.prog 7 #[.string W, .string V, .int .i64 kind, .int .i64 span, .int .i64 back] w fun e w' => e = .returned (.bool true) ∧ w.grownBy w' none := by
  obtain ⟨k, hk, hkr⟩ : ∃ k : Nat, k < 4 ∧ (bits .and .i64 kind 9223372036854775807).tmod 4 = (k : Int) := low_rem kind 4 (by decide)
  obtain ⟨n, hn, hnr⟩ : ∃ k : Nat, k < 1000 ∧ (bits .and .i64 span 9223372036854775807).tmod 1000 = (k : Int) := low_rem span 1000 (by decide)
  obtain ⟨b, hb, hbr⟩ : ∃ k : Nat, k < 3 ∧ (bits .and .i64 back 9223372036854775807).tmod 3 = (k : Int) := low_rem back 3 (by decide)
  have HLK := hid (r_low kind)
  have HLN := hid (r_low span)
  have HLB := hid (r_low back)
  have HAW := hid f_awake
  have HKP := hid (r_kept W)
  generalize bits .and .i64 kind 9223372036854775807 = XK at HLK hkr
  generalize bits .and .i64 span 9223372036854775807 = XN at HLN hnr
  generalize bits .and .i64 back 9223372036854775807 = XB at HLB hbr
  go_enter Try.func7, Try.ntmps7
  go_wp2_with fail
  go_loopw [11] (fun t wr => ∃ i : Nat, i ≤ W.size ∧ t = .int .i64 (i : Int) ∧ Hid (w.grownBy wr none) ∧ Hid (∀ c ∈ (sInts W).take i, 97 ≤ c ∧ c ≤ 122)) (fun t _ => W.size - (intOf t).toNat)
  case atStart => exact ⟨0, Nat.zero_le _, rfl, World.grownBy.refl _ _, fun c hc => by simp at hc⟩
  case round =>
    obtain ⟨i, hi, rfl, HG, HJ⟩ := hrel
    by_cases hlt : i < W.size
    · have hlti : (i : Int) < (W.size : Int) := by omega
      by_cases q0 : ((W[i].toNat : Nat) : Int) < 97
      · go_wp2_with fail
        refine (HAW.out _).mono ?_
        rintro e w9 ⟨rfl, g9⟩
        have G9 := hid g9
        clear g9
        go_wp2_with fail
        go_ret
        exact ⟨rfl, HG.out.trans G9.out⟩
      · have q0' : ¬ ((W[i].toNat : Nat) : Int) < 97 := by omega
        by_cases q1 : (122 : Int) < ((W[i].toNat : Nat) : Int)
        · go_wp2_with fail
          refine (HAW.out _).mono ?_
          rintro e w9 ⟨rfl, g9⟩
          have G9 := hid g9
          clear g9
          go_wp2_with fail
          go_ret
          exact ⟨rfl, HG.out.trans G9.out⟩
        · have q1' : ¬ (122 : Int) < ((W[i].toNat : Nat) : Int) := by omega
          go_wp2_with fail
          go_roundw
          case rel => exact ⟨i + 1, by omega, by go_num, HG.out, take_next (P := fun c => 97 ≤ c ∧ c ≤ 122) hlt HJ.out (by show _ ∧ _; omega)⟩
          case measure => simp [intOf]; omega
    · have hlti : ¬ (i : Int) < (W.size : Int) := by omega
      have HWL := hid (take_whole (P := fun c => 97 ≤ c ∧ c ≤ 122) hlt HJ.out)
      clear HJ
      have HEM := hid (empty_W W)
      cases z0 : W.toList.isEmpty with
      | true =>
        go_wp2_with fail
        refine (HAW.out _).mono ?_
        rintro e w9 ⟨rfl, g9⟩
        have G9 := hid g9
        clear g9
        go_wp2_with fail
        go_ret
        exact ⟨rfl, HG.out.trans G9.out⟩
      | false =>
        have HS0 : Hid (1 ≤ W.size) := by
          have h9 := HEM.out
          rw [z0] at h9
          have := of_decide_eq_false h9.symm
          show _ ≤ _
          omega
        by_cases z1 : (60 : Int) < (W.size : Int)
        · go_wp2_with fail
          refine (HAW.out _).mono ?_
          rintro e w9 ⟨rfl, g9⟩
          have G9 := hid g9
          clear g9
          go_wp2_with fail
          go_ret
          exact ⟨rfl, HG.out.trans G9.out⟩
        · go_wp2_with fail
          refine (HKP.out _).mono ?_
          rintro e w1 ⟨rfl, g1⟩
          have G1 := hid (HG.out.trans g1)
          clear g1
          have HLW : Hid (Lows W) := ⟨HS0.out, by omega, HWL.out⟩
          have HKE := hid (lows_kept HLW.out)
          clear HWL HG
          cases hkw : keptW W with
          | true =>
            go_wp2_with fail
            refine (HAW.out _).mono ?_
            rintro e w9 ⟨rfl, g9⟩
            have G9 := hid g9
            clear g9
            go_wp2_with fail
            go_ret
            exact ⟨rfl, G1.out.trans G9.out⟩
          | false =>
            have HKF := hid (HKE.out hkw)
            clear HKE hkw
            by_cases z2 : (200 : Int) < (V.size : Int)
            · go_wp2_with fail
              refine (HAW.out _).mono ?_
              rintro e w9 ⟨rfl, g9⟩
              have G9 := hid g9
              clear g9
              go_wp2_with fail
              go_ret
              exact ⟨rfl, G1.out.trans G9.out⟩
            · go_wp2_with fail
              go_loopw [12] (fun t wr => ∃ i : Nat, i ≤ V.size ∧ t = .int .i64 (i : Int) ∧ Hid (w.grownBy wr none) ∧ Hid (∀ c ∈ (sInts V).take i, 32 ≤ c ∧ c ≠ 34 ∧ c ≠ 92)) (fun t _ => V.size - (intOf t).toNat)
              case atStart => exact ⟨0, Nat.zero_le _, rfl, G1.out, fun c hc => by simp at hc⟩
              case round =>
                obtain ⟨i, hi, rfl, HG, HJ⟩ := hrel
                by_cases hlt : i < V.size
                · have hlti : (i : Int) < (V.size : Int) := by omega
                  by_cases q0 : ((V[i].toNat : Nat) : Int) < 32
                  · go_wp2_with fail
                    refine (HAW.out _).mono ?_
                    rintro e w9 ⟨rfl, g9⟩
                    have G9 := hid g9
                    clear g9
                    go_wp2_with fail
                    go_ret
                    exact ⟨rfl, HG.out.trans G9.out⟩
                  · have q0' : ¬ ((V[i].toNat : Nat) : Int) < 32 := by omega
                    by_cases q1 : ((V[i].toNat : Nat) : Int) = 34
                    · have Q1 := hid q1
                      clear q1
                      have q1 := Q1.out
                      go_wp2_with fail
                      refine (HAW.out _).mono ?_
                      rintro e w9 ⟨rfl, g9⟩
                      have G9 := hid g9
                      clear g9
                      go_wp2_with fail
                      go_ret
                      exact ⟨rfl, HG.out.trans G9.out⟩
                    · have q1' : ¬ ((V[i].toNat : Nat) : Int) = 34 := by omega
                      have q1b : (((V[i].toNat : Nat) : Int) == 34) = false := by simpa using q1'
                      by_cases q2 : ((V[i].toNat : Nat) : Int) = 92
                      · have Q2 := hid q2
                        clear q2
                        have q2 := Q2.out
                        go_wp2_with fail
                        refine (HAW.out _).mono ?_
                        rintro e w9 ⟨rfl, g9⟩
                        have G9 := hid g9
                        clear g9
                        go_wp2_with fail
                        go_ret
                        exact ⟨rfl, HG.out.trans G9.out⟩
                      · have q2' : ¬ ((V[i].toNat : Nat) : Int) = 92 := by omega
                        have q2b : (((V[i].toNat : Nat) : Int) == 92) = false := by simpa using q2'
                        go_wp2_with fail
                        go_roundw
                        case rel => exact ⟨i + 1, by omega, by go_num, HG.out, take_next (P := fun c => 32 ≤ c ∧ c ≠ 34 ∧ c ≠ 92) hlt HJ.out (by show _ ∧ _ ∧ _; omega)⟩
                        case measure => simp [intOf]; omega
                · have hlti : ¬ (i : Int) < (V.size : Int) := by omega
                  have HWL := hid (take_whole (P := fun c => 32 ≤ c ∧ c ≠ 34 ∧ c ≠ 92) hlt HJ.out)
                  clear HJ
                  go_wp2_with fail
                  refine (HLK.out _).mono ?_
                  rintro e w2 ⟨rfl, rfl⟩
                  go_wp2_with fail
                  refine (HLN.out _).mono ?_
                  rintro e w3 ⟨rfl, rfl⟩
                  go_wp2_with fail
                  refine (HLB.out _).mono ?_
                  rintro e w4 ⟨rfl, rfl⟩
                  have HT : Hid (∀ w, Calls Try.prog 18 #[.int .i64 (1 + (n : Int))] w fun e w' => e = .returned (.string (strOfNums (digsF 10 (n + 1)))) ∧ w.grownBy w' none) := fun w => by
                    have := r_text (n + 1) w (by omega)
                    rwa [show ((n + 1 : Nat) : Int) = 1 + (n : Int) by omega] at this
                  have HTZ : (strOfNums (digsF 10 (n + 1))).size ≤ 10 := by rw [strSizeT]; exact (digs_ok 10 (n + 1) (by omega) (by decide)).2.2.2.2.2
                  have hkz : (kindS ((k : Int) + 1)).size ≤ 2 := kindS_le hk
                  have HWZ : W.size ≤ 60 := HLW.out.few
                  have HVZ : V.size ≤ 200 := by omega
                  have hk0 : 0 ≤ (k : Int) := by omega
                  have hk4 : (k : Int) < 4 := by omega
                  have hwk : IntKind.i64.wrap (k : Int) = (k : Int) := by rw [IntKind.wrap_i64]; omega
                  have hn0 : 0 ≤ (n : Int) := by omega
                  have hn1 : (n : Int) < 1000 := by omega
                  have hb0 : 0 ≤ (b : Int) := by omega
                  have hb1 : (b : Int) < 3 := by omega
                  generalize hD : strOfNums (digsF 10 (n + 1)) = D at HT HTZ
                  go_upto_region 14 with fail
                  have HD := hid hD
                  clear hD hkr hnr hbr HLK HLN HLB HKP
                  go_cut [16] from 91 to 107 (fun t16 wx => t16 = .string ((((((((W ++ ⟨#[123, 32]⟩) ++ W) ++ kindS ((k : Int) + 1)) ++ ⟨#[34]⟩) ++ V) ++ ⟨#[34, 32, 125, 91]⟩) ++ D) ++ ⟨#[115, 93]⟩) ∧ Hid (w.grownBy wx none))
                  case first =>
                    have GD : Hid (w.grownBy wr.drew none) := gb_drew HG.out
                    refine wp_region_held_drew (S := fun V => w.grownBy V none) (by kernel_rfl) GD.out (fun hHeld => ?_)
                    generalize wr.drew = wd at GD ⊢
                    refine wpAnyH_take (i := 0) (v := .string W) rfl (by kernel_rfl) (by kernel_rfl) (by kernel_rfl) (fun _ _ _ h => h) (Or.inl ⟨by rfl, fun w hSw => ?_⟩) (by assumption) ?_
                    · go_simp
                    (try simp (maxSteps := 10000000) only [Act.put, List.getElem_toArray, List.getElem_cons_succ, List.getElem_cons_zero]); (try simp (maxSteps := 10000000) only [List.setIfInBounds_toArray]); (try simp (maxSteps := 10000000) only [List.set_cons_succ]); (try simp (maxSteps := 10000000) only [List.set_cons_zero])
                    refine wpAnyH_take (i := 1) (v := .string (W ++ ⟨#[123, 32]⟩)) rfl (by kernel_rfl) (by kernel_rfl) (by kernel_rfl) (fun _ _ _ h => h) (Or.inl ⟨by rfl, fun w hSw => ?_⟩) (by assumption) ?_
                    · go_simp <;> omega
                    (try simp (maxSteps := 10000000) only [Act.put, List.getElem_toArray, List.getElem_cons_succ, List.getElem_cons_zero]); (try simp (maxSteps := 10000000) only [List.setIfInBounds_toArray]); (try simp (maxSteps := 10000000) only [List.set_cons_succ]); (try simp (maxSteps := 10000000) only [List.set_cons_zero])
                    refine wpAnyH_take (i := 2) (v := .string W) rfl (by kernel_rfl) (by kernel_rfl) (by kernel_rfl) (fun _ _ _ h => h) (Or.inl ⟨by rfl, fun w hSw => ?_⟩) (by assumption) ?_
                    · go_simp
                    (try simp (maxSteps := 10000000) only [Act.put, List.getElem_toArray, List.getElem_cons_succ, List.getElem_cons_zero]); (try simp (maxSteps := 10000000) only [List.setIfInBounds_toArray]); (try simp (maxSteps := 10000000) only [List.set_cons_succ]); (try simp (maxSteps := 10000000) only [List.set_cons_zero])
                    refine wpAnyH_take (i := 3) (v := .string ((W ++ ⟨#[123, 32]⟩) ++ W)) rfl (by kernel_rfl) (by kernel_rfl) (by kernel_rfl) (fun _ _ _ h => h) (Or.inl ⟨by rfl, fun w hSw => ?_⟩) (by assumption) ?_
                    · go_simp <;> omega
                    (try simp (maxSteps := 10000000) only [Act.put, List.getElem_toArray, List.getElem_cons_succ, List.getElem_cons_zero]); (try simp (maxSteps := 10000000) only [List.setIfInBounds_toArray]); (try simp (maxSteps := 10000000) only [List.set_cons_succ]); (try simp (maxSteps := 10000000) only [List.set_cons_zero])
                    refine wpAnyH_take (i := 5) (v := .int .i64 (k : Int)) rfl (by kernel_rfl) (by kernel_rfl) (by kernel_rfl) (fun _ _ _ h => h) (Or.inl ⟨by rfl, fun w hSw => ?_⟩) (by assumption) ?_
                    · go_simp
                    (try simp (maxSteps := 10000000) only [Act.put, List.getElem_toArray, List.getElem_cons_succ, List.getElem_cons_zero]); (try simp (maxSteps := 10000000) only [List.setIfInBounds_toArray]); (try simp (maxSteps := 10000000) only [List.set_cons_succ]); (try simp (maxSteps := 10000000) only [List.set_cons_zero])
                    refine wpAnyH_take (i := 10) (v := .string V) rfl (by kernel_rfl) (by kernel_rfl) (by kernel_rfl) (fun _ _ _ h => h) (Or.inl ⟨by rfl, fun w hSw => ?_⟩) (by assumption) ?_
                    · go_simp
                    (try simp (maxSteps := 10000000) only [Act.put, List.getElem_toArray, List.getElem_cons_succ, List.getElem_cons_zero]); (try simp (maxSteps := 10000000) only [List.setIfInBounds_toArray]); (try simp (maxSteps := 10000000) only [List.set_cons_succ]); (try simp (maxSteps := 10000000) only [List.set_cons_zero])
                    refine wpAnyH_take (i := 13) (v := .int .i64 (1 + (n : Int))) rfl (by kernel_rfl) (by kernel_rfl) (by kernel_rfl) (fun _ _ _ h => h) (Or.inl ⟨by rfl, fun w hSw => ?_⟩) (by assumption) ?_
                    · go_simp
                    (try simp (maxSteps := 10000000) only [Act.put, List.getElem_toArray, List.getElem_cons_succ, List.getElem_cons_zero]); (try simp (maxSteps := 10000000) only [List.setIfInBounds_toArray]); (try simp (maxSteps := 10000000) only [List.set_cons_succ]); (try simp (maxSteps := 10000000) only [List.set_cons_zero])
                    refine wpAnyH_ready (rs := [4, 14]) (by kernel_rfl) (by simp) (AllReadyH.cons (i := 4) rfl (fun K9 hK => ?_) (AllReadyH.cons (i := 14) rfl (fun K9 hK => ?_) AllReadyH.nil))
                    · go_simp
                      have HA1 := hid (World.grownBy_alloc wd (.cells #[.string ⟨#[61]⟩, .string ⟨#[33, 61]⟩, .string ⟨#[61, 126]⟩, .string ⟨#[33, 126]⟩] 9) none)
                      have kr1 := kinds_rd wd hk
                      generalize (wd.alloc (.cells #[.string ⟨#[61]⟩, .string ⟨#[33, 61]⟩, .string ⟨#[61, 126]⟩, .string ⟨#[33, 126]⟩] 9)) = wa1 at HA1 kr1 ⊢
                      have GA1 := hid (GD.out.trans HA1.out)
                      refine hK.out _ _ GA1.out (fun hHeld => ?_)
                      clear hK K9 hHeld
                      (try simp (maxSteps := 10000000) only [Act.put, List.getElem_toArray, List.getElem_cons_succ, List.getElem_cons_zero]); (try simp (maxSteps := 10000000) only [List.setIfInBounds_toArray]); (try simp (maxSteps := 10000000) only [List.set_cons_succ]); (try simp (maxSteps := 10000000) only [List.set_cons_zero])
                      refine wpAnyH_take (i := 6) (v := .pointer (some ⟨wd.heap.size, k, none⟩)) rfl (by kernel_rfl) (by kernel_rfl) (by kernel_rfl) (fun _ _ _ h => h) (Or.inl ⟨by rfl, fun w hSw => ?_⟩) (by assumption) ?_
                      · go_simp
                      (try simp (maxSteps := 10000000) only [Act.put, List.getElem_toArray, List.getElem_cons_succ, List.getElem_cons_zero]); (try simp (maxSteps := 10000000) only [List.setIfInBounds_toArray]); (try simp (maxSteps := 10000000) only [List.set_cons_succ]); (try simp (maxSteps := 10000000) only [List.set_cons_zero])
                      refine wpAnyH_ready (rs := [7, 14]) (by kernel_rfl) (by simp) (AllReadyH.cons (i := 7) rfl (fun K9 hK => ?_) (AllReadyH.cons (i := 14) rfl (fun K9 hK => ?_) AllReadyH.nil))
                      · go_simp
                        refine hK.out _ _ GA1.out (fun hHeld => ?_)
                        clear hK K9 hHeld
                        (try simp (maxSteps := 10000000) only [Act.put, List.getElem_toArray, List.getElem_cons_succ, List.getElem_cons_zero]); (try simp (maxSteps := 10000000) only [List.setIfInBounds_toArray]); (try simp (maxSteps := 10000000) only [List.set_cons_succ]); (try simp (maxSteps := 10000000) only [List.set_cons_zero])
                        refine wpAnyH_take (i := 8) (v := .string (((W ++ ⟨#[123, 32]⟩) ++ W) ++ kindS ((k : Int) + 1))) rfl (by kernel_rfl) (by kernel_rfl) (by kernel_rfl) (fun _ _ _ h => h) (Or.inl ⟨by rfl, fun w hSw => ?_⟩) (by assumption) ?_
                        · go_simp <;> omega
                        (try simp (maxSteps := 10000000) only [Act.put, List.getElem_toArray, List.getElem_cons_succ, List.getElem_cons_zero]); (try simp (maxSteps := 10000000) only [List.setIfInBounds_toArray]); (try simp (maxSteps := 10000000) only [List.set_cons_succ]); (try simp (maxSteps := 10000000) only [List.set_cons_zero])
                        refine wpAnyH_take (i := 9) (v := .string ((((W ++ ⟨#[123, 32]⟩) ++ W) ++ kindS ((k : Int) + 1)) ++ ⟨#[34]⟩)) rfl (by kernel_rfl) (by kernel_rfl) (by kernel_rfl) (fun _ _ _ h => h) (Or.inl ⟨by rfl, fun w hSw => ?_⟩) (by assumption) ?_
                        · go_simp <;> omega
                        (try simp (maxSteps := 10000000) only [Act.put, List.getElem_toArray, List.getElem_cons_succ, List.getElem_cons_zero]); (try simp (maxSteps := 10000000) only [List.setIfInBounds_toArray]); (try simp (maxSteps := 10000000) only [List.set_cons_succ]); (try simp (maxSteps := 10000000) only [List.set_cons_zero])
                        refine wpAnyH_take (i := 11) (v := .string (((((W ++ ⟨#[123, 32]⟩) ++ W) ++ kindS ((k : Int) + 1)) ++ ⟨#[34]⟩) ++ V)) rfl (by kernel_rfl) (by kernel_rfl) (by kernel_rfl) (fun _ _ _ h => h) (Or.inl ⟨by rfl, fun w hSw => ?_⟩) (by assumption) ?_
                        · go_simp <;> omega
                        (try simp (maxSteps := 10000000) only [Act.put, List.getElem_toArray, List.getElem_cons_succ, List.getElem_cons_zero]); (try simp (maxSteps := 10000000) only [List.setIfInBounds_toArray]); (try simp (maxSteps := 10000000) only [List.set_cons_succ]); (try simp (maxSteps := 10000000) only [List.set_cons_zero])
                        refine wpAnyH_take (i := 12) (v := .string ((((((W ++ ⟨#[123, 32]⟩) ++ W) ++ kindS ((k : Int) + 1)) ++ ⟨#[34]⟩) ++ V) ++ ⟨#[34, 32, 125, 91]⟩)) rfl (by kernel_rfl) (by kernel_rfl) (by kernel_rfl) (fun _ _ _ h => h) (Or.inl ⟨by rfl, fun w hSw => ?_⟩) (by assumption) ?_
                        · go_simp <;> omega
                        (try simp (maxSteps := 10000000) only [Act.put, List.getElem_toArray, List.getElem_cons_succ, List.getElem_cons_zero]); (try simp (maxSteps := 10000000) only [List.setIfInBounds_toArray]); (try simp (maxSteps := 10000000) only [List.set_cons_succ]); (try simp (maxSteps := 10000000) only [List.set_cons_zero])
                        refine wpAnyH_ready (rs := [14]) (by kernel_rfl) (by simp) (AllReadyH.cons (i := 14) rfl (fun K9 hK => ?_) AllReadyH.nil)
                        go_simp
                        refine (HT.out _).mono ?_
                        rintro e wt2 ⟨rfl, gt2⟩
                        have GT2 := hid gt2
                        have GA2 := hid (GA1.out.trans GT2.out)
                        clear gt2
                        have kr2 := GT2.out.cell kr1 (by simp)
                        clear kr1
                        refine hK.out _ _ GA2.out (fun hHeld => ?_)
                        clear hK K9 hHeld
                        (try simp (maxSteps := 10000000) only [Act.put, List.getElem_toArray, List.getElem_cons_succ, List.getElem_cons_zero]); (try simp (maxSteps := 10000000) only [List.setIfInBounds_toArray]); (try simp (maxSteps := 10000000) only [List.set_cons_succ]); (try simp (maxSteps := 10000000) only [List.set_cons_zero])
                        refine wpAnyH_take (i := 15) (v := .string (((((((W ++ ⟨#[123, 32]⟩) ++ W) ++ kindS ((k : Int) + 1)) ++ ⟨#[34]⟩) ++ V) ++ ⟨#[34, 32, 125, 91]⟩) ++ D)) rfl (by kernel_rfl) (by kernel_rfl) (by kernel_rfl) (fun _ _ _ h => h) (Or.inl ⟨by rfl, fun w hSw => ?_⟩) (by assumption) ?_
                        · go_simp <;> omega
                        (try simp (maxSteps := 10000000) only [Act.put, List.getElem_toArray, List.getElem_cons_succ, List.getElem_cons_zero]); (try simp (maxSteps := 10000000) only [List.setIfInBounds_toArray]); (try simp (maxSteps := 10000000) only [List.set_cons_succ]); (try simp (maxSteps := 10000000) only [List.set_cons_zero])
                        refine wpAnyH_take (i := 16) (v := .string ((((((((W ++ ⟨#[123, 32]⟩) ++ W) ++ kindS ((k : Int) + 1)) ++ ⟨#[34]⟩) ++ V) ++ ⟨#[34, 32, 125, 91]⟩) ++ D) ++ ⟨#[115, 93]⟩)) rfl (by kernel_rfl) (by kernel_rfl) (by kernel_rfl) (fun _ _ _ h => h) (Or.inl ⟨by rfl, fun w hSw => ?_⟩) (by assumption) ?_
                        · go_simp <;> omega
                        (try simp (maxSteps := 10000000) only [Act.put, List.getElem_toArray, List.getElem_cons_succ, List.getElem_cons_zero]); (try simp (maxSteps := 10000000) only [List.setIfInBounds_toArray]); (try simp (maxSteps := 10000000) only [List.set_cons_succ]); (try simp (maxSteps := 10000000) only [List.set_cons_zero])
                        refine wpAnyH_ready (rs := [17]) (by kernel_rfl) (by simp) (AllReadyH.cons (i := 17) rfl (fun K9 hK => ?_) AllReadyH.nil)
                        go_simp
                        refine hK.out _ _ GA2.out (fun hHeld => ?_)
                        clear hK K9 hHeld
                        (try simp (maxSteps := 10000000) only [Act.put, List.getElem_toArray, List.getElem_cons_succ, List.getElem_cons_zero]); (try simp (maxSteps := 10000000) only [List.setIfInBounds_toArray]); (try simp (maxSteps := 10000000) only [List.set_cons_succ]); (try simp (maxSteps := 10000000) only [List.set_cons_zero])
                        refine wpAnyH_done (by kernel_rfl) ?_ _
                        go_wp2_with fail
                        go_meet
                        exact ⟨rfl, GA2.out⟩
                      · go_simp
                        refine (HT.out _).mono ?_
                        rintro e wt3 ⟨rfl, gt3⟩
                        have GT3 := hid gt3
                        have GA3 := hid (GA1.out.trans GT3.out)
                        clear gt3
                        have kr3 := GT3.out.cell kr1 (by simp)
                        clear kr1
                        refine hK.out _ _ GA3.out (fun hHeld => ?_)
                        clear hK K9 hHeld
                        (try simp (maxSteps := 10000000) only [Act.put, List.getElem_toArray, List.getElem_cons_succ, List.getElem_cons_zero]); (try simp (maxSteps := 10000000) only [List.setIfInBounds_toArray]); (try simp (maxSteps := 10000000) only [List.set_cons_succ]); (try simp (maxSteps := 10000000) only [List.set_cons_zero])
                        refine wpAnyH_ready (rs := [7]) (by kernel_rfl) (by simp) (AllReadyH.cons (i := 7) rfl (fun K9 hK => ?_) AllReadyH.nil)
                        go_simp
                        refine hK.out _ _ GA3.out (fun hHeld => ?_)
                        clear hK K9 hHeld
                        (try simp (maxSteps := 10000000) only [Act.put, List.getElem_toArray, List.getElem_cons_succ, List.getElem_cons_zero]); (try simp (maxSteps := 10000000) only [List.setIfInBounds_toArray]); (try simp (maxSteps := 10000000) only [List.set_cons_succ]); (try simp (maxSteps := 10000000) only [List.set_cons_zero])
                        refine wpAnyH_take (i := 8) (v := .string (((W ++ ⟨#[123, 32]⟩) ++ W) ++ kindS ((k : Int) + 1))) rfl (by kernel_rfl) (by kernel_rfl) (by kernel_rfl) (fun _ _ _ h => h) (Or.inl ⟨by rfl, fun w hSw => ?_⟩) (by assumption) ?_
                        · go_simp <;> omega
                        (try simp (maxSteps := 10000000) only [Act.put, List.getElem_toArray, List.getElem_cons_succ, List.getElem_cons_zero]); (try simp (maxSteps := 10000000) only [List.setIfInBounds_toArray]); (try simp (maxSteps := 10000000) only [List.set_cons_succ]); (try simp (maxSteps := 10000000) only [List.set_cons_zero])
                        refine wpAnyH_take (i := 9) (v := .string ((((W ++ ⟨#[123, 32]⟩) ++ W) ++ kindS ((k : Int) + 1)) ++ ⟨#[34]⟩)) rfl (by kernel_rfl) (by kernel_rfl) (by kernel_rfl) (fun _ _ _ h => h) (Or.inl ⟨by rfl, fun w hSw => ?_⟩) (by assumption) ?_
                        · go_simp <;> omega
                        (try simp (maxSteps := 10000000) only [Act.put, List.getElem_toArray, List.getElem_cons_succ, List.getElem_cons_zero]); (try simp (maxSteps := 10000000) only [List.setIfInBounds_toArray]); (try simp (maxSteps := 10000000) only [List.set_cons_succ]); (try simp (maxSteps := 10000000) only [List.set_cons_zero])
                        refine wpAnyH_take (i := 11) (v := .string (((((W ++ ⟨#[123, 32]⟩) ++ W) ++ kindS ((k : Int) + 1)) ++ ⟨#[34]⟩) ++ V)) rfl (by kernel_rfl) (by kernel_rfl) (by kernel_rfl) (fun _ _ _ h => h) (Or.inl ⟨by rfl, fun w hSw => ?_⟩) (by assumption) ?_
                        · go_simp <;> omega
                        (try simp (maxSteps := 10000000) only [Act.put, List.getElem_toArray, List.getElem_cons_succ, List.getElem_cons_zero]); (try simp (maxSteps := 10000000) only [List.setIfInBounds_toArray]); (try simp (maxSteps := 10000000) only [List.set_cons_succ]); (try simp (maxSteps := 10000000) only [List.set_cons_zero])
                        refine wpAnyH_take (i := 12) (v := .string ((((((W ++ ⟨#[123, 32]⟩) ++ W) ++ kindS ((k : Int) + 1)) ++ ⟨#[34]⟩) ++ V) ++ ⟨#[34, 32, 125, 91]⟩)) rfl (by kernel_rfl) (by kernel_rfl) (by kernel_rfl) (fun _ _ _ h => h) (Or.inl ⟨by rfl, fun w hSw => ?_⟩) (by assumption) ?_
                        · go_simp <;> omega
                        (try simp (maxSteps := 10000000) only [Act.put, List.getElem_toArray, List.getElem_cons_succ, List.getElem_cons_zero]); (try simp (maxSteps := 10000000) only [List.setIfInBounds_toArray]); (try simp (maxSteps := 10000000) only [List.set_cons_succ]); (try simp (maxSteps := 10000000) only [List.set_cons_zero])
                        refine wpAnyH_take (i := 15) (v := .string (((((((W ++ ⟨#[123, 32]⟩) ++ W) ++ kindS ((k : Int) + 1)) ++ ⟨#[34]⟩) ++ V) ++ ⟨#[34, 32, 125, 91]⟩) ++ D)) rfl (by kernel_rfl) (by kernel_rfl) (by kernel_rfl) (fun _ _ _ h => h) (Or.inl ⟨by rfl, fun w hSw => ?_⟩) (by assumption) ?_
                        · go_simp <;> omega
                        (try simp (maxSteps := 10000000) only [Act.put, List.getElem_toArray, List.getElem_cons_succ, List.getElem_cons_zero]); (try simp (maxSteps := 10000000) only [List.setIfInBounds_toArray]); (try simp (maxSteps := 10000000) only [List.set_cons_succ]); (try simp (maxSteps := 10000000) only [List.set_cons_zero])
                        refine wpAnyH_take (i := 16) (v := .string ((((((((W ++ ⟨#[123, 32]⟩) ++ W) ++ kindS ((k : Int) + 1)) ++ ⟨#[34]⟩) ++ V) ++ ⟨#[34, 32, 125, 91]⟩) ++ D) ++ ⟨#[115, 93]⟩)) rfl (by kernel_rfl) (by kernel_rfl) (by kernel_rfl) (fun _ _ _ h => h) (Or.inl ⟨by rfl, fun w hSw => ?_⟩) (by assumption) ?_
                        · go_simp <;> omega
                        (try simp (maxSteps := 10000000) only [Act.put, List.getElem_toArray, List.getElem_cons_succ, List.getElem_cons_zero]); (try simp (maxSteps := 10000000) only [List.setIfInBounds_toArray]); (try simp (maxSteps := 10000000) only [List.set_cons_succ]); (try simp (maxSteps := 10000000) only [List.set_cons_zero])
                        refine wpAnyH_ready (rs := [17]) (by kernel_rfl) (by simp) (AllReadyH.cons (i := 17) rfl (fun K9 hK => ?_) AllReadyH.nil)
                        go_simp
                        refine hK.out _ _ GA3.out (fun hHeld => ?_)
                        clear hK K9 hHeld
                        (try simp (maxSteps := 10000000) only [Act.put, List.getElem_toArray, List.getElem_cons_succ, List.getElem_cons_zero]); (try simp (maxSteps := 10000000) only [List.setIfInBounds_toArray]); (try simp (maxSteps := 10000000) only [List.set_cons_succ]); (try simp (maxSteps := 10000000) only [List.set_cons_zero])
                        refine wpAnyH_done (by kernel_rfl) ?_ _
                        go_wp2_with fail
                        go_meet
                        exact ⟨rfl, GA3.out⟩
                    · go_simp
                      refine (HT.out _).mono ?_
                      rintro e wt4 ⟨rfl, gt4⟩
                      have GT4 := hid gt4
                      have GA4 := hid (GD.out.trans GT4.out)
                      clear gt4
                      refine hK.out _ _ GA4.out (fun hHeld => ?_)
                      clear hK K9 hHeld
                      (try simp (maxSteps := 10000000) only [Act.put, List.getElem_toArray, List.getElem_cons_succ, List.getElem_cons_zero]); (try simp (maxSteps := 10000000) only [List.setIfInBounds_toArray]); (try simp (maxSteps := 10000000) only [List.set_cons_succ]); (try simp (maxSteps := 10000000) only [List.set_cons_zero])
                      refine wpAnyH_ready (rs := [4]) (by kernel_rfl) (by simp) (AllReadyH.cons (i := 4) rfl (fun K9 hK => ?_) AllReadyH.nil)
                      go_simp
                      have HA5 := hid (World.grownBy_alloc wt4 (.cells #[.string ⟨#[61]⟩, .string ⟨#[33, 61]⟩, .string ⟨#[61, 126]⟩, .string ⟨#[33, 126]⟩] 9) none)
                      have kr5 := kinds_rd wt4 hk
                      generalize (wt4.alloc (.cells #[.string ⟨#[61]⟩, .string ⟨#[33, 61]⟩, .string ⟨#[61, 126]⟩, .string ⟨#[33, 126]⟩] 9)) = wa5 at HA5 kr5 ⊢
                      have GA5 := hid (GA4.out.trans HA5.out)
                      refine hK.out _ _ GA5.out (fun hHeld => ?_)
                      clear hK K9 hHeld
                      (try simp (maxSteps := 10000000) only [Act.put, List.getElem_toArray, List.getElem_cons_succ, List.getElem_cons_zero]); (try simp (maxSteps := 10000000) only [List.setIfInBounds_toArray]); (try simp (maxSteps := 10000000) only [List.set_cons_succ]); (try simp (maxSteps := 10000000) only [List.set_cons_zero])
                      refine wpAnyH_take (i := 6) (v := .pointer (some ⟨wt4.heap.size, k, none⟩)) rfl (by kernel_rfl) (by kernel_rfl) (by kernel_rfl) (fun _ _ _ h => h) (Or.inl ⟨by rfl, fun w hSw => ?_⟩) (by assumption) ?_
                      · go_simp
                      (try simp (maxSteps := 10000000) only [Act.put, List.getElem_toArray, List.getElem_cons_succ, List.getElem_cons_zero]); (try simp (maxSteps := 10000000) only [List.setIfInBounds_toArray]); (try simp (maxSteps := 10000000) only [List.set_cons_succ]); (try simp (maxSteps := 10000000) only [List.set_cons_zero])
                      refine wpAnyH_ready (rs := [7]) (by kernel_rfl) (by simp) (AllReadyH.cons (i := 7) rfl (fun K9 hK => ?_) AllReadyH.nil)
                      go_simp
                      refine hK.out _ _ GA5.out (fun hHeld => ?_)
                      clear hK K9 hHeld
                      (try simp (maxSteps := 10000000) only [Act.put, List.getElem_toArray, List.getElem_cons_succ, List.getElem_cons_zero]); (try simp (maxSteps := 10000000) only [List.setIfInBounds_toArray]); (try simp (maxSteps := 10000000) only [List.set_cons_succ]); (try simp (maxSteps := 10000000) only [List.set_cons_zero])
                      refine wpAnyH_take (i := 8) (v := .string (((W ++ ⟨#[123, 32]⟩) ++ W) ++ kindS ((k : Int) + 1))) rfl (by kernel_rfl) (by kernel_rfl) (by kernel_rfl) (fun _ _ _ h => h) (Or.inl ⟨by rfl, fun w hSw => ?_⟩) (by assumption) ?_
                      · go_simp <;> omega
                      (try simp (maxSteps := 10000000) only [Act.put, List.getElem_toArray, List.getElem_cons_succ, List.getElem_cons_zero]); (try simp (maxSteps := 10000000) only [List.setIfInBounds_toArray]); (try simp (maxSteps := 10000000) only [List.set_cons_succ]); (try simp (maxSteps := 10000000) only [List.set_cons_zero])
                      refine wpAnyH_take (i := 9) (v := .string ((((W ++ ⟨#[123, 32]⟩) ++ W) ++ kindS ((k : Int) + 1)) ++ ⟨#[34]⟩)) rfl (by kernel_rfl) (by kernel_rfl) (by kernel_rfl) (fun _ _ _ h => h) (Or.inl ⟨by rfl, fun w hSw => ?_⟩) (by assumption) ?_
                      · go_simp <;> omega
                      (try simp (maxSteps := 10000000) only [Act.put, List.getElem_toArray, List.getElem_cons_succ, List.getElem_cons_zero]); (try simp (maxSteps := 10000000) only [List.setIfInBounds_toArray]); (try simp (maxSteps := 10000000) only [List.set_cons_succ]); (try simp (maxSteps := 10000000) only [List.set_cons_zero])
                      refine wpAnyH_take (i := 11) (v := .string (((((W ++ ⟨#[123, 32]⟩) ++ W) ++ kindS ((k : Int) + 1)) ++ ⟨#[34]⟩) ++ V)) rfl (by kernel_rfl) (by kernel_rfl) (by kernel_rfl) (fun _ _ _ h => h) (Or.inl ⟨by rfl, fun w hSw => ?_⟩) (by assumption) ?_
                      · go_simp <;> omega
                      (try simp (maxSteps := 10000000) only [Act.put, List.getElem_toArray, List.getElem_cons_succ, List.getElem_cons_zero]); (try simp (maxSteps := 10000000) only [List.setIfInBounds_toArray]); (try simp (maxSteps := 10000000) only [List.set_cons_succ]); (try simp (maxSteps := 10000000) only [List.set_cons_zero])
                      refine wpAnyH_take (i := 12) (v := .string ((((((W ++ ⟨#[123, 32]⟩) ++ W) ++ kindS ((k : Int) + 1)) ++ ⟨#[34]⟩) ++ V) ++ ⟨#[34, 32, 125, 91]⟩)) rfl (by kernel_rfl) (by kernel_rfl) (by kernel_rfl) (fun _ _ _ h => h) (Or.inl ⟨by rfl, fun w hSw => ?_⟩) (by assumption) ?_
                      · go_simp <;> omega
                      (try simp (maxSteps := 10000000) only [Act.put, List.getElem_toArray, List.getElem_cons_succ, List.getElem_cons_zero]); (try simp (maxSteps := 10000000) only [List.setIfInBounds_toArray]); (try simp (maxSteps := 10000000) only [List.set_cons_succ]); (try simp (maxSteps := 10000000) only [List.set_cons_zero])
                      refine wpAnyH_take (i := 15) (v := .string (((((((W ++ ⟨#[123, 32]⟩) ++ W) ++ kindS ((k : Int) + 1)) ++ ⟨#[34]⟩) ++ V) ++ ⟨#[34, 32, 125, 91]⟩) ++ D)) rfl (by kernel_rfl) (by kernel_rfl) (by kernel_rfl) (fun _ _ _ h => h) (Or.inl ⟨by rfl, fun w hSw => ?_⟩) (by assumption) ?_
                      · go_simp <;> omega
                      (try simp (maxSteps := 10000000) only [Act.put, List.getElem_toArray, List.getElem_cons_succ, List.getElem_cons_zero]); (try simp (maxSteps := 10000000) only [List.setIfInBounds_toArray]); (try simp (maxSteps := 10000000) only [List.set_cons_succ]); (try simp (maxSteps := 10000000) only [List.set_cons_zero])
                      refine wpAnyH_take (i := 16) (v := .string ((((((((W ++ ⟨#[123, 32]⟩) ++ W) ++ kindS ((k : Int) + 1)) ++ ⟨#[34]⟩) ++ V) ++ ⟨#[34, 32, 125, 91]⟩) ++ D) ++ ⟨#[115, 93]⟩)) rfl (by kernel_rfl) (by kernel_rfl) (by kernel_rfl) (fun _ _ _ h => h) (Or.inl ⟨by rfl, fun w hSw => ?_⟩) (by assumption) ?_
                      · go_simp <;> omega
                      (try simp (maxSteps := 10000000) only [Act.put, List.getElem_toArray, List.getElem_cons_succ, List.getElem_cons_zero]); (try simp (maxSteps := 10000000) only [List.setIfInBounds_toArray]); (try simp (maxSteps := 10000000) only [List.set_cons_succ]); (try simp (maxSteps := 10000000) only [List.set_cons_zero])
                      refine wpAnyH_ready (rs := [17]) (by kernel_rfl) (by simp) (AllReadyH.cons (i := 17) rfl (fun K9 hK => ?_) AllReadyH.nil)
                      go_simp
                      refine hK.out _ _ GA5.out (fun hHeld => ?_)
                      clear hK K9 hHeld
                      (try simp (maxSteps := 10000000) only [Act.put, List.getElem_toArray, List.getElem_cons_succ, List.getElem_cons_zero]); (try simp (maxSteps := 10000000) only [List.setIfInBounds_toArray]); (try simp (maxSteps := 10000000) only [List.set_cons_succ]); (try simp (maxSteps := 10000000) only [List.set_cons_zero])
                      refine wpAnyH_done (by kernel_rfl) ?_ _
                      go_wp2_with fail
                      go_meet
                      exact ⟨rfl, GA5.out⟩
                  case rest =>
                  have hcut0 := hcut
                  clear hcut
                  obtain ⟨rfl, HG14⟩ := hcut0
                  clear HG
                  have HSZ : ((((((((W ++ ⟨#[123, 32]⟩) ++ W) ++ kindS ((k : Int) + 1)) ++ ⟨#[34]⟩) ++ V) ++ ⟨#[34, 32, 125, 91]⟩) ++ D) ++ ⟨#[115, 93]⟩).size ≤ 400 := by
                    simp only [ByteArray.size_append]
                    show W.size + 2 + W.size + _ + 1 + V.size + 4 + D.size + 2 ≤ 400
                    omega
                  have HSE := hid (sel_str W V (kindS ((k : Int) + 1)) D)
                  generalize ((((((((W ++ ⟨#[123, 32]⟩) ++ W) ++ kindS ((k : Int) + 1)) ++ ⟨#[34]⟩) ++ V) ++ ⟨#[34, 32, 125, 91]⟩) ++ D) ++ ⟨#[115, 93]⟩) = S at HSZ HSE ⊢
                  go_upto_region 16 with fail
                  obtain ⟨M, hM⟩ : ∃ M, wc.heap.size = M := ⟨_, rfl⟩
                  have HML : SRd matE (wc.alloc (.cells #[.int .i64 1, .string ⟨#[95, 95, 110, 97, 109, 101, 95, 95]⟩, .string W, .int .i64 ((k : Int) + 1), .string W, .string V] 44)) (some ⟨wc.heap.size, 0, none⟩) [(1, nameS, W), ((k : Int) + 1, W, V)] := by
                    have := lit_rd matE wc 44 [(1, nameS, W), ((k : Int) + 1, W, V)]
                    exact this
                  rw [hM] at HML ⊢
                  have hM1 : (wc.alloc (.cells #[.int .i64 1, .string ⟨#[95, 95, 110, 97, 109, 101, 95, 95]⟩, .string W, .int .i64 ((k : Int) + 1), .string W, .string V] 44)).heap.size = M + 1 := by rw [size_alloc, hM]
                  have hA := heap_alloc_new (wc.alloc (.cells #[.int .i64 1, .string ⟨#[95, 95, 110, 97, 109, 101, 95, 95]⟩, .string W, .int .i64 ((k : Int) + 1), .string W, .string V] 44)) (.cells #[.int .i64 3, .int .i64 0, .string ⟨#[]⟩, .slice (some ⟨M, 0, none⟩) 2 2, .int .i64 (1 + (n : Int)), .int .i64 0, .int .i64 0, .slice none 0 0, .bool false, .int .i64 0] 34)
                  rw [hM1] at hA
                  have hG2 := World.grownBy_alloc (wc.alloc (.cells #[.int .i64 1, .string ⟨#[95, 95, 110, 97, 109, 101, 95, 95]⟩, .string W, .int .i64 ((k : Int) + 1), .string W, .string V] 44)) (.cells #[.int .i64 3, .int .i64 0, .string ⟨#[]⟩, .slice (some ⟨M, 0, none⟩) 2 2, .int .i64 (1 + (n : Int)), .int .i64 0, .int .i64 0, .slice none 0 0, .bool false, .int .i64 0] 34) none
                  have HB0 := hid hA
                  have HM0 : Hid (SRd matE ((wc.alloc (.cells #[.int .i64 1, .string ⟨#[95, 95, 110, 97, 109, 101, 95, 95]⟩, .string W, .int .i64 ((k : Int) + 1), .string W, .string V] 44)).alloc (.cells #[.int .i64 3, .int .i64 0, .string ⟨#[]⟩, .slice (some ⟨M, 0, none⟩) 2 2, .int .i64 (1 + (n : Int)), .int .i64 0, .int .i64 0, .slice none 0 0, .bool false, .int .i64 0] 34)) (some ⟨M, 0, none⟩) [(1, nameS, W), ((k : Int) + 1, W, V)]) := HML.grown hG2 (by simp)
                  have HG0 := hid (HG14.out.trans ((World.grownBy_alloc wc (.cells #[.int .i64 1, .string ⟨#[95, 95, 110, 97, 109, 101, 95, 95]⟩, .string W, .int .i64 ((k : Int) + 1), .string W, .string V] 44) none).trans hG2))
                  have HMW : Hid (w.heap.size ≤ M) := by show _ ≤ _; rw [← hM]; exact HG14.out.size
                  generalize ((wc.alloc (.cells #[.int .i64 1, .string ⟨#[95, 95, 110, 97, 109, 101, 95, 95]⟩, .string W, .int .i64 ((k : Int) + 1), .string W, .string V] 44)).alloc (.cells #[.int .i64 3, .int .i64 0, .string ⟨#[]⟩, .slice (some ⟨M, 0, none⟩) 2 2, .int .i64 (1 + (n : Int)), .int .i64 0, .int .i64 0, .slice none 0 0, .bool false, .int .i64 0] 34)) = wb at HB0 HM0 HG0 ⊢
                  clear HML hM1 hA hG2 HG14 hM
                  have HT2 := hid (fun w => r_text b w (by omega))
                  have HTZ2 : (strOfNums (digsF 10 b)).size ≤ 10 := by rw [strSizeT]; exact (digs_ok 10 b (by omega) (by decide)).2.2.2.2.2
                  have HD2 : Hid (sInts (strOfNums (digsF 10 b)) = digsF 10 b) := digs_str b (by omega)
                  have HD1 : Hid (sInts D = digsF 10 (n + 1)) := by show _ = _; rw [← HD.out]; exact digs_str (n + 1) (by omega)
                  generalize strOfNums (digsF 10 b) = D2 at HT2 HTZ2 HD2
                  obtain ⟨c0, c1, c2, c3, c4, c5, c6, c7, c8, c9⟩ := nx_cells HB0.out
                  go_upto_if 119 with fail
                  go_cut [16] from 119 to 128 (fun t16 wx => ∃ U : ByteArray, t16 = .string U ∧ Hid (sInts U = selL W V ((k : Int) + 1) (n + 1) b) ∧ U.size ≤ 500 ∧ Hid (w.grownBy wx none) ∧ Hid (wx.heap[M + 1]? = some (.cells #[.int .i64 3, .int .i64 0, .string ⟨#[]⟩, .slice (some ⟨M, 0, none⟩) 2 2, .int .i64 (1 + (n : Int)), .int .i64 ((b : Int) * 3600), .int .i64 0, .slice none 0 0, .bool false, .int .i64 0] 34 (0, 0))) ∧ Hid (SRd matE wx (some ⟨M, 0, none⟩) [(1, nameS, W), ((k : Int) + 1, W, V)]))
                  case first =>
                    by_cases hb9 : b = 0
                    · subst hb9
                      go_wp2_with fail
                      go_meet
                      refine ⟨S, rfl, ?_, by omega, HG0, HB0, HM0⟩
                      show _ = _
                      rw [HSE.out, HD1.out]
                      unfold selL offL
                      rw [if_pos rfl]
                      simp only [List.append_assoc, List.append_nil]
                    · have hbp : (0 : Int) < (b : Int) := by omega
                      have HB9 := hid hb9
                      clear hb9 c0 c1 c2 c3 c4 c5 c6 c7 c8 c9
                      go_wp2_with fail
                      refine (HT2.out _).mono ?_
                      rintro e wt ⟨rfl, gt⟩
                      have HBT := hid ((gt.block (M + 1) (hin_size HB0.out) (by simp)).trans HB0.out)
                      have HMT := hid (HM0.out.grown gt (by simp))
                      have HGT := hid (HG0.out.trans gt)
                      clear gt
                      obtain ⟨c0, c1, c2, c3, c4, c5, c6, c7, c8, c9⟩ := nx_cells HBT.out
                      have kf : ∀ j, wt.frozen? ⟨M + 1, j, none⟩ = false := free_row HBT.out
                      have HSX : Hid ((wt.setCell ⟨M + 1, 5, none⟩ (.int .i64 ((b : Int) * 3600))).heap[M + 1]? = some (.cells #[.int .i64 3, .int .i64 0, .string ⟨#[]⟩, .slice (some ⟨M, 0, none⟩) 2 2, .int .i64 (1 + (n : Int)), .int .i64 ((b : Int) * 3600), .int .i64 0, .slice none 0 0, .bool false, .int .i64 0] 34 (0, 0))) := box_set5 HBT.out _
                      have HGX : Hid (w.grownBy (wt.setCell ⟨M + 1, 5, none⟩ (.int .i64 ((b : Int) * 3600))) none) := gb_trans HGT.out (gb_set (u := .int .i64 ((b : Int) * 3600)) rfl) (fun j hj => .inl (by cases hj; exact Nat.le_succ_of_le HMW.out))
                      have HRX : Hid (SRd matE (wt.setCell ⟨M + 1, 5, none⟩ (.int .i64 ((b : Int) * 3600))) (some ⟨M, 0, none⟩) [(1, nameS, W), ((k : Int) + 1, W, V)]) := HMT.out.grown (gb_set (u := .int .i64 ((b : Int) * 3600)) rfl) (fun x hx e => by cases hx; exact absurd (Option.some.inj e : M = M + 1) (by omega))
                      have hwb : IntKind.i64.wrap ((b : Int) * 3600) = (b : Int) * 3600 := by rw [IntKind.wrap_i64]; omega
                      go_wp2_with fail
                      go_meet
                      refine ⟨((S ++ ⟨#[32, 111, 102, 102, 115, 101, 116, 32]⟩) ++ D2) ++ ⟨#[104]⟩, rfl, ?_, ?_, HGX, HSX, HRX⟩
                      · show _ = _
                        have h1 : sInts ⟨#[32, 111, 102, 102, 115, 101, 116, 32]⟩ = [32, 111, 102, 102, 115, 101, 116, 32] := rfl
                        have h2 : sInts ⟨#[104]⟩ = [104] := rfl
                        simp only [sInts_cat, h1, h2]
                        rw [HSE.out, HD1.out, HD2.out]
                        unfold selL offL
                        rw [if_neg HB9.out]
                        simp
                      · simp only [ByteArray.size_append]
                        show S.size + 8 + D2.size + 1 ≤ 500
                        omega
                  case rest =>
                  have hcut1 := hcut
                  clear hcut
                  obtain ⟨U, rfl, HU, hUz, HG3, HB3, HM3⟩ := hcut1
                  clear HB0 HM0 HG0 c0 c1 c2 c3 c4 c5 c6 c7 c8 c9 HT2 HTZ2 HD2 HD1 HSE HSZ
                  have HPU := hid (parse_rd2 (n := 1) (parse_sel (k := (k : Int) + 1) (w := n + 1) (b := b) HLW.out HWL.out HVZ HKF.out (by omega) (by omega) (by omega) (by omega) (by omega) HU.out (by omega)) rfl)
                  have HP1 := hid (parse_bad (parse_one (u := W ++ ⟨#[123, 49, 125]⟩) HLW.out HKF.out (by rw [sInts_cat]; rfl) (by rw [ByteArray.size_append]; show W.size + 3 ≤ 4096; omega)))
                  go_wp2_with fail
                  refine (HPU.out _).mono ?_
                  rintro e w6 ⟨za, zc, QZ, rfl, HZ, EZ, g6⟩
                  have G6 := hid g6
                  have HZ6 := hid HZ
                  have EZ6 := hid EZ
                  clear g6 HZ EZ
                  go_wp2_with fail
                  refine (HP1.out _).mono ?_
                  rintro e w7 ⟨rfl, g7⟩
                  have G67 := hid (G6.out.trans g7)
                  have HZ7 := hid (HZ6.out.grown g7)
                  clear g7
                  have HB7 := hid ((G67.out.block (M + 1) (hin_size HB3.out) (by simp)).trans HB3.out)
                  have HM7 := hid (HM3.out.grown G67.out (by simp))
                  have HG7 := hid (HG3.out.trans G67.out)
                  obtain ⟨c0, c1, c2, c3, c4, c5, c6, c7, c8, c9⟩ := nx_cells HB7.out
                  have HRW : Hid (NsRd (w7.alloc (.cells #[.int .i64 3, .int .i64 0, .string ⟨#[]⟩, .slice (some ⟨M, 0, none⟩) 2 2, .int .i64 (1 + (n : Int)), .int .i64 ((b : Int) * 3600), .int .i64 0, .slice none 0 0, .bool false, .int .i64 0] 34)) (some ⟨w7.heap.size, 0, none⟩) [((⟨3, 0, ⟨#[]⟩, [(1, nameS, W), ((k : Int) + 1, W, V)], 1 + (n : Int), (b : Int) * 3600, 0, [], false, 0⟩ : Nd), (some ⟨M, 0, none⟩, 2, 2), (none, 0, 0))]) := by
                    have h1 := lit_rd ndE w7 34 [((⟨3, 0, ⟨#[]⟩, [(1, nameS, W), ((k : Int) + 1, W, V)], 1 + (n : Int), (b : Int) * 3600, 0, [], false, 0⟩ : Nd), (some ⟨M, 0, none⟩, 2, 2), (none, 0, 0))]
                    have h2 := World.grownBy_alloc w7 (.cells #[.int .i64 3, .int .i64 0, .string ⟨#[]⟩, .slice (some ⟨M, 0, none⟩) 2 2, .int .i64 (1 + (n : Int)), .int .i64 ((b : Int) * 3600), .int .i64 0, .slice none 0 0, .bool false, .int .i64 0] 34) none
                    refine ⟨h1, fun q hq => ?_⟩
                    rw [List.mem_singleton.1 hq]
                    exact ⟨HM7.out.grown h2 (by simp), rfl, .inl rfl, rfl, by show 2 ≤ _; omega, by show 0 ≤ _; omega⟩
                  have HSN : Hid (Calls Try.prog 13 #[.slice za 1 zc, .slice (some ⟨w7.heap.size, 0, none⟩) 1 1] (w7.alloc (.cells #[.int .i64 3, .int .i64 0, .string ⟨#[]⟩, .slice (some ⟨M, 0, none⟩) 2 2, .int .i64 (1 + (n : Int)), .int .i64 ((b : Int) * 3600), .int .i64 0, .slice none 0 0, .bool false, .int .i64 0] 34)) fun e w' => e = .returned (.bool true) ∧ (w7.alloc (.cells #[.int .i64 3, .int .i64 0, .string ⟨#[]⟩, .slice (some ⟨M, 0, none⟩) 2 2, .int .i64 (1 + (n : Int)), .int .i64 ((b : Int) * 3600), .int .i64 0, .slice none 0 0, .bool false, .int .i64 0] 34)).grownBy w' none) := by
                    have hz1 : QZ.length = 1 := by
                      have := congrArg List.length EZ6.out
                      simpa using this
                    have := f_sameN za (some ⟨w7.heap.size, 0, none⟩) zc 1 QZ _ _ (HZ7.out.grown (World.grownBy_alloc w7 _ none)) HRW.out (by rw [EZ6.out]; show [_] = [_]; congr 2; omega) (by omega)
                    rw [hz1] at this
                    exact this
                  go_wp2_with fail
                  refine HSN.out.mono ?_
                  rintro e w8 ⟨rfl, g8⟩
                  have G8 := hid (HG7.out.trans ((World.grownBy_alloc w7 _ none).trans g8))
                  clear g8
                  go_wp2_with fail
                  refine (HAW.out _).mono ?_
                  rintro e w9 ⟨rfl, g9⟩
                  have G9 := hid g9
                  clear g9
                  go_wp2_with fail
                  go_ret
                  exact ⟨rfl, G8.out.trans G9.out⟩
end Go.Proofs.Ytnimdngiejcljaa
