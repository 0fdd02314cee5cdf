/- The document's head: Add. -/
import Derived.Test.YtpabbmiibehfjaaGreatDoorKd
import Derived.Deep.CutRange
namespace Go.Proofs.YtpabbmiibehfjaaGreatDoor
open Go.RowKit Go.Maps
set_option linter.unusedVariables false
set_option maxRecDepth 20000

def RAddOut (w : World) (base rb lim : Nat) (S : List Ser) (R : Nat → Prop) (ls : List Lab) (T V : Int) (e : Ending) (w' : World) : Prop :=
  e = .returned (.int .i64 (fateR lim S ls T V)) ∧ ∃ R', RefAt w' base rb lim (addR lim S ls T V) R' ∧ Step w w' R R'
theorem size49 (w : World) : (Go.sizeOf 49).run Tryz.prog w = .ok 2 w := by kernel_rfl
theorem cutA_nil {a : Option Addr} {c k sz : Nat} (h : a = none → c = 0) (hk : cutA a c k sz = none) : c - k = 0 := by
  unfold cutA at hk
  cases a with
  | none => rw [h rfl]; omega
  | some x => split at hk <;> simp_all <;> omega
theorem cutA_blk {a : Option Addr} {c k sz : Nat} {x : Addr} (hk : cutA a c k sz = some x) : ∃ y, a = some y ∧ y.block = x.block := by
  unfold cutA at hk
  cases a with
  | none => split at hk <;> simp at hk
  | some y =>
    refine ⟨y, rfl, ?_⟩
    split at hk
    · simp at hk
      rw [← hk]
    · simp at hk
      rw [← hk]
      unfold Addr.add
      split <;> rfl
set_option maxHeartbeats 16000000 in
theorem r_add (base rb lim : Nat) (S : List Ser) (R : Nat → Prop) (la : Option Addr) (ls : List Lab) (L lc : Nat) (T V : Int) (w : World) (h : RefAt w base rb lim S R) (hf : Fits S) (hl : S.length ≤ lim) (hP : ∀ s ∈ S, s.2.length ≤ 8796093022205) (hr : SRd labE w la ls) (hL : ls.length = L) (hLz : L ≤ 4398046511000) (hnil : la = none → lc = 0) :
    Calls Tryz.prog 25 #[.pointer (some ⟨rb, 0, none⟩), .agg #[.slice la L lc, .int .i64 T, .int .u64 V]] w (RAddOut w base rb lim S R ls T V) := by
  have HH : Hid (RefAt w base rb lim S R) := h
  have HF : Hid (Fits S) := hf
  have HPP : Hid (∀ s ∈ S, s.2.length ≤ 8796093022205) := hP
  have HBW : Hid (base ≤ w.heap.size) := by
    obtain ⟨_, _, _, h1⟩ := h
    have := h1.lt _ h1.rb
    show _ ≤ _
    omega
  have HRW : Hid (∀ k, R k → k < w.heap.size) := by
    obtain ⟨_, _, _, h1⟩ := h
    exact fun k hk => (h1.lt k hk).2
  have HGA : Hid (w.grownBy (w.alloc (.cells #[.slice la L lc, .int .i64 T, .int .u64 V] 31)) none) := World.grownBy_alloc w _ none
  obtain ⟨r0, r1, r2⟩ := row3 (w := w) (x := .slice la L lc) (y := .int .i64 T) (z := .int .u64 V) (t := 31)
  have HRL : Hid (SRd labE w la ls) := hr
  have HLL : Hid (ls.length = L) := hL
  have HNIL : Hid (la = none → lc = 0) := hnil
  have HC : Hid (∀ w1, w.grownBy w1 none → Calls Tryz.prog 26 #[.pointer (some ⟨rb, 0, none⟩), .agg #[.slice la L lc, .int .i64 T, .int .u64 V]] w1 fun e w' => e = .returned (.int .i64 (fateR lim S ls T V)) ∧ w1.grownBy w' none) := fun w1 hg => r_fate base rb lim S R la ls L lc T V w1 (h.grown hg) hf hl (hr.grown hg (by simp)) hL (by omega)
  have HD : Hid (∀ w1, w.grownBy w1 none → Calls Tryz.prog 51 #[.pointer (some ⟨rb, 0, none⟩), .slice la L lc] w1 fun e w' => e = .returned (.tuple #[.int .i64 (insAt (S.map (·.1)) ls), .bool (findR S ls).isSome]) ∧ w1.grownBy w' none) := fun w1 hg => r_find base rb lim S R la ls L lc w1 (h.grown hg) hf.1.sets hf.2.1 (fun s hs => by have := hf.lab s hs; omega) (hr.grown hg (by simp)) hL (by omega)
  obtain ⟨FT, eFT⟩ : ∃ FT, FT = fateR lim S ls T V := ⟨_, rfl⟩
  have HQ : Hid (∀ e w', (e = .returned (.int .i64 FT) ∧ ∃ R', RefAt w' base rb lim (addR lim S ls T V) R' ∧ Step w w' R R') → RAddOut w base rb lim S R ls T V e w') := by
    intro e w' h
    rw [eFT] at h
    exact h
  have EFT : Hid (FT = fateR lim S ls T V) := eFT
  rw [← eFT] at HC
  clear h hf hl hr hL hnil eFT hP
  go_enter Tryz.func25, Tryz.ntmps25
  go_wp2_with fail
  have HSB0 : Hid (w.heap.size ≤ w.heap.size) := Nat.le_refl _
  generalize w.alloc (.cells #[.slice la L lc, .int .i64 T, .int .u64 V] 31) = W at HGA r0 r1 r2 ⊢
  obtain ⟨sb, esb⟩ : ∃ sb, sb = w.heap.size := ⟨_, rfl⟩
  rw [← esb] at r0 r1 r2 ⊢
  refine (HC.out W HGA.out).mono ?_
  rintro e w1 ⟨rfl, hg1⟩
  have HG1 : Hid (w.grownBy w1 none) := HGA.out.trans hg1
  have d0 := hg1.cell r0 (by simp)
  have d1 := hg1.cell r1 (by simp)
  have d2 := hg1.cell r2 (by simp)
  clear hg1 HC r0 r1 r2 HGA esb HSB0
  by_cases hF1 : FT = 1
  · subst hF1
    have HGP : Hid (w1.grownBy (w1.alloc (.cells #[.int .i64 T, .int .u64 V] 51)) none) := World.grownBy_alloc w1 _ none
    have p0 : (w1.alloc (.cells #[.int .i64 T, .int .u64 V] 51)).cell? ⟨w1.heap.size, 0, none⟩ = some (.int .i64 T) := row2.1
    have p1 : (w1.alloc (.cells #[.int .i64 T, .int .u64 V] 51)).cell? ⟨w1.heap.size, 1, none⟩ = some (.int .u64 V) := row2.2
    have HTP : Hid (Typed (w1.alloc (.cells #[.int .i64 T, .int .u64 V] 51)) w1.heap.size 51) := ⟨_, heap_alloc_new w1 _⟩
    have HPB : Hid (∀ k, R k → k ≠ w1.heap.size) := fun k hk => by
      have := HRW.out k hk
      have := HG1.out.size
      omega
    have q0 := HGP.out.cell d0 (by simp)
    have HG2 : Hid (w.grownBy (w1.alloc (.cells #[.int .i64 T, .int .u64 V] 51)) none) := HG1.out.trans HGP.out
    go_wp2_with fail
    generalize w1.alloc (.cells #[.int .i64 T, .int .u64 V] 51) = w2 at HGP p0 p1 q0 HG2 HTP ⊢
    generalize w1.heap.size = pb at p0 p1 HTP HPB ⊢
    refine (HD.out w2 HG2.out).mono ?_
    rintro e w3 ⟨rfl, hg3⟩
    have HG3 : Hid (w.grownBy w3 none) := HG2.out.trans hg3
    have p0' := hg3.cell p0 (by simp)
    have p1' := hg3.cell p1 (by simp)
    have q0' := hg3.cell q0 (by simp)
    have HTP3 : Hid (Typed w3 pb 51) := by
      obtain ⟨cc, hc⟩ := HTP.out
      exact ⟨cc, (hg3.block pb (Array.getElem?_eq_some_iff.1 hc).1 (by simp)).trans hc⟩
    obtain ⟨a, c, raw, hI⟩ := HH.out.grown HG3.out
    obtain ⟨e0, e1⟩ := hI.cells
    have HI : Hid (RefIs w3 base rb lim S R a c raw) := hI
    have HRL3 : Hid (SRd labE w3 la ls) := HRL.out.grown HG3.out (by simp)
    have hcap := (sown_cap hI.ser.own).1
    have HAN : Hid (a = none → c = 0) := (sown_cap hI.ser.own).2
    have hIle := ins_le S ls
    have hsz := HF.out.2.1
    obtain ⟨M, eM⟩ : ∃ M, M = S.length := ⟨_, rfl⟩
    have EM : Hid (S.length = M) := eM.symm
    rw [← eM] at e1 hcap hIle hsz
    clear hg3 HD d0 d1 d2 hI p0 p1 q0 HG1 HG2 HGP HTP eM e0
    cases hfd : findR S ls with
    | none =>
      have HAD : Hid (addR lim S ls T V = S.take (insAt (S.map (·.1)) ls) ++ (ls, [(T, V)]) :: S.drop (insAt (S.map (·.1)) ls)) := addR_new EFT.out.symm hfd
      generalize insAt (S.map (·.1)) ls = I at HAD hIle ⊢
      simp only [Option.isSome_none]
      have HST0 : Hid (St9 w3 w3.drew L ls (T, V) none none none none) := St9.start
      clear hfd e1
      go_upto_region 9 with fail
      go_cut [9] from 9 to 80 (fun t wc => ∃ (xb : Nat) (a4 : Option Addr) (c4 g5 : Nat), t = .pointer (some ⟨xb, 0, none⟩) ∧ New9 w3 wc L ls (T, V) xb a4 c4 g5)
      case first =>
        refine wp_region_held_drew (S := fun W => w3.grownBy W none) (by kernel_rfl) HST0.out.gr (fun hHeld => ?_)
        generalize w3.drew = W0 at HST0 hHeld ⊢
        refine wpAnyH_take (i := 1) (v := .pointer (some ⟨sb, 0, none⟩)) rfl (by kernel_rfl) (by kernel_rfl) (by kernel_rfl) (fun _ _ _ h => h) (Or.inl ⟨by rfl, fun w hSw => ?_⟩) (by assumption) ?_
        · go_simp
        (try simp only [Act.put]); (try simp only [List.setIfInBounds_toArray]); (try simp only [List.set_cons_succ]); (try simp only [List.set_cons_zero])
        refine wpAnyH_take (i := 2) (v := .slice la L lc) rfl (by kernel_rfl) (by kernel_rfl) (by kernel_rfl) (fun _ _ _ h => h) (Or.inl ⟨by rfl, fun w hSw => ?_⟩) (by assumption) ?_
        · have hS9 : w3.grownBy w none := hSw; have z9 := hS9.cell q0' (by simp); clear hSw hS9; go_simp
        (try simp only [Act.put]); (try simp only [List.setIfInBounds_toArray]); (try simp only [List.set_cons_succ]); (try simp only [List.set_cons_zero])
        refine wpAnyH_take (i := 4) (v := .agg #[.int .i64 T, .int .u64 V]) rfl (by kernel_rfl) (by kernel_rfl) (by kernel_rfl) (fun _ _ _ h => h) (Or.inl ⟨by rfl, fun w hSw => ?_⟩) (by assumption) ?_
        · have hS9 : w3.grownBy w none := hSw; have z9 := hS9.cell p0' (by simp); have y9 := hS9.cell p1' (by simp); clear hSw hS9; go_simp
        (try simp only [Act.put]); (try simp only [List.setIfInBounds_toArray]); (try simp only [List.set_cons_succ]); (try simp only [List.set_cons_zero])
        refine wpAnyH_ready (rs := [0, 5, 7]) (by kernel_rfl) (by simp) (AllReadyH.cons (i := 0) rfl (fun K hK => ?_) (AllReadyH.cons (i := 5) rfl (fun K hK => ?_) (AllReadyH.cons (i := 7) rfl (fun K hK => ?_) AllReadyH.nil)))
        · go_simp
          have HST1 : Hid (St9 w3 (W0.alloc (.cells #[] 62)) L ls (T, V) (some (W0.heap.size)) none none none) := HST0.out.lit
          refine hK.out _ _ HST1.out.gr (fun hHeld => ?_)
          clear hK K
          generalize W0.alloc (.cells #[] 62) = W1 at HST1 hHeld ⊢
          generalize W0.heap.size = g1 at HST1 ⊢
          clear HST0
          refine wpAnyH_ready (rs := [3, 5, 7]) (by kernel_rfl) (by simp) (AllReadyH.cons (i := 3) rfl (fun K hK => ?_) (AllReadyH.cons (i := 5) rfl (fun K hK => ?_) (AllReadyH.cons (i := 7) rfl (fun K hK => ?_) AllReadyH.nil)))
          · refine step_append_s labT rfl (.tmp 49) (.tmp 51) rfl w3.heap.size (.slice (some ⟨g1, 0, none⟩) 0 0) 0 [] (by simp [Act.eval]) HST1.out.own la ls L lc (by simp [Act.eval]) HLL.out (HRL3.out.grown HST1.out.gr (by simp)) HNIL.out (by omega) (by unfold maxLen; omega) HST1.out.gr.size ?_
            intro v2 W2 ho hg hw
            rw [List.nil_append, Nat.zero_add] at ho
            obtain ⟨a2, c2, rfl⟩ := sown_slice ho
            try rw [Nat.zero_add]
            have HST2 : Hid (St9 w3 W2 L ls (T, V) none (some (a2, c2)) none none) := HST1.out.app ho hg
            refine hK.out _ _ HST2.out.gr (fun hHeld => ?_)
            clear hK K ho hg hw
            (try simp only [Act.put]); (try simp only [List.setIfInBounds_toArray]); (try simp only [List.set_cons_succ]); (try simp only [List.set_cons_zero])
            clear HST1
            refine wpAnyH_ready (rs := [5, 7]) (by kernel_rfl) (by simp) (AllReadyH.cons (i := 5) rfl (fun K hK => ?_) (AllReadyH.cons (i := 7) rfl (fun K hK => ?_) AllReadyH.nil))
            · go_simp
              have HST3 : Hid (St9 w3 (W2.alloc (.cells #[.int .i64 T, .int .u64 V] 51)) L ls (T, V) none (some (a2, c2)) (some (W2.heap.size)) none) := HST2.out.point
              refine hK.out _ _ HST3.out.gr (fun hHeld => ?_)
              clear hK K
              generalize W2.alloc (.cells #[.int .i64 T, .int .u64 V] 51) = W3 at HST3 hHeld ⊢
              generalize W2.heap.size = p3 at HST3 ⊢
              clear HST2
              refine wpAnyH_take (i := 6) (v := .agg #[.slice a2 L c2, .slice (some ⟨p3, 0, none⟩) 1 1]) rfl (by kernel_rfl) (by kernel_rfl) (by kernel_rfl) (fun _ _ _ h => h) (Or.inl ⟨by rfl, fun w hSw => ?_⟩) (by assumption) ?_
              · go_simp
              (try simp only [Act.put]); (try simp only [List.setIfInBounds_toArray]); (try simp only [List.set_cons_succ]); (try simp only [List.set_cons_zero])
              refine wpAnyH_ready (rs := [7]) (by kernel_rfl) (by simp) (AllReadyH.cons (i := 7) rfl (fun K hK => ?_) AllReadyH.nil)
              · go_simp
                have HST4 : Hid (St9 w3 (W3.alloc (.cells #[.slice none 0 0, .slice none 0 0] 49)) L ls (T, V) none (some (a2, c2)) (some p3) (some (W3.heap.size))) := HST3.out.struct
                refine hK.out _ _ HST4.out.gr (fun hHeld => ?_)
                clear hK K
                generalize W3.alloc (.cells #[.slice none 0 0, .slice none 0 0] 49) = W4 at HST4 hHeld ⊢
                generalize W3.heap.size = x4 at HST4 ⊢
                clear HST3
                refine wpAnyH_ready (rs := [8]) (by kernel_rfl) (by simp) (AllReadyH.cons (i := 8) rfl (fun K hK => ?_) AllReadyH.nil)
                · obtain ⟨z0, z1, f0, f1, hnew⟩ := HST4.out.done
                  go_simp
                  have HNEW : Hid (New9 w3 ((W4.setCell ⟨x4, 0, none⟩ (.slice a2 L c2)).setCell ⟨x4, 1, none⟩ (.slice (some ⟨p3, 0, none⟩) 1 1)) L ls (T, V) x4 a2 c2 p3) := hnew
                  refine hK.out _ _ HNEW.out.gr (fun hHeld => ?_)
                  clear hK K hnew
                  refine wpAnyH_done (by kernel_rfl) ?_ _
                  go_wp2
                  go_meet
                  case rel => exact ⟨x4, a2, c2, p3, rfl, HNEW.out⟩
            · go_simp
              have HST6 : Hid (St9 w3 (W2.alloc (.cells #[.slice none 0 0, .slice none 0 0] 49)) L ls (T, V) none (some (a2, c2)) none (some (W2.heap.size))) := HST2.out.struct
              refine hK.out _ _ HST6.out.gr (fun hHeld => ?_)
              clear hK K
              generalize W2.alloc (.cells #[.slice none 0 0, .slice none 0 0] 49) = W6 at HST6 hHeld ⊢
              generalize W2.heap.size = x6 at HST6 ⊢
              clear HST2
              refine wpAnyH_ready (rs := [5]) (by kernel_rfl) (by simp) (AllReadyH.cons (i := 5) rfl (fun K hK => ?_) AllReadyH.nil)
              · go_simp
                have HST7 : Hid (St9 w3 (W6.alloc (.cells #[.int .i64 T, .int .u64 V] 51)) L ls (T, V) none (some (a2, c2)) (some (W6.heap.size)) (some x6)) := HST6.out.point
                refine hK.out _ _ HST7.out.gr (fun hHeld => ?_)
                clear hK K
                generalize W6.alloc (.cells #[.int .i64 T, .int .u64 V] 51) = W7 at HST7 hHeld ⊢
                generalize W6.heap.size = p7 at HST7 ⊢
                clear HST6
                refine wpAnyH_take (i := 6) (v := .agg #[.slice a2 L c2, .slice (some ⟨p7, 0, none⟩) 1 1]) rfl (by kernel_rfl) (by kernel_rfl) (by kernel_rfl) (fun _ _ _ h => h) (Or.inl ⟨by rfl, fun w hSw => ?_⟩) (by assumption) ?_
                · go_simp
                (try simp only [Act.put]); (try simp only [List.setIfInBounds_toArray]); (try simp only [List.set_cons_succ]); (try simp only [List.set_cons_zero])
                refine wpAnyH_ready (rs := [8]) (by kernel_rfl) (by simp) (AllReadyH.cons (i := 8) rfl (fun K hK => ?_) AllReadyH.nil)
                · obtain ⟨z0, z1, f0, f1, hnew⟩ := HST7.out.done
                  go_simp
                  have HNEW : Hid (New9 w3 ((W7.setCell ⟨x6, 0, none⟩ (.slice a2 L c2)).setCell ⟨x6, 1, none⟩ (.slice (some ⟨p7, 0, none⟩) 1 1)) L ls (T, V) x6 a2 c2 p7) := hnew
                  refine hK.out _ _ HNEW.out.gr (fun hHeld => ?_)
                  clear hK K hnew
                  refine wpAnyH_done (by kernel_rfl) ?_ _
                  go_wp2
                  go_meet
                  case rel => exact ⟨x6, a2, c2, p7, rfl, HNEW.out⟩
          · go_simp
            have HST9 : Hid (St9 w3 (W1.alloc (.cells #[.int .i64 T, .int .u64 V] 51)) L ls (T, V) (some g1) none (some (W1.heap.size)) none) := HST1.out.point
            refine hK.out _ _ HST9.out.gr (fun hHeld => ?_)
            clear hK K
            generalize W1.alloc (.cells #[.int .i64 T, .int .u64 V] 51) = W9 at HST9 hHeld ⊢
            generalize W1.heap.size = p9 at HST9 ⊢
            clear HST1
            refine wpAnyH_ready (rs := [3, 7]) (by kernel_rfl) (by simp) (AllReadyH.cons (i := 3) rfl (fun K hK => ?_) (AllReadyH.cons (i := 7) rfl (fun K hK => ?_) AllReadyH.nil))
            · refine step_append_s labT rfl (.tmp 49) (.tmp 51) rfl w3.heap.size (.slice (some ⟨g1, 0, none⟩) 0 0) 0 [] (by simp [Act.eval]) HST9.out.own la ls L lc (by simp [Act.eval]) HLL.out (HRL3.out.grown HST9.out.gr (by simp)) HNIL.out (by omega) (by unfold maxLen; omega) HST9.out.gr.size ?_
              intro v10 W10 ho hg hw
              rw [List.nil_append, Nat.zero_add] at ho
              obtain ⟨a10, c10, rfl⟩ := sown_slice ho
              try rw [Nat.zero_add]
              have HST10 : Hid (St9 w3 W10 L ls (T, V) none (some (a10, c10)) (some p9) none) := HST9.out.app ho hg
              refine hK.out _ _ HST10.out.gr (fun hHeld => ?_)
              clear hK K ho hg hw
              (try simp only [Act.put]); (try simp only [List.setIfInBounds_toArray]); (try simp only [List.set_cons_succ]); (try simp only [List.set_cons_zero])
              clear HST9
              refine wpAnyH_take (i := 6) (v := .agg #[.slice a10 L c10, .slice (some ⟨p9, 0, none⟩) 1 1]) rfl (by kernel_rfl) (by kernel_rfl) (by kernel_rfl) (fun _ _ _ h => h) (Or.inl ⟨by rfl, fun w hSw => ?_⟩) (by assumption) ?_
              · go_simp
              (try simp only [Act.put]); (try simp only [List.setIfInBounds_toArray]); (try simp only [List.set_cons_succ]); (try simp only [List.set_cons_zero])
              refine wpAnyH_ready (rs := [7]) (by kernel_rfl) (by simp) (AllReadyH.cons (i := 7) rfl (fun K hK => ?_) AllReadyH.nil)
              · go_simp
                have HST11 : Hid (St9 w3 (W10.alloc (.cells #[.slice none 0 0, .slice none 0 0] 49)) L ls (T, V) none (some (a10, c10)) (some p9) (some (W10.heap.size))) := HST10.out.struct
                refine hK.out _ _ HST11.out.gr (fun hHeld => ?_)
                clear hK K
                generalize W10.alloc (.cells #[.slice none 0 0, .slice none 0 0] 49) = W11 at HST11 hHeld ⊢
                generalize W10.heap.size = x11 at HST11 ⊢
                clear HST10
                refine wpAnyH_ready (rs := [8]) (by kernel_rfl) (by simp) (AllReadyH.cons (i := 8) rfl (fun K hK => ?_) AllReadyH.nil)
                · obtain ⟨z0, z1, f0, f1, hnew⟩ := HST11.out.done
                  go_simp
                  have HNEW : Hid (New9 w3 ((W11.setCell ⟨x11, 0, none⟩ (.slice a10 L c10)).setCell ⟨x11, 1, none⟩ (.slice (some ⟨p9, 0, none⟩) 1 1)) L ls (T, V) x11 a10 c10 p9) := hnew
                  refine hK.out _ _ HNEW.out.gr (fun hHeld => ?_)
                  clear hK K hnew
                  refine wpAnyH_done (by kernel_rfl) ?_ _
                  go_wp2
                  go_meet
                  case rel => exact ⟨x11, a10, c10, p9, rfl, HNEW.out⟩
            · go_simp
              have HST13 : Hid (St9 w3 (W9.alloc (.cells #[.slice none 0 0, .slice none 0 0] 49)) L ls (T, V) (some g1) none (some p9) (some (W9.heap.size))) := HST9.out.struct
              refine hK.out _ _ HST13.out.gr (fun hHeld => ?_)
              clear hK K
              generalize W9.alloc (.cells #[.slice none 0 0, .slice none 0 0] 49) = W13 at HST13 hHeld ⊢
              generalize W9.heap.size = x13 at HST13 ⊢
              clear HST9
              refine wpAnyH_ready (rs := [3]) (by kernel_rfl) (by simp) (AllReadyH.cons (i := 3) rfl (fun K hK => ?_) AllReadyH.nil)
              · refine step_append_s labT rfl (.tmp 49) (.tmp 51) rfl w3.heap.size (.slice (some ⟨g1, 0, none⟩) 0 0) 0 [] (by simp [Act.eval]) HST13.out.own la ls L lc (by simp [Act.eval]) HLL.out (HRL3.out.grown HST13.out.gr (by simp)) HNIL.out (by omega) (by unfold maxLen; omega) HST13.out.gr.size ?_
                intro v14 W14 ho hg hw
                rw [List.nil_append, Nat.zero_add] at ho
                obtain ⟨a14, c14, rfl⟩ := sown_slice ho
                try rw [Nat.zero_add]
                have HST14 : Hid (St9 w3 W14 L ls (T, V) none (some (a14, c14)) (some p9) (some x13)) := HST13.out.app ho hg
                refine hK.out _ _ HST14.out.gr (fun hHeld => ?_)
                clear hK K ho hg hw
                (try simp only [Act.put]); (try simp only [List.setIfInBounds_toArray]); (try simp only [List.set_cons_succ]); (try simp only [List.set_cons_zero])
                clear HST13
                refine wpAnyH_take (i := 6) (v := .agg #[.slice a14 L c14, .slice (some ⟨p9, 0, none⟩) 1 1]) rfl (by kernel_rfl) (by kernel_rfl) (by kernel_rfl) (fun _ _ _ h => h) (Or.inl ⟨by rfl, fun w hSw => ?_⟩) (by assumption) ?_
                · go_simp
                (try simp only [Act.put]); (try simp only [List.setIfInBounds_toArray]); (try simp only [List.set_cons_succ]); (try simp only [List.set_cons_zero])
                refine wpAnyH_ready (rs := [8]) (by kernel_rfl) (by simp) (AllReadyH.cons (i := 8) rfl (fun K hK => ?_) AllReadyH.nil)
                · obtain ⟨z0, z1, f0, f1, hnew⟩ := HST14.out.done
                  go_simp
                  have HNEW : Hid (New9 w3 ((W14.setCell ⟨x13, 0, none⟩ (.slice a14 L c14)).setCell ⟨x13, 1, none⟩ (.slice (some ⟨p9, 0, none⟩) 1 1)) L ls (T, V) x13 a14 c14 p9) := hnew
                  refine hK.out _ _ HNEW.out.gr (fun hHeld => ?_)
                  clear hK K hnew
                  refine wpAnyH_done (by kernel_rfl) ?_ _
                  go_wp2
                  go_meet
                  case rel => exact ⟨x13, a14, c14, p9, rfl, HNEW.out⟩
          · go_simp
            have HST16 : Hid (St9 w3 (W1.alloc (.cells #[.slice none 0 0, .slice none 0 0] 49)) L ls (T, V) (some g1) none none (some (W1.heap.size))) := HST1.out.struct
            refine hK.out _ _ HST16.out.gr (fun hHeld => ?_)
            clear hK K
            generalize W1.alloc (.cells #[.slice none 0 0, .slice none 0 0] 49) = W16 at HST16 hHeld ⊢
            generalize W1.heap.size = x16 at HST16 ⊢
            clear HST1
            refine wpAnyH_ready (rs := [3, 5]) (by kernel_rfl) (by simp) (AllReadyH.cons (i := 3) rfl (fun K hK => ?_) (AllReadyH.cons (i := 5) rfl (fun K hK => ?_) AllReadyH.nil))
            · refine step_append_s labT rfl (.tmp 49) (.tmp 51) rfl w3.heap.size (.slice (some ⟨g1, 0, none⟩) 0 0) 0 [] (by simp [Act.eval]) HST16.out.own la ls L lc (by simp [Act.eval]) HLL.out (HRL3.out.grown HST16.out.gr (by simp)) HNIL.out (by omega) (by unfold maxLen; omega) HST16.out.gr.size ?_
              intro v17 W17 ho hg hw
              rw [List.nil_append, Nat.zero_add] at ho
              obtain ⟨a17, c17, rfl⟩ := sown_slice ho
              try rw [Nat.zero_add]
              have HST17 : Hid (St9 w3 W17 L ls (T, V) none (some (a17, c17)) none (some x16)) := HST16.out.app ho hg
              refine hK.out _ _ HST17.out.gr (fun hHeld => ?_)
              clear hK K ho hg hw
              (try simp only [Act.put]); (try simp only [List.setIfInBounds_toArray]); (try simp only [List.set_cons_succ]); (try simp only [List.set_cons_zero])
              clear HST16
              refine wpAnyH_ready (rs := [5]) (by kernel_rfl) (by simp) (AllReadyH.cons (i := 5) rfl (fun K hK => ?_) AllReadyH.nil)
              · go_simp
                have HST18 : Hid (St9 w3 (W17.alloc (.cells #[.int .i64 T, .int .u64 V] 51)) L ls (T, V) none (some (a17, c17)) (some (W17.heap.size)) (some x16)) := HST17.out.point
                refine hK.out _ _ HST18.out.gr (fun hHeld => ?_)
                clear hK K
                generalize W17.alloc (.cells #[.int .i64 T, .int .u64 V] 51) = W18 at HST18 hHeld ⊢
                generalize W17.heap.size = p18 at HST18 ⊢
                clear HST17
                refine wpAnyH_take (i := 6) (v := .agg #[.slice a17 L c17, .slice (some ⟨p18, 0, none⟩) 1 1]) rfl (by kernel_rfl) (by kernel_rfl) (by kernel_rfl) (fun _ _ _ h => h) (Or.inl ⟨by rfl, fun w hSw => ?_⟩) (by assumption) ?_
                · go_simp
                (try simp only [Act.put]); (try simp only [List.setIfInBounds_toArray]); (try simp only [List.set_cons_succ]); (try simp only [List.set_cons_zero])
                refine wpAnyH_ready (rs := [8]) (by kernel_rfl) (by simp) (AllReadyH.cons (i := 8) rfl (fun K hK => ?_) AllReadyH.nil)
                · obtain ⟨z0, z1, f0, f1, hnew⟩ := HST18.out.done
                  go_simp
                  have HNEW : Hid (New9 w3 ((W18.setCell ⟨x16, 0, none⟩ (.slice a17 L c17)).setCell ⟨x16, 1, none⟩ (.slice (some ⟨p18, 0, none⟩) 1 1)) L ls (T, V) x16 a17 c17 p18) := hnew
                  refine hK.out _ _ HNEW.out.gr (fun hHeld => ?_)
                  clear hK K hnew
                  refine wpAnyH_done (by kernel_rfl) ?_ _
                  go_wp2
                  go_meet
                  case rel => exact ⟨x16, a17, c17, p18, rfl, HNEW.out⟩
            · go_simp
              have HST20 : Hid (St9 w3 (W16.alloc (.cells #[.int .i64 T, .int .u64 V] 51)) L ls (T, V) (some g1) none (some (W16.heap.size)) (some x16)) := HST16.out.point
              refine hK.out _ _ HST20.out.gr (fun hHeld => ?_)
              clear hK K
              generalize W16.alloc (.cells #[.int .i64 T, .int .u64 V] 51) = W20 at HST20 hHeld ⊢
              generalize W16.heap.size = p20 at HST20 ⊢
              clear HST16
              refine wpAnyH_ready (rs := [3]) (by kernel_rfl) (by simp) (AllReadyH.cons (i := 3) rfl (fun K hK => ?_) AllReadyH.nil)
              · refine step_append_s labT rfl (.tmp 49) (.tmp 51) rfl w3.heap.size (.slice (some ⟨g1, 0, none⟩) 0 0) 0 [] (by simp [Act.eval]) HST20.out.own la ls L lc (by simp [Act.eval]) HLL.out (HRL3.out.grown HST20.out.gr (by simp)) HNIL.out (by omega) (by unfold maxLen; omega) HST20.out.gr.size ?_
                intro v21 W21 ho hg hw
                rw [List.nil_append, Nat.zero_add] at ho
                obtain ⟨a21, c21, rfl⟩ := sown_slice ho
                try rw [Nat.zero_add]
                have HST21 : Hid (St9 w3 W21 L ls (T, V) none (some (a21, c21)) (some p20) (some x16)) := HST20.out.app ho hg
                refine hK.out _ _ HST21.out.gr (fun hHeld => ?_)
                clear hK K ho hg hw
                (try simp only [Act.put]); (try simp only [List.setIfInBounds_toArray]); (try simp only [List.set_cons_succ]); (try simp only [List.set_cons_zero])
                clear HST20
                refine wpAnyH_take (i := 6) (v := .agg #[.slice a21 L c21, .slice (some ⟨p20, 0, none⟩) 1 1]) rfl (by kernel_rfl) (by kernel_rfl) (by kernel_rfl) (fun _ _ _ h => h) (Or.inl ⟨by rfl, fun w hSw => ?_⟩) (by assumption) ?_
                · go_simp
                (try simp only [Act.put]); (try simp only [List.setIfInBounds_toArray]); (try simp only [List.set_cons_succ]); (try simp only [List.set_cons_zero])
                refine wpAnyH_ready (rs := [8]) (by kernel_rfl) (by simp) (AllReadyH.cons (i := 8) rfl (fun K hK => ?_) AllReadyH.nil)
                · obtain ⟨z0, z1, f0, f1, hnew⟩ := HST21.out.done
                  go_simp
                  have HNEW : Hid (New9 w3 ((W21.setCell ⟨x16, 0, none⟩ (.slice a21 L c21)).setCell ⟨x16, 1, none⟩ (.slice (some ⟨p20, 0, none⟩) 1 1)) L ls (T, V) x16 a21 c21 p20) := hnew
                  refine hK.out _ _ HNEW.out.gr (fun hHeld => ?_)
                  clear hK K hnew
                  refine wpAnyH_done (by kernel_rfl) ?_ _
                  go_wp2
                  go_meet
                  case rel => exact ⟨x16, a21, c21, p20, rfl, HNEW.out⟩
        · go_simp
          have HST23 : Hid (St9 w3 (W0.alloc (.cells #[.int .i64 T, .int .u64 V] 51)) L ls (T, V) none none (some (W0.heap.size)) none) := HST0.out.point
          refine hK.out _ _ HST23.out.gr (fun hHeld => ?_)
          clear hK K
          generalize W0.alloc (.cells #[.int .i64 T, .int .u64 V] 51) = W23 at HST23 hHeld ⊢
          generalize W0.heap.size = p23 at HST23 ⊢
          clear HST0
          refine wpAnyH_ready (rs := [0, 7]) (by kernel_rfl) (by simp) (AllReadyH.cons (i := 0) rfl (fun K hK => ?_) (AllReadyH.cons (i := 7) rfl (fun K hK => ?_) AllReadyH.nil))
          · go_simp
            have HST24 : Hid (St9 w3 (W23.alloc (.cells #[] 62)) L ls (T, V) (some (W23.heap.size)) none (some p23) none) := HST23.out.lit
            refine hK.out _ _ HST24.out.gr (fun hHeld => ?_)
            clear hK K
            generalize W23.alloc (.cells #[] 62) = W24 at HST24 hHeld ⊢
            generalize W23.heap.size = g24 at HST24 ⊢
            clear HST23
            refine wpAnyH_ready (rs := [3, 7]) (by kernel_rfl) (by simp) (AllReadyH.cons (i := 3) rfl (fun K hK => ?_) (AllReadyH.cons (i := 7) rfl (fun K hK => ?_) AllReadyH.nil))
            · refine step_append_s labT rfl (.tmp 49) (.tmp 51) rfl w3.heap.size (.slice (some ⟨g24, 0, none⟩) 0 0) 0 [] (by simp [Act.eval]) HST24.out.own la ls L lc (by simp [Act.eval]) HLL.out (HRL3.out.grown HST24.out.gr (by simp)) HNIL.out (by omega) (by unfold maxLen; omega) HST24.out.gr.size ?_
              intro v25 W25 ho hg hw
              rw [List.nil_append, Nat.zero_add] at ho
              obtain ⟨a25, c25, rfl⟩ := sown_slice ho
              try rw [Nat.zero_add]
              have HST25 : Hid (St9 w3 W25 L ls (T, V) none (some (a25, c25)) (some p23) none) := HST24.out.app ho hg
              refine hK.out _ _ HST25.out.gr (fun hHeld => ?_)
              clear hK K ho hg hw
              (try simp only [Act.put]); (try simp only [List.setIfInBounds_toArray]); (try simp only [List.set_cons_succ]); (try simp only [List.set_cons_zero])
              clear HST24
              refine wpAnyH_take (i := 6) (v := .agg #[.slice a25 L c25, .slice (some ⟨p23, 0, none⟩) 1 1]) rfl (by kernel_rfl) (by kernel_rfl) (by kernel_rfl) (fun _ _ _ h => h) (Or.inl ⟨by rfl, fun w hSw => ?_⟩) (by assumption) ?_
              · go_simp
              (try simp only [Act.put]); (try simp only [List.setIfInBounds_toArray]); (try simp only [List.set_cons_succ]); (try simp only [List.set_cons_zero])
              refine wpAnyH_ready (rs := [7]) (by kernel_rfl) (by simp) (AllReadyH.cons (i := 7) rfl (fun K hK => ?_) AllReadyH.nil)
              · go_simp
                have HST26 : Hid (St9 w3 (W25.alloc (.cells #[.slice none 0 0, .slice none 0 0] 49)) L ls (T, V) none (some (a25, c25)) (some p23) (some (W25.heap.size))) := HST25.out.struct
                refine hK.out _ _ HST26.out.gr (fun hHeld => ?_)
                clear hK K
                generalize W25.alloc (.cells #[.slice none 0 0, .slice none 0 0] 49) = W26 at HST26 hHeld ⊢
                generalize W25.heap.size = x26 at HST26 ⊢
                clear HST25
                refine wpAnyH_ready (rs := [8]) (by kernel_rfl) (by simp) (AllReadyH.cons (i := 8) rfl (fun K hK => ?_) AllReadyH.nil)
                · obtain ⟨z0, z1, f0, f1, hnew⟩ := HST26.out.done
                  go_simp
                  have HNEW : Hid (New9 w3 ((W26.setCell ⟨x26, 0, none⟩ (.slice a25 L c25)).setCell ⟨x26, 1, none⟩ (.slice (some ⟨p23, 0, none⟩) 1 1)) L ls (T, V) x26 a25 c25 p23) := hnew
                  refine hK.out _ _ HNEW.out.gr (fun hHeld => ?_)
                  clear hK K hnew
                  refine wpAnyH_done (by kernel_rfl) ?_ _
                  go_wp2
                  go_meet
                  case rel => exact ⟨x26, a25, c25, p23, rfl, HNEW.out⟩
            · go_simp
              have HST28 : Hid (St9 w3 (W24.alloc (.cells #[.slice none 0 0, .slice none 0 0] 49)) L ls (T, V) (some g24) none (some p23) (some (W24.heap.size))) := HST24.out.struct
              refine hK.out _ _ HST28.out.gr (fun hHeld => ?_)
              clear hK K
              generalize W24.alloc (.cells #[.slice none 0 0, .slice none 0 0] 49) = W28 at HST28 hHeld ⊢
              generalize W24.heap.size = x28 at HST28 ⊢
              clear HST24
              refine wpAnyH_ready (rs := [3]) (by kernel_rfl) (by simp) (AllReadyH.cons (i := 3) rfl (fun K hK => ?_) AllReadyH.nil)
              · refine step_append_s labT rfl (.tmp 49) (.tmp 51) rfl w3.heap.size (.slice (some ⟨g24, 0, none⟩) 0 0) 0 [] (by simp [Act.eval]) HST28.out.own la ls L lc (by simp [Act.eval]) HLL.out (HRL3.out.grown HST28.out.gr (by simp)) HNIL.out (by omega) (by unfold maxLen; omega) HST28.out.gr.size ?_
                intro v29 W29 ho hg hw
                rw [List.nil_append, Nat.zero_add] at ho
                obtain ⟨a29, c29, rfl⟩ := sown_slice ho
                try rw [Nat.zero_add]
                have HST29 : Hid (St9 w3 W29 L ls (T, V) none (some (a29, c29)) (some p23) (some x28)) := HST28.out.app ho hg
                refine hK.out _ _ HST29.out.gr (fun hHeld => ?_)
                clear hK K ho hg hw
                (try simp only [Act.put]); (try simp only [List.setIfInBounds_toArray]); (try simp only [List.set_cons_succ]); (try simp only [List.set_cons_zero])
                clear HST28
                refine wpAnyH_take (i := 6) (v := .agg #[.slice a29 L c29, .slice (some ⟨p23, 0, none⟩) 1 1]) rfl (by kernel_rfl) (by kernel_rfl) (by kernel_rfl) (fun _ _ _ h => h) (Or.inl ⟨by rfl, fun w hSw => ?_⟩) (by assumption) ?_
                · go_simp
                (try simp only [Act.put]); (try simp only [List.setIfInBounds_toArray]); (try simp only [List.set_cons_succ]); (try simp only [List.set_cons_zero])
                refine wpAnyH_ready (rs := [8]) (by kernel_rfl) (by simp) (AllReadyH.cons (i := 8) rfl (fun K hK => ?_) AllReadyH.nil)
                · obtain ⟨z0, z1, f0, f1, hnew⟩ := HST29.out.done
                  go_simp
                  have HNEW : Hid (New9 w3 ((W29.setCell ⟨x28, 0, none⟩ (.slice a29 L c29)).setCell ⟨x28, 1, none⟩ (.slice (some ⟨p23, 0, none⟩) 1 1)) L ls (T, V) x28 a29 c29 p23) := hnew
                  refine hK.out _ _ HNEW.out.gr (fun hHeld => ?_)
                  clear hK K hnew
                  refine wpAnyH_done (by kernel_rfl) ?_ _
                  go_wp2
                  go_meet
                  case rel => exact ⟨x28, a29, c29, p23, rfl, HNEW.out⟩
          · go_simp
            have HST31 : Hid (St9 w3 (W23.alloc (.cells #[.slice none 0 0, .slice none 0 0] 49)) L ls (T, V) none none (some p23) (some (W23.heap.size))) := HST23.out.struct
            refine hK.out _ _ HST31.out.gr (fun hHeld => ?_)
            clear hK K
            generalize W23.alloc (.cells #[.slice none 0 0, .slice none 0 0] 49) = W31 at HST31 hHeld ⊢
            generalize W23.heap.size = x31 at HST31 ⊢
            clear HST23
            refine wpAnyH_ready (rs := [0]) (by kernel_rfl) (by simp) (AllReadyH.cons (i := 0) rfl (fun K hK => ?_) AllReadyH.nil)
            · go_simp
              have HST32 : Hid (St9 w3 (W31.alloc (.cells #[] 62)) L ls (T, V) (some (W31.heap.size)) none (some p23) (some x31)) := HST31.out.lit
              refine hK.out _ _ HST32.out.gr (fun hHeld => ?_)
              clear hK K
              generalize W31.alloc (.cells #[] 62) = W32 at HST32 hHeld ⊢
              generalize W31.heap.size = g32 at HST32 ⊢
              clear HST31
              refine wpAnyH_ready (rs := [3]) (by kernel_rfl) (by simp) (AllReadyH.cons (i := 3) rfl (fun K hK => ?_) AllReadyH.nil)
              · refine step_append_s labT rfl (.tmp 49) (.tmp 51) rfl w3.heap.size (.slice (some ⟨g32, 0, none⟩) 0 0) 0 [] (by simp [Act.eval]) HST32.out.own la ls L lc (by simp [Act.eval]) HLL.out (HRL3.out.grown HST32.out.gr (by simp)) HNIL.out (by omega) (by unfold maxLen; omega) HST32.out.gr.size ?_
                intro v33 W33 ho hg hw
                rw [List.nil_append, Nat.zero_add] at ho
                obtain ⟨a33, c33, rfl⟩ := sown_slice ho
                try rw [Nat.zero_add]
                have HST33 : Hid (St9 w3 W33 L ls (T, V) none (some (a33, c33)) (some p23) (some x31)) := HST32.out.app ho hg
                refine hK.out _ _ HST33.out.gr (fun hHeld => ?_)
                clear hK K ho hg hw
                (try simp only [Act.put]); (try simp only [List.setIfInBounds_toArray]); (try simp only [List.set_cons_succ]); (try simp only [List.set_cons_zero])
                clear HST32
                refine wpAnyH_take (i := 6) (v := .agg #[.slice a33 L c33, .slice (some ⟨p23, 0, none⟩) 1 1]) rfl (by kernel_rfl) (by kernel_rfl) (by kernel_rfl) (fun _ _ _ h => h) (Or.inl ⟨by rfl, fun w hSw => ?_⟩) (by assumption) ?_
                · go_simp
                (try simp only [Act.put]); (try simp only [List.setIfInBounds_toArray]); (try simp only [List.set_cons_succ]); (try simp only [List.set_cons_zero])
                refine wpAnyH_ready (rs := [8]) (by kernel_rfl) (by simp) (AllReadyH.cons (i := 8) rfl (fun K hK => ?_) AllReadyH.nil)
                · obtain ⟨z0, z1, f0, f1, hnew⟩ := HST33.out.done
                  go_simp
                  have HNEW : Hid (New9 w3 ((W33.setCell ⟨x31, 0, none⟩ (.slice a33 L c33)).setCell ⟨x31, 1, none⟩ (.slice (some ⟨p23, 0, none⟩) 1 1)) L ls (T, V) x31 a33 c33 p23) := hnew
                  refine hK.out _ _ HNEW.out.gr (fun hHeld => ?_)
                  clear hK K hnew
                  refine wpAnyH_done (by kernel_rfl) ?_ _
                  go_wp2
                  go_meet
                  case rel => exact ⟨x31, a33, c33, p23, rfl, HNEW.out⟩
        · go_simp
          have HST35 : Hid (St9 w3 (W0.alloc (.cells #[.slice none 0 0, .slice none 0 0] 49)) L ls (T, V) none none none (some (W0.heap.size))) := HST0.out.struct
          refine hK.out _ _ HST35.out.gr (fun hHeld => ?_)
          clear hK K
          generalize W0.alloc (.cells #[.slice none 0 0, .slice none 0 0] 49) = W35 at HST35 hHeld ⊢
          generalize W0.heap.size = x35 at HST35 ⊢
          clear HST0
          refine wpAnyH_ready (rs := [0, 5]) (by kernel_rfl) (by simp) (AllReadyH.cons (i := 0) rfl (fun K hK => ?_) (AllReadyH.cons (i := 5) rfl (fun K hK => ?_) AllReadyH.nil))
          · go_simp
            have HST36 : Hid (St9 w3 (W35.alloc (.cells #[] 62)) L ls (T, V) (some (W35.heap.size)) none none (some x35)) := HST35.out.lit
            refine hK.out _ _ HST36.out.gr (fun hHeld => ?_)
            clear hK K
            generalize W35.alloc (.cells #[] 62) = W36 at HST36 hHeld ⊢
            generalize W35.heap.size = g36 at HST36 ⊢
            clear HST35
            refine wpAnyH_ready (rs := [3, 5]) (by kernel_rfl) (by simp) (AllReadyH.cons (i := 3) rfl (fun K hK => ?_) (AllReadyH.cons (i := 5) rfl (fun K hK => ?_) AllReadyH.nil))
            · refine step_append_s labT rfl (.tmp 49) (.tmp 51) rfl w3.heap.size (.slice (some ⟨g36, 0, none⟩) 0 0) 0 [] (by simp [Act.eval]) HST36.out.own la ls L lc (by simp [Act.eval]) HLL.out (HRL3.out.grown HST36.out.gr (by simp)) HNIL.out (by omega) (by unfold maxLen; omega) HST36.out.gr.size ?_
              intro v37 W37 ho hg hw
              rw [List.nil_append, Nat.zero_add] at ho
              obtain ⟨a37, c37, rfl⟩ := sown_slice ho
              try rw [Nat.zero_add]
              have HST37 : Hid (St9 w3 W37 L ls (T, V) none (some (a37, c37)) none (some x35)) := HST36.out.app ho hg
              refine hK.out _ _ HST37.out.gr (fun hHeld => ?_)
              clear hK K ho hg hw
              (try simp only [Act.put]); (try simp only [List.setIfInBounds_toArray]); (try simp only [List.set_cons_succ]); (try simp only [List.set_cons_zero])
              clear HST36
              refine wpAnyH_ready (rs := [5]) (by kernel_rfl) (by simp) (AllReadyH.cons (i := 5) rfl (fun K hK => ?_) AllReadyH.nil)
              · go_simp
                have HST38 : Hid (St9 w3 (W37.alloc (.cells #[.int .i64 T, .int .u64 V] 51)) L ls (T, V) none (some (a37, c37)) (some (W37.heap.size)) (some x35)) := HST37.out.point
                refine hK.out _ _ HST38.out.gr (fun hHeld => ?_)
                clear hK K
                generalize W37.alloc (.cells #[.int .i64 T, .int .u64 V] 51) = W38 at HST38 hHeld ⊢
                generalize W37.heap.size = p38 at HST38 ⊢
                clear HST37
                refine wpAnyH_take (i := 6) (v := .agg #[.slice a37 L c37, .slice (some ⟨p38, 0, none⟩) 1 1]) rfl (by kernel_rfl) (by kernel_rfl) (by kernel_rfl) (fun _ _ _ h => h) (Or.inl ⟨by rfl, fun w hSw => ?_⟩) (by assumption) ?_
                · go_simp
                (try simp only [Act.put]); (try simp only [List.setIfInBounds_toArray]); (try simp only [List.set_cons_succ]); (try simp only [List.set_cons_zero])
                refine wpAnyH_ready (rs := [8]) (by kernel_rfl) (by simp) (AllReadyH.cons (i := 8) rfl (fun K hK => ?_) AllReadyH.nil)
                · obtain ⟨z0, z1, f0, f1, hnew⟩ := HST38.out.done
                  go_simp
                  have HNEW : Hid (New9 w3 ((W38.setCell ⟨x35, 0, none⟩ (.slice a37 L c37)).setCell ⟨x35, 1, none⟩ (.slice (some ⟨p38, 0, none⟩) 1 1)) L ls (T, V) x35 a37 c37 p38) := hnew
                  refine hK.out _ _ HNEW.out.gr (fun hHeld => ?_)
                  clear hK K hnew
                  refine wpAnyH_done (by kernel_rfl) ?_ _
                  go_wp2
                  go_meet
                  case rel => exact ⟨x35, a37, c37, p38, rfl, HNEW.out⟩
            · go_simp
              have HST40 : Hid (St9 w3 (W36.alloc (.cells #[.int .i64 T, .int .u64 V] 51)) L ls (T, V) (some g36) none (some (W36.heap.size)) (some x35)) := HST36.out.point
              refine hK.out _ _ HST40.out.gr (fun hHeld => ?_)
              clear hK K
              generalize W36.alloc (.cells #[.int .i64 T, .int .u64 V] 51) = W40 at HST40 hHeld ⊢
              generalize W36.heap.size = p40 at HST40 ⊢
              clear HST36
              refine wpAnyH_ready (rs := [3]) (by kernel_rfl) (by simp) (AllReadyH.cons (i := 3) rfl (fun K hK => ?_) AllReadyH.nil)
              · refine step_append_s labT rfl (.tmp 49) (.tmp 51) rfl w3.heap.size (.slice (some ⟨g36, 0, none⟩) 0 0) 0 [] (by simp [Act.eval]) HST40.out.own la ls L lc (by simp [Act.eval]) HLL.out (HRL3.out.grown HST40.out.gr (by simp)) HNIL.out (by omega) (by unfold maxLen; omega) HST40.out.gr.size ?_
                intro v41 W41 ho hg hw
                rw [List.nil_append, Nat.zero_add] at ho
                obtain ⟨a41, c41, rfl⟩ := sown_slice ho
                try rw [Nat.zero_add]
                have HST41 : Hid (St9 w3 W41 L ls (T, V) none (some (a41, c41)) (some p40) (some x35)) := HST40.out.app ho hg
                refine hK.out _ _ HST41.out.gr (fun hHeld => ?_)
                clear hK K ho hg hw
                (try simp only [Act.put]); (try simp only [List.setIfInBounds_toArray]); (try simp only [List.set_cons_succ]); (try simp only [List.set_cons_zero])
                clear HST40
                refine wpAnyH_take (i := 6) (v := .agg #[.slice a41 L c41, .slice (some ⟨p40, 0, none⟩) 1 1]) rfl (by kernel_rfl) (by kernel_rfl) (by kernel_rfl) (fun _ _ _ h => h) (Or.inl ⟨by rfl, fun w hSw => ?_⟩) (by assumption) ?_
                · go_simp
                (try simp only [Act.put]); (try simp only [List.setIfInBounds_toArray]); (try simp only [List.set_cons_succ]); (try simp only [List.set_cons_zero])
                refine wpAnyH_ready (rs := [8]) (by kernel_rfl) (by simp) (AllReadyH.cons (i := 8) rfl (fun K hK => ?_) AllReadyH.nil)
                · obtain ⟨z0, z1, f0, f1, hnew⟩ := HST41.out.done
                  go_simp
                  have HNEW : Hid (New9 w3 ((W41.setCell ⟨x35, 0, none⟩ (.slice a41 L c41)).setCell ⟨x35, 1, none⟩ (.slice (some ⟨p40, 0, none⟩) 1 1)) L ls (T, V) x35 a41 c41 p40) := hnew
                  refine hK.out _ _ HNEW.out.gr (fun hHeld => ?_)
                  clear hK K hnew
                  refine wpAnyH_done (by kernel_rfl) ?_ _
                  go_wp2
                  go_meet
                  case rel => exact ⟨x35, a41, c41, p40, rfl, HNEW.out⟩
          · go_simp
            have HST43 : Hid (St9 w3 (W35.alloc (.cells #[.int .i64 T, .int .u64 V] 51)) L ls (T, V) none none (some (W35.heap.size)) (some x35)) := HST35.out.point
            refine hK.out _ _ HST43.out.gr (fun hHeld => ?_)
            clear hK K
            generalize W35.alloc (.cells #[.int .i64 T, .int .u64 V] 51) = W43 at HST43 hHeld ⊢
            generalize W35.heap.size = p43 at HST43 ⊢
            clear HST35
            refine wpAnyH_ready (rs := [0]) (by kernel_rfl) (by simp) (AllReadyH.cons (i := 0) rfl (fun K hK => ?_) AllReadyH.nil)
            · go_simp
              have HST44 : Hid (St9 w3 (W43.alloc (.cells #[] 62)) L ls (T, V) (some (W43.heap.size)) none (some p43) (some x35)) := HST43.out.lit
              refine hK.out _ _ HST44.out.gr (fun hHeld => ?_)
              clear hK K
              generalize W43.alloc (.cells #[] 62) = W44 at HST44 hHeld ⊢
              generalize W43.heap.size = g44 at HST44 ⊢
              clear HST43
              refine wpAnyH_ready (rs := [3]) (by kernel_rfl) (by simp) (AllReadyH.cons (i := 3) rfl (fun K hK => ?_) AllReadyH.nil)
              · refine step_append_s labT rfl (.tmp 49) (.tmp 51) rfl w3.heap.size (.slice (some ⟨g44, 0, none⟩) 0 0) 0 [] (by simp [Act.eval]) HST44.out.own la ls L lc (by simp [Act.eval]) HLL.out (HRL3.out.grown HST44.out.gr (by simp)) HNIL.out (by omega) (by unfold maxLen; omega) HST44.out.gr.size ?_
                intro v45 W45 ho hg hw
                rw [List.nil_append, Nat.zero_add] at ho
                obtain ⟨a45, c45, rfl⟩ := sown_slice ho
                try rw [Nat.zero_add]
                have HST45 : Hid (St9 w3 W45 L ls (T, V) none (some (a45, c45)) (some p43) (some x35)) := HST44.out.app ho hg
                refine hK.out _ _ HST45.out.gr (fun hHeld => ?_)
                clear hK K ho hg hw
                (try simp only [Act.put]); (try simp only [List.setIfInBounds_toArray]); (try simp only [List.set_cons_succ]); (try simp only [List.set_cons_zero])
                clear HST44
                refine wpAnyH_take (i := 6) (v := .agg #[.slice a45 L c45, .slice (some ⟨p43, 0, none⟩) 1 1]) rfl (by kernel_rfl) (by kernel_rfl) (by kernel_rfl) (fun _ _ _ h => h) (Or.inl ⟨by rfl, fun w hSw => ?_⟩) (by assumption) ?_
                · go_simp
                (try simp only [Act.put]); (try simp only [List.setIfInBounds_toArray]); (try simp only [List.set_cons_succ]); (try simp only [List.set_cons_zero])
                refine wpAnyH_ready (rs := [8]) (by kernel_rfl) (by simp) (AllReadyH.cons (i := 8) rfl (fun K hK => ?_) AllReadyH.nil)
                · obtain ⟨z0, z1, f0, f1, hnew⟩ := HST45.out.done
                  go_simp
                  have HNEW : Hid (New9 w3 ((W45.setCell ⟨x35, 0, none⟩ (.slice a45 L c45)).setCell ⟨x35, 1, none⟩ (.slice (some ⟨p43, 0, none⟩) 1 1)) L ls (T, V) x35 a45 c45 p43) := hnew
                  refine hK.out _ _ HNEW.out.gr (fun hHeld => ?_)
                  clear hK K hnew
                  refine wpAnyH_done (by kernel_rfl) ?_ _
                  go_wp2
                  go_meet
                  case rel => exact ⟨x35, a45, c45, p43, rfl, HNEW.out⟩
      case rest =>
        clear HST0
        obtain ⟨xb, a4, c4, g5, rfl, hnew⟩ := hcut
        rename World => wc
        have HNW : Hid (New9 w3 wc L ls (T, V) xb a4 c4 g5) := hnew
        have HI9 : Hid (RefIs wc base rb lim S R a c raw) := HI.out.grown hnew.gr
        have e9 : wc.cell? ⟨rb, 1, none⟩ = some (.slice a M c) := by
          have h6 := HI9.out.cells.2
          rw [EM.out] at h6
          exact h6
        have hrl : raw.length = M := HI.out.ser.len.trans EM.out
        have HTL : Hid ((raw.take I).length = I) := by show _ = _; rw [List.length_take]; omega
        have HDL : Hid ((raw.drop I).length = M - I) := by show _ = _; rw [List.length_drop, hrl]
        have HRD9 : Hid (SRd serE wc a raw) := HI9.out.ser.rd.rd
        have HSE : Hid (wc.grownBy (wc.alloc (.cells #[] 49)) none) := World.grownBy_alloc wc _ none
        have hsl := fun w => slice_l 36 49 2 Tryz.underlying36 size49 a M c I hIle w
        have hsh := fun w => slice_h 36 49 2 Tryz.underlying36 size49 a M c I (by omega) w
        have e9' := HSE.out.cell e9 (by simp)
        have HSRC : Hid (SRd serE (wc.alloc (.cells #[] 49)) (cutA a c I 2) (raw.drop I)) := (HRD9.out.grown HSE.out (by simp)).drop c I (by omega)
        have HCN : Hid (cutA a c I 2 = none → c - I = 0) := cutA_nil HAN.out
        clear hnew
        go_wp2_with (at_builtin; refine wpList_append_s serT rfl (.tmp 56) (.tmp 62) rfl wc.heap.size (.slice (some ⟨wc.heap.size, 0, none⟩) 0 0) 0 [] rfl (SOwn.empty serE 49 wc) (cutA a c I 2) (raw.drop I) (M - I) (c - I) rfl HDL.out HSRC.out HCN.out (by omega) (by unfold maxLen; omega) HSE.out.size ?_; intro v10 w10 ho10 hg10 hn10; rw [List.nil_append, Nat.zero_add] at ho10; obtain ⟨ra, rc, rfl⟩ := sown_slice ho10)
        have HG10 : Hid (wc.grownBy w10 none) := gb_trans HSE.out hg10 (fun i hi => .inl (by simp [Value.ownBlock] at hi; omega))
        have HRR : Hid (SRd serE w10 ra (raw.drop I)) := SOwn.rd ho10
        have HRN : Hid (ra = none → rc = 0) := (sown_cap ho10).2
        have HN10 : Hid (New9 w3 w10 L ls (T, V) xb a4 c4 g5) := HNW.out.grew HG10.out
        have HI10 : Hid (RefIs w10 base rb lim S R a c raw) := HI9.out.grown HG10.out
        have e10 := HG10.out.cell e9 (by simp)
        have n0 := HN10.out.c0
        have n1 := HN10.out.c1
        have HXR : Hid (some xb ≠ some rb) := fun e => by
          have h1 := Option.some.inj e
          rw [h1] at n0
          have h2 := HI10.out.cells.1
          rw [n0] at h2
          cases h2
        have HRT : Hid (SRd serE w10 a (raw.take I)) := (HRD9.out.grown HG10.out (by simp)).take I
        have hcnt : I + 1 + (M - I) = M + 1 := by omega
        have HFIN : Hid (∀ (a8 : Option Addr) (c8 : Nat) (w8 : World), w10.grownBy w8 none → SOwn serE 49 w8 w10.heap.size (.slice a8 (M + 1) c8) (M + 1) (raw.take I ++ ((a4, L, c4), (some ⟨g5, 0, none⟩, 1, 1)) :: raw.drop I) → w8.cell? ⟨rb, 1, none⟩ = some (.slice a M c) ∧ w8.frozen? ⟨rb, 1, none⟩ = false ∧ ∃ R', RefAt (w8.setCell ⟨rb, 1, none⟩ (.slice a8 (M + 1) c8)) base rb lim (addR lim S ls T V) R' ∧ Step w (w8.setCell ⟨rb, 1, none⟩ (.slice a8 (M + 1) c8)) R R') := by
          intro a8 c8 w8 hg8 ho8
          have h3 := HI.out
          have hgr : w3.grownBy w8 none := HN10.out.gr.trans hg8
          have hn8 := HN10.out.grew hg8
          have hb3 : base ≤ w3.heap.size := Nat.le_trans HBW.out HG3.out.size
          have hfin := RefIs.addNew (s := (ls, [(T, V)])) (a4 := a4) (c4 := c4) (a5 := some ⟨g5, 0, none⟩) (c5 := 1) (a9 := a8) (c9 := c8) h3 hgr (I := I) (by rw [EM.out]; exact hIle) (by simp only [HLL.out]; exact hn8.lab) hn8.pts (by simp only [HLL.out, EM.out]; exact SOwn.base ho8 HN10.out.gr.size) hb3
          rw [EM.out, ← HAD.out] at hfin
          obtain ⟨k1, k2, R', k3, k4⟩ := hfin
          exact ⟨k1, k2, R', k3, (Step.grown R HG3.out).trans k4⟩
        have HSL0 : Hid (St11 w10 w10.drew I (raw.take I) ((a4, L, c4), (some ⟨g5, 0, none⟩, 1, 1)) none none none) := St11.start
        clear ho10 hg10 hn10 HNW HI9 HRD9 HSE HSRC HCN hsl e9 e9' HN10 HI10 HG10 hrl
        refine wp_region_held_drew (S := fun W => w10.grownBy W (some rb)) (by kernel_rfl) (gb_any HSL0.out.gr _) (fun hHeld => ?_)
        generalize w10.drew = W0 at HSL0 hHeld ⊢
        refine wpAnyH_take (i := 0) (v := .pointer (some ⟨rb, 0, none⟩)) rfl (by kernel_rfl) (by kernel_rfl) (by kernel_rfl) (fun _ _ _ h => h) (Or.inl ⟨by rfl, fun w hSw => ?_⟩) (by assumption) ?_
        · go_simp
        (try simp only [Act.put]); (try simp only [List.setIfInBounds_toArray]); (try simp only [List.set_cons_succ]); (try simp only [List.set_cons_zero])
        refine wpAnyH_take (i := 2) (v := .pointer (some ⟨rb, 0, none⟩)) rfl (by kernel_rfl) (by kernel_rfl) (by kernel_rfl) (fun _ _ _ h => h) (Or.inl ⟨by rfl, fun w hSw => ?_⟩) (by assumption) ?_
        · go_simp
        (try simp only [Act.put]); (try simp only [List.setIfInBounds_toArray]); (try simp only [List.set_cons_succ]); (try simp only [List.set_cons_zero])
        refine wpAnyH_take (i := 3) (v := .pointer (some ⟨rb, 0, none⟩)) rfl (by kernel_rfl) (by kernel_rfl) (by kernel_rfl) (fun _ _ _ h => h) (Or.inl ⟨by rfl, fun w hSw => ?_⟩) (by assumption) ?_
        · go_simp
        (try simp only [Act.put]); (try simp only [List.setIfInBounds_toArray]); (try simp only [List.set_cons_succ]); (try simp only [List.set_cons_zero])
        refine wpAnyH_take (i := 4) (v := .pointer (some ⟨rb, 1, none⟩)) rfl (by kernel_rfl) (by kernel_rfl) (by kernel_rfl) (fun _ _ _ h => h) (Or.inl ⟨by rfl, fun w hSw => ?_⟩) (by assumption) ?_
        · go_simp
        (try simp only [Act.put]); (try simp only [List.setIfInBounds_toArray]); (try simp only [List.set_cons_succ]); (try simp only [List.set_cons_zero])
        refine wpAnyH_take (i := 6) (v := .int .i64 I) rfl (by kernel_rfl) (by kernel_rfl) (by kernel_rfl) (fun _ _ _ h => h) (Or.inl ⟨by rfl, fun w hSw => ?_⟩) (by assumption) ?_
        · go_simp
        (try simp only [Act.put]); (try simp only [List.setIfInBounds_toArray]); (try simp only [List.set_cons_succ]); (try simp only [List.set_cons_zero])
        refine wpAnyH_take (i := 9) (v := .agg #[.slice a4 L c4, .slice (some ⟨g5, 0, none⟩) 1 1]) rfl (by kernel_rfl) (by kernel_rfl) (by kernel_rfl) (fun _ _ _ h => h) (Or.inl ⟨by rfl, fun w hSw => ?_⟩) (by assumption) ?_
        · have hS9 : w10.grownBy w (some rb) := hSw; have z9 := cell_stays hS9 (World.block_lt_of_cell? _ _ n0) HXR.out n0; have y9 := cell_stays hS9 (World.block_lt_of_cell? _ _ n0) HXR.out n1; clear hSw hS9; go_simp
        (try simp only [Act.put]); (try simp only [List.setIfInBounds_toArray]); (try simp only [List.set_cons_succ]); (try simp only [List.set_cons_zero])
        refine wpAnyH_take (i := 12) (v := .slice ra (M - I) rc) rfl (by kernel_rfl) (by kernel_rfl) (by kernel_rfl) (fun _ _ _ h => h) (Or.inl ⟨by rfl, fun w hSw => ?_⟩) (by assumption) ?_
        · go_simp
        (try simp only [Act.put]); (try simp only [List.setIfInBounds_toArray]); (try simp only [List.set_cons_succ]); (try simp only [List.set_cons_zero])
        refine wpAnyH_ready (rs := [1, 5, 10]) (by kernel_rfl) (by simp) (AllReadyH.cons (i := 1) rfl (fun K hK => ?_) (AllReadyH.cons (i := 5) rfl (fun K hK => ?_) (AllReadyH.cons (i := 10) rfl (fun K hK => ?_) AllReadyH.nil)))
        · go_simp
          have HSL47 : Hid (St11 w10 (W0.alloc (.cells #[] 49)) I (raw.take I) ((a4, L, c4), (some ⟨g5, 0, none⟩, 1, 1)) (some (W0.heap.size)) none none) := HSL0.out.empty rfl
          refine hK.out _ _ (gb_any HSL47.out.gr _) (fun hHeld => ?_)
          clear hK K
          generalize W0.alloc (.cells #[] 49) = W47 at HSL47 hHeld ⊢
          generalize W0.heap.size = g47 at HSL47 ⊢
          clear HSL0
          refine wpAnyH_ready (rs := [5, 10]) (by kernel_rfl) (by simp) (AllReadyH.cons (i := 5) rfl (fun K hK => ?_) (AllReadyH.cons (i := 10) rfl (fun K hK => ?_) AllReadyH.nil))
          · have z9 := HSL47.out.gr.cell e10 (by simp)
            go_simp
            refine hK.out _ _ (gb_any HSL47.out.gr _) (fun hHeld => ?_)
            clear hK K z9
            (try simp only [Act.put]); (try simp only [List.setIfInBounds_toArray]); (try simp only [List.set_cons_succ]); (try simp only [List.set_cons_zero])
            refine wpAnyH_take (i := 7) (v := .slice a I c) rfl (by kernel_rfl) (by kernel_rfl) (by kernel_rfl) (fun _ _ _ h => h) (Or.inl ⟨by rfl, fun w hSw => ?_⟩) (by assumption) ?_
            · have z9 := hsh w; clear hSw; go_simp
            (try simp only [Act.put]); (try simp only [List.setIfInBounds_toArray]); (try simp only [List.set_cons_succ]); (try simp only [List.set_cons_zero])
            refine wpAnyH_ready (rs := [8, 10]) (by kernel_rfl) (by simp) (AllReadyH.cons (i := 8) rfl (fun K hK => ?_) (AllReadyH.cons (i := 10) rfl (fun K hK => ?_) AllReadyH.nil))
            · refine step_append_s serT rfl (.tmp 65) (.tmp 71) rfl w10.heap.size (.slice (some ⟨g47, 0, none⟩) 0 0) 0 [] (by simp [Act.eval]) HSL47.out.own0 a (raw.take I) I c (by simp [Act.eval]) HTL.out (HRT.out.grown HSL47.out.gr (by simp)) HAN.out (by omega) (by unfold maxLen; omega) HSL47.out.gr.size ?_
              intro v49 W49 ho hg hw
              rw [List.nil_append, Nat.zero_add] at ho
              obtain ⟨a49, c49, rfl⟩ := sown_slice ho
              try rw [Nat.zero_add]
              have HSL49 : Hid (St11 w10 W49 I (raw.take I) ((a4, L, c4), (some ⟨g5, 0, none⟩, 1, 1)) none (some (a49, c49)) none) := HSL47.out.app ho hg hw
              refine hK.out _ _ (gb_any HSL49.out.gr _) (fun hHeld => ?_)
              clear hK K ho hg hw
              (try simp only [Act.put]); (try simp only [List.setIfInBounds_toArray]); (try simp only [List.set_cons_succ]); (try simp only [List.set_cons_zero])
              clear HSL47
              refine wpAnyH_ready (rs := [10]) (by kernel_rfl) (by simp) (AllReadyH.cons (i := 10) rfl (fun K hK => ?_) AllReadyH.nil)
              · go_simp
                have HSL50 : Hid (St11 w10 (W49.alloc (.cells #[.slice a4 L c4, .slice (some ⟨g5, 0, none⟩) 1 1] 49)) I (raw.take I) ((a4, L, c4), (some ⟨g5, 0, none⟩, 1, 1)) none (some (a49, c49)) (some (W49.heap.size))) := HSL49.out.one
                refine hK.out _ _ (gb_any HSL50.out.gr _) (fun hHeld => ?_)
                clear hK K
                generalize W49.alloc (.cells #[.slice a4 L c4, .slice (some ⟨g5, 0, none⟩) 1 1] 49) = W50 at HSL50 hHeld ⊢
                generalize W49.heap.size = x50 at HSL50 ⊢
                clear HSL49
                refine wpAnyH_ready (rs := [11]) (by kernel_rfl) (by simp) (AllReadyH.cons (i := 11) rfl (fun K hK => ?_) AllReadyH.nil)
                · have hown : SOwn serE 49 W50 w10.heap.size (.slice a49 I c49) I (raw.take I) := HSL50.out.own _ rfl
                  have hlit := (HSL50.out.lit _ rfl).1
                  refine step_append_s serT rfl (.tmp 72) (.tmp 74) rfl w10.heap.size (.slice a49 I c49) I (raw.take I) (by simp [Act.eval]) hown (some ⟨x50, 0, none⟩) [((a4, L, c4), (some ⟨g5, 0, none⟩, 1, 1))] 1 1 (by simp [Act.eval]) rfl hlit (by simp) (by omega) (by unfold maxLen; omega) HSL50.out.gr.size ?_
                  intro v7 w7 ho7 hg7 hw7
                  obtain ⟨a7, c7, rfl⟩ := sown_slice ho7
                  have HG7 : Hid (w10.grownBy w7 none) := gb_trans HSL50.out.gr hg7 (fun k hk => .inl (SOwn.block hown k hk).1)
                  have HO7 : Hid (SOwn serE 49 w7 w10.heap.size (.slice a7 (I + 1) c7) (I + 1) (raw.take I ++ [((a4, L, c4), (some ⟨g5, 0, none⟩, 1, 1))])) := ho7
                  refine hK.out _ _ (gb_any HG7.out _) (fun hHeld => ?_)
                  clear hK K ho7 hg7 hw7 hown hlit HSL50
                  (try simp only [Act.put]); (try simp only [List.setIfInBounds_toArray]); (try simp only [List.set_cons_succ]); (try simp only [List.set_cons_zero])
                  refine wpAnyH_ready (rs := [13]) (by kernel_rfl) (by simp) (AllReadyH.cons (i := 13) rfl (fun K hK => ?_) AllReadyH.nil)
                  refine step_append_s serT rfl (.tmp 75) (.tmp 76) rfl w10.heap.size (.slice a7 (I + 1) c7) (I + 1) (raw.take I ++ [((a4, L, c4), (some ⟨g5, 0, none⟩, 1, 1))]) (by simp [Act.eval]) HO7.out ra (raw.drop I) (M - I) rc (by simp [Act.eval]) HDL.out (HRR.out.grown HG7.out (by simp)) HRN.out (by omega) (by unfold maxLen; omega) HG7.out.size ?_
                  intro v8 w8 ho8 hg8 hw8
                  obtain ⟨a8, c8, rfl⟩ := sown_slice ho8
                  have HG8 : Hid (w10.grownBy w8 none) := gb_trans HG7.out hg8 (fun k hk => .inl (SOwn.block HO7.out k hk).1)
                  rw [List.append_assoc, List.singleton_append, hcnt] at ho8
                  rw [hcnt]
                  obtain ⟨z1, f1, hdone⟩ := HFIN.out a8 c8 w8 HG8.out ho8
                  have HDN : Hid (∃ R', RefAt (w8.setCell ⟨rb, 1, none⟩ (.slice a8 (M + 1) c8)) base rb lim (addR lim S ls T V) R' ∧ Step w (w8.setCell ⟨rb, 1, none⟩ (.slice a8 (M + 1) c8)) R R') := hdone
                  refine hK.out _ _ (gb_any HG8.out _) (fun hHeld => ?_)
                  clear hK K ho8 hg8 hw8 hdone
                  (try simp only [Act.put]); (try simp only [List.setIfInBounds_toArray]); (try simp only [List.set_cons_succ]); (try simp only [List.set_cons_zero])
                  refine wpAnyH_take (i := 14) (v := .pointer (some ⟨rb, 0, none⟩)) rfl (by kernel_rfl) (by kernel_rfl) (by kernel_rfl) (fun _ _ _ h => h) (Or.inl ⟨by rfl, fun w hSw => ?_⟩) (by assumption) ?_
                  · go_simp
                  (try simp only [Act.put]); (try simp only [List.setIfInBounds_toArray]); (try simp only [List.set_cons_succ]); (try simp only [List.set_cons_zero])
                  refine wpAnyH_take (i := 15) (v := .pointer (some ⟨rb, 1, none⟩)) rfl (by kernel_rfl) (by kernel_rfl) (by kernel_rfl) (fun _ _ _ h => h) (Or.inl ⟨by rfl, fun w hSw => ?_⟩) (by assumption) ?_
                  · go_simp
                  (try simp only [Act.put]); (try simp only [List.setIfInBounds_toArray]); (try simp only [List.set_cons_succ]); (try simp only [List.set_cons_zero])
                  refine wpAnyH_ready (rs := [16]) (by kernel_rfl) (by simp) (AllReadyH.cons (i := 16) rfl (fun K hK => ?_) AllReadyH.nil)
                  go_simp
                  refine hK.out _ _ (gb_trans (gb_any HG8.out _) (gb_set rfl) (fun k hk => .inr hk)) (fun hHeld => ?_)
                  clear hK K
                  refine wpAnyH_done (by kernel_rfl) ?_ _
                  go_wp2
                  go_ret
                  exact HQ.out _ _ ⟨rfl, HDN.out⟩
            · go_simp
              have HSL52 : Hid (St11 w10 (W47.alloc (.cells #[.slice a4 L c4, .slice (some ⟨g5, 0, none⟩) 1 1] 49)) I (raw.take I) ((a4, L, c4), (some ⟨g5, 0, none⟩, 1, 1)) (some g47) none (some (W47.heap.size))) := HSL47.out.one
              refine hK.out _ _ (gb_any HSL52.out.gr _) (fun hHeld => ?_)
              clear hK K
              generalize W47.alloc (.cells #[.slice a4 L c4, .slice (some ⟨g5, 0, none⟩) 1 1] 49) = W52 at HSL52 hHeld ⊢
              generalize W47.heap.size = x52 at HSL52 ⊢
              clear HSL47
              refine wpAnyH_ready (rs := [8]) (by kernel_rfl) (by simp) (AllReadyH.cons (i := 8) rfl (fun K hK => ?_) AllReadyH.nil)
              · refine step_append_s serT rfl (.tmp 65) (.tmp 71) rfl w10.heap.size (.slice (some ⟨g47, 0, none⟩) 0 0) 0 [] (by simp [Act.eval]) HSL52.out.own0 a (raw.take I) I c (by simp [Act.eval]) HTL.out (HRT.out.grown HSL52.out.gr (by simp)) HAN.out (by omega) (by unfold maxLen; omega) HSL52.out.gr.size ?_
                intro v53 W53 ho hg hw
                rw [List.nil_append, Nat.zero_add] at ho
                obtain ⟨a53, c53, rfl⟩ := sown_slice ho
                try rw [Nat.zero_add]
                have HSL53 : Hid (St11 w10 W53 I (raw.take I) ((a4, L, c4), (some ⟨g5, 0, none⟩, 1, 1)) none (some (a53, c53)) (some x52)) := HSL52.out.app ho hg hw
                refine hK.out _ _ (gb_any HSL53.out.gr _) (fun hHeld => ?_)
                clear hK K ho hg hw
                (try simp only [Act.put]); (try simp only [List.setIfInBounds_toArray]); (try simp only [List.set_cons_succ]); (try simp only [List.set_cons_zero])
                clear HSL52
                refine wpAnyH_ready (rs := [11]) (by kernel_rfl) (by simp) (AllReadyH.cons (i := 11) rfl (fun K hK => ?_) AllReadyH.nil)
                · have hown : SOwn serE 49 W53 w10.heap.size (.slice a53 I c53) I (raw.take I) := HSL53.out.own _ rfl
                  have hlit := (HSL53.out.lit _ rfl).1
                  refine step_append_s serT rfl (.tmp 72) (.tmp 74) rfl w10.heap.size (.slice a53 I c53) I (raw.take I) (by simp [Act.eval]) hown (some ⟨x52, 0, none⟩) [((a4, L, c4), (some ⟨g5, 0, none⟩, 1, 1))] 1 1 (by simp [Act.eval]) rfl hlit (by simp) (by omega) (by unfold maxLen; omega) HSL53.out.gr.size ?_
                  intro v7 w7 ho7 hg7 hw7
                  obtain ⟨a7, c7, rfl⟩ := sown_slice ho7
                  have HG7 : Hid (w10.grownBy w7 none) := gb_trans HSL53.out.gr hg7 (fun k hk => .inl (SOwn.block hown k hk).1)
                  have HO7 : Hid (SOwn serE 49 w7 w10.heap.size (.slice a7 (I + 1) c7) (I + 1) (raw.take I ++ [((a4, L, c4), (some ⟨g5, 0, none⟩, 1, 1))])) := ho7
                  refine hK.out _ _ (gb_any HG7.out _) (fun hHeld => ?_)
                  clear hK K ho7 hg7 hw7 hown hlit HSL53
                  (try simp only [Act.put]); (try simp only [List.setIfInBounds_toArray]); (try simp only [List.set_cons_succ]); (try simp only [List.set_cons_zero])
                  refine wpAnyH_ready (rs := [13]) (by kernel_rfl) (by simp) (AllReadyH.cons (i := 13) rfl (fun K hK => ?_) AllReadyH.nil)
                  refine step_append_s serT rfl (.tmp 75) (.tmp 76) rfl w10.heap.size (.slice a7 (I + 1) c7) (I + 1) (raw.take I ++ [((a4, L, c4), (some ⟨g5, 0, none⟩, 1, 1))]) (by simp [Act.eval]) HO7.out ra (raw.drop I) (M - I) rc (by simp [Act.eval]) HDL.out (HRR.out.grown HG7.out (by simp)) HRN.out (by omega) (by unfold maxLen; omega) HG7.out.size ?_
                  intro v8 w8 ho8 hg8 hw8
                  obtain ⟨a8, c8, rfl⟩ := sown_slice ho8
                  have HG8 : Hid (w10.grownBy w8 none) := gb_trans HG7.out hg8 (fun k hk => .inl (SOwn.block HO7.out k hk).1)
                  rw [List.append_assoc, List.singleton_append, hcnt] at ho8
                  rw [hcnt]
                  obtain ⟨z1, f1, hdone⟩ := HFIN.out a8 c8 w8 HG8.out ho8
                  have HDN : Hid (∃ R', RefAt (w8.setCell ⟨rb, 1, none⟩ (.slice a8 (M + 1) c8)) base rb lim (addR lim S ls T V) R' ∧ Step w (w8.setCell ⟨rb, 1, none⟩ (.slice a8 (M + 1) c8)) R R') := hdone
                  refine hK.out _ _ (gb_any HG8.out _) (fun hHeld => ?_)
                  clear hK K ho8 hg8 hw8 hdone
                  (try simp only [Act.put]); (try simp only [List.setIfInBounds_toArray]); (try simp only [List.set_cons_succ]); (try simp only [List.set_cons_zero])
                  refine wpAnyH_take (i := 14) (v := .pointer (some ⟨rb, 0, none⟩)) rfl (by kernel_rfl) (by kernel_rfl) (by kernel_rfl) (fun _ _ _ h => h) (Or.inl ⟨by rfl, fun w hSw => ?_⟩) (by assumption) ?_
                  · go_simp
                  (try simp only [Act.put]); (try simp only [List.setIfInBounds_toArray]); (try simp only [List.set_cons_succ]); (try simp only [List.set_cons_zero])
                  refine wpAnyH_take (i := 15) (v := .pointer (some ⟨rb, 1, none⟩)) rfl (by kernel_rfl) (by kernel_rfl) (by kernel_rfl) (fun _ _ _ h => h) (Or.inl ⟨by rfl, fun w hSw => ?_⟩) (by assumption) ?_
                  · go_simp
                  (try simp only [Act.put]); (try simp only [List.setIfInBounds_toArray]); (try simp only [List.set_cons_succ]); (try simp only [List.set_cons_zero])
                  refine wpAnyH_ready (rs := [16]) (by kernel_rfl) (by simp) (AllReadyH.cons (i := 16) rfl (fun K hK => ?_) AllReadyH.nil)
                  go_simp
                  refine hK.out _ _ (gb_trans (gb_any HG8.out _) (gb_set rfl) (fun k hk => .inr hk)) (fun hHeld => ?_)
                  clear hK K
                  refine wpAnyH_done (by kernel_rfl) ?_ _
                  go_wp2
                  go_ret
                  exact HQ.out _ _ ⟨rfl, HDN.out⟩
          · go_simp
            have HSL55 : Hid (St11 w10 (W47.alloc (.cells #[.slice a4 L c4, .slice (some ⟨g5, 0, none⟩) 1 1] 49)) I (raw.take I) ((a4, L, c4), (some ⟨g5, 0, none⟩, 1, 1)) (some g47) none (some (W47.heap.size))) := HSL47.out.one
            refine hK.out _ _ (gb_any HSL55.out.gr _) (fun hHeld => ?_)
            clear hK K
            generalize W47.alloc (.cells #[.slice a4 L c4, .slice (some ⟨g5, 0, none⟩) 1 1] 49) = W55 at HSL55 hHeld ⊢
            generalize W47.heap.size = x55 at HSL55 ⊢
            clear HSL47
            refine wpAnyH_ready (rs := [5]) (by kernel_rfl) (by simp) (AllReadyH.cons (i := 5) rfl (fun K hK => ?_) AllReadyH.nil)
            · have z9 := HSL55.out.gr.cell e10 (by simp)
              go_simp
              refine hK.out _ _ (gb_any HSL55.out.gr _) (fun hHeld => ?_)
              clear hK K z9
              (try simp only [Act.put]); (try simp only [List.setIfInBounds_toArray]); (try simp only [List.set_cons_succ]); (try simp only [List.set_cons_zero])
              refine wpAnyH_take (i := 7) (v := .slice a I c) rfl (by kernel_rfl) (by kernel_rfl) (by kernel_rfl) (fun _ _ _ h => h) (Or.inl ⟨by rfl, fun w hSw => ?_⟩) (by assumption) ?_
              · have z9 := hsh w; clear hSw; go_simp
              (try simp only [Act.put]); (try simp only [List.setIfInBounds_toArray]); (try simp only [List.set_cons_succ]); (try simp only [List.set_cons_zero])
              refine wpAnyH_ready (rs := [8]) (by kernel_rfl) (by simp) (AllReadyH.cons (i := 8) rfl (fun K hK => ?_) AllReadyH.nil)
              · refine step_append_s serT rfl (.tmp 65) (.tmp 71) rfl w10.heap.size (.slice (some ⟨g47, 0, none⟩) 0 0) 0 [] (by simp [Act.eval]) HSL55.out.own0 a (raw.take I) I c (by simp [Act.eval]) HTL.out (HRT.out.grown HSL55.out.gr (by simp)) HAN.out (by omega) (by unfold maxLen; omega) HSL55.out.gr.size ?_
                intro v57 W57 ho hg hw
                rw [List.nil_append, Nat.zero_add] at ho
                obtain ⟨a57, c57, rfl⟩ := sown_slice ho
                try rw [Nat.zero_add]
                have HSL57 : Hid (St11 w10 W57 I (raw.take I) ((a4, L, c4), (some ⟨g5, 0, none⟩, 1, 1)) none (some (a57, c57)) (some x55)) := HSL55.out.app ho hg hw
                refine hK.out _ _ (gb_any HSL57.out.gr _) (fun hHeld => ?_)
                clear hK K ho hg hw
                (try simp only [Act.put]); (try simp only [List.setIfInBounds_toArray]); (try simp only [List.set_cons_succ]); (try simp only [List.set_cons_zero])
                clear HSL55
                refine wpAnyH_ready (rs := [11]) (by kernel_rfl) (by simp) (AllReadyH.cons (i := 11) rfl (fun K hK => ?_) AllReadyH.nil)
                · have hown : SOwn serE 49 W57 w10.heap.size (.slice a57 I c57) I (raw.take I) := HSL57.out.own _ rfl
                  have hlit := (HSL57.out.lit _ rfl).1
                  refine step_append_s serT rfl (.tmp 72) (.tmp 74) rfl w10.heap.size (.slice a57 I c57) I (raw.take I) (by simp [Act.eval]) hown (some ⟨x55, 0, none⟩) [((a4, L, c4), (some ⟨g5, 0, none⟩, 1, 1))] 1 1 (by simp [Act.eval]) rfl hlit (by simp) (by omega) (by unfold maxLen; omega) HSL57.out.gr.size ?_
                  intro v7 w7 ho7 hg7 hw7
                  obtain ⟨a7, c7, rfl⟩ := sown_slice ho7
                  have HG7 : Hid (w10.grownBy w7 none) := gb_trans HSL57.out.gr hg7 (fun k hk => .inl (SOwn.block hown k hk).1)
                  have HO7 : Hid (SOwn serE 49 w7 w10.heap.size (.slice a7 (I + 1) c7) (I + 1) (raw.take I ++ [((a4, L, c4), (some ⟨g5, 0, none⟩, 1, 1))])) := ho7
                  refine hK.out _ _ (gb_any HG7.out _) (fun hHeld => ?_)
                  clear hK K ho7 hg7 hw7 hown hlit HSL57
                  (try simp only [Act.put]); (try simp only [List.setIfInBounds_toArray]); (try simp only [List.set_cons_succ]); (try simp only [List.set_cons_zero])
                  refine wpAnyH_ready (rs := [13]) (by kernel_rfl) (by simp) (AllReadyH.cons (i := 13) rfl (fun K hK => ?_) AllReadyH.nil)
                  refine step_append_s serT rfl (.tmp 75) (.tmp 76) rfl w10.heap.size (.slice a7 (I + 1) c7) (I + 1) (raw.take I ++ [((a4, L, c4), (some ⟨g5, 0, none⟩, 1, 1))]) (by simp [Act.eval]) HO7.out ra (raw.drop I) (M - I) rc (by simp [Act.eval]) HDL.out (HRR.out.grown HG7.out (by simp)) HRN.out (by omega) (by unfold maxLen; omega) HG7.out.size ?_
                  intro v8 w8 ho8 hg8 hw8
                  obtain ⟨a8, c8, rfl⟩ := sown_slice ho8
                  have HG8 : Hid (w10.grownBy w8 none) := gb_trans HG7.out hg8 (fun k hk => .inl (SOwn.block HO7.out k hk).1)
                  rw [List.append_assoc, List.singleton_append, hcnt] at ho8
                  rw [hcnt]
                  obtain ⟨z1, f1, hdone⟩ := HFIN.out a8 c8 w8 HG8.out ho8
                  have HDN : Hid (∃ R', RefAt (w8.setCell ⟨rb, 1, none⟩ (.slice a8 (M + 1) c8)) base rb lim (addR lim S ls T V) R' ∧ Step w (w8.setCell ⟨rb, 1, none⟩ (.slice a8 (M + 1) c8)) R R') := hdone
                  refine hK.out _ _ (gb_any HG8.out _) (fun hHeld => ?_)
                  clear hK K ho8 hg8 hw8 hdone
                  (try simp only [Act.put]); (try simp only [List.setIfInBounds_toArray]); (try simp only [List.set_cons_succ]); (try simp only [List.set_cons_zero])
                  refine wpAnyH_take (i := 14) (v := .pointer (some ⟨rb, 0, none⟩)) rfl (by kernel_rfl) (by kernel_rfl) (by kernel_rfl) (fun _ _ _ h => h) (Or.inl ⟨by rfl, fun w hSw => ?_⟩) (by assumption) ?_
                  · go_simp
                  (try simp only [Act.put]); (try simp only [List.setIfInBounds_toArray]); (try simp only [List.set_cons_succ]); (try simp only [List.set_cons_zero])
                  refine wpAnyH_take (i := 15) (v := .pointer (some ⟨rb, 1, none⟩)) rfl (by kernel_rfl) (by kernel_rfl) (by kernel_rfl) (fun _ _ _ h => h) (Or.inl ⟨by rfl, fun w hSw => ?_⟩) (by assumption) ?_
                  · go_simp
                  (try simp only [Act.put]); (try simp only [List.setIfInBounds_toArray]); (try simp only [List.set_cons_succ]); (try simp only [List.set_cons_zero])
                  refine wpAnyH_ready (rs := [16]) (by kernel_rfl) (by simp) (AllReadyH.cons (i := 16) rfl (fun K hK => ?_) AllReadyH.nil)
                  go_simp
                  refine hK.out _ _ (gb_trans (gb_any HG8.out _) (gb_set rfl) (fun k hk => .inr hk)) (fun hHeld => ?_)
                  clear hK K
                  refine wpAnyH_done (by kernel_rfl) ?_ _
                  go_wp2
                  go_ret
                  exact HQ.out _ _ ⟨rfl, HDN.out⟩
        · have z9 := HSL0.out.gr.cell e10 (by simp)
          go_simp
          refine hK.out _ _ (gb_any HSL0.out.gr _) (fun hHeld => ?_)
          clear hK K z9
          (try simp only [Act.put]); (try simp only [List.setIfInBounds_toArray]); (try simp only [List.set_cons_succ]); (try simp only [List.set_cons_zero])
          refine wpAnyH_take (i := 7) (v := .slice a I c) rfl (by kernel_rfl) (by kernel_rfl) (by kernel_rfl) (fun _ _ _ h => h) (Or.inl ⟨by rfl, fun w hSw => ?_⟩) (by assumption) ?_
          · have z9 := hsh w; clear hSw; go_simp
          (try simp only [Act.put]); (try simp only [List.setIfInBounds_toArray]); (try simp only [List.set_cons_succ]); (try simp only [List.set_cons_zero])
          refine wpAnyH_ready (rs := [1, 10]) (by kernel_rfl) (by simp) (AllReadyH.cons (i := 1) rfl (fun K hK => ?_) (AllReadyH.cons (i := 10) rfl (fun K hK => ?_) AllReadyH.nil))
          · go_simp
            have HSL60 : Hid (St11 w10 (W0.alloc (.cells #[] 49)) I (raw.take I) ((a4, L, c4), (some ⟨g5, 0, none⟩, 1, 1)) (some (W0.heap.size)) none none) := HSL0.out.empty rfl
            refine hK.out _ _ (gb_any HSL60.out.gr _) (fun hHeld => ?_)
            clear hK K
            generalize W0.alloc (.cells #[] 49) = W60 at HSL60 hHeld ⊢
            generalize W0.heap.size = g60 at HSL60 ⊢
            clear HSL0
            refine wpAnyH_ready (rs := [8, 10]) (by kernel_rfl) (by simp) (AllReadyH.cons (i := 8) rfl (fun K hK => ?_) (AllReadyH.cons (i := 10) rfl (fun K hK => ?_) AllReadyH.nil))
            · refine step_append_s serT rfl (.tmp 65) (.tmp 71) rfl w10.heap.size (.slice (some ⟨g60, 0, none⟩) 0 0) 0 [] (by simp [Act.eval]) HSL60.out.own0 a (raw.take I) I c (by simp [Act.eval]) HTL.out (HRT.out.grown HSL60.out.gr (by simp)) HAN.out (by omega) (by unfold maxLen; omega) HSL60.out.gr.size ?_
              intro v61 W61 ho hg hw
              rw [List.nil_append, Nat.zero_add] at ho
              obtain ⟨a61, c61, rfl⟩ := sown_slice ho
              try rw [Nat.zero_add]
              have HSL61 : Hid (St11 w10 W61 I (raw.take I) ((a4, L, c4), (some ⟨g5, 0, none⟩, 1, 1)) none (some (a61, c61)) none) := HSL60.out.app ho hg hw
              refine hK.out _ _ (gb_any HSL61.out.gr _) (fun hHeld => ?_)
              clear hK K ho hg hw
              (try simp only [Act.put]); (try simp only [List.setIfInBounds_toArray]); (try simp only [List.set_cons_succ]); (try simp only [List.set_cons_zero])
              clear HSL60
              refine wpAnyH_ready (rs := [10]) (by kernel_rfl) (by simp) (AllReadyH.cons (i := 10) rfl (fun K hK => ?_) AllReadyH.nil)
              · go_simp
                have HSL62 : Hid (St11 w10 (W61.alloc (.cells #[.slice a4 L c4, .slice (some ⟨g5, 0, none⟩) 1 1] 49)) I (raw.take I) ((a4, L, c4), (some ⟨g5, 0, none⟩, 1, 1)) none (some (a61, c61)) (some (W61.heap.size))) := HSL61.out.one
                refine hK.out _ _ (gb_any HSL62.out.gr _) (fun hHeld => ?_)
                clear hK K
                generalize W61.alloc (.cells #[.slice a4 L c4, .slice (some ⟨g5, 0, none⟩) 1 1] 49) = W62 at HSL62 hHeld ⊢
                generalize W61.heap.size = x62 at HSL62 ⊢
                clear HSL61
                refine wpAnyH_ready (rs := [11]) (by kernel_rfl) (by simp) (AllReadyH.cons (i := 11) rfl (fun K hK => ?_) AllReadyH.nil)
                · have hown : SOwn serE 49 W62 w10.heap.size (.slice a61 I c61) I (raw.take I) := HSL62.out.own _ rfl
                  have hlit := (HSL62.out.lit _ rfl).1
                  refine step_append_s serT rfl (.tmp 72) (.tmp 74) rfl w10.heap.size (.slice a61 I c61) I (raw.take I) (by simp [Act.eval]) hown (some ⟨x62, 0, none⟩) [((a4, L, c4), (some ⟨g5, 0, none⟩, 1, 1))] 1 1 (by simp [Act.eval]) rfl hlit (by simp) (by omega) (by unfold maxLen; omega) HSL62.out.gr.size ?_
                  intro v7 w7 ho7 hg7 hw7
                  obtain ⟨a7, c7, rfl⟩ := sown_slice ho7
                  have HG7 : Hid (w10.grownBy w7 none) := gb_trans HSL62.out.gr hg7 (fun k hk => .inl (SOwn.block hown k hk).1)
                  have HO7 : Hid (SOwn serE 49 w7 w10.heap.size (.slice a7 (I + 1) c7) (I + 1) (raw.take I ++ [((a4, L, c4), (some ⟨g5, 0, none⟩, 1, 1))])) := ho7
                  refine hK.out _ _ (gb_any HG7.out _) (fun hHeld => ?_)
                  clear hK K ho7 hg7 hw7 hown hlit HSL62
                  (try simp only [Act.put]); (try simp only [List.setIfInBounds_toArray]); (try simp only [List.set_cons_succ]); (try simp only [List.set_cons_zero])
                  refine wpAnyH_ready (rs := [13]) (by kernel_rfl) (by simp) (AllReadyH.cons (i := 13) rfl (fun K hK => ?_) AllReadyH.nil)
                  refine step_append_s serT rfl (.tmp 75) (.tmp 76) rfl w10.heap.size (.slice a7 (I + 1) c7) (I + 1) (raw.take I ++ [((a4, L, c4), (some ⟨g5, 0, none⟩, 1, 1))]) (by simp [Act.eval]) HO7.out ra (raw.drop I) (M - I) rc (by simp [Act.eval]) HDL.out (HRR.out.grown HG7.out (by simp)) HRN.out (by omega) (by unfold maxLen; omega) HG7.out.size ?_
                  intro v8 w8 ho8 hg8 hw8
                  obtain ⟨a8, c8, rfl⟩ := sown_slice ho8
                  have HG8 : Hid (w10.grownBy w8 none) := gb_trans HG7.out hg8 (fun k hk => .inl (SOwn.block HO7.out k hk).1)
                  rw [List.append_assoc, List.singleton_append, hcnt] at ho8
                  rw [hcnt]
                  obtain ⟨z1, f1, hdone⟩ := HFIN.out a8 c8 w8 HG8.out ho8
                  have HDN : Hid (∃ R', RefAt (w8.setCell ⟨rb, 1, none⟩ (.slice a8 (M + 1) c8)) base rb lim (addR lim S ls T V) R' ∧ Step w (w8.setCell ⟨rb, 1, none⟩ (.slice a8 (M + 1) c8)) R R') := hdone
                  refine hK.out _ _ (gb_any HG8.out _) (fun hHeld => ?_)
                  clear hK K ho8 hg8 hw8 hdone
                  (try simp only [Act.put]); (try simp only [List.setIfInBounds_toArray]); (try simp only [List.set_cons_succ]); (try simp only [List.set_cons_zero])
                  refine wpAnyH_take (i := 14) (v := .pointer (some ⟨rb, 0, none⟩)) rfl (by kernel_rfl) (by kernel_rfl) (by kernel_rfl) (fun _ _ _ h => h) (Or.inl ⟨by rfl, fun w hSw => ?_⟩) (by assumption) ?_
                  · go_simp
                  (try simp only [Act.put]); (try simp only [List.setIfInBounds_toArray]); (try simp only [List.set_cons_succ]); (try simp only [List.set_cons_zero])
                  refine wpAnyH_take (i := 15) (v := .pointer (some ⟨rb, 1, none⟩)) rfl (by kernel_rfl) (by kernel_rfl) (by kernel_rfl) (fun _ _ _ h => h) (Or.inl ⟨by rfl, fun w hSw => ?_⟩) (by assumption) ?_
                  · go_simp
                  (try simp only [Act.put]); (try simp only [List.setIfInBounds_toArray]); (try simp only [List.set_cons_succ]); (try simp only [List.set_cons_zero])
                  refine wpAnyH_ready (rs := [16]) (by kernel_rfl) (by simp) (AllReadyH.cons (i := 16) rfl (fun K hK => ?_) AllReadyH.nil)
                  go_simp
                  refine hK.out _ _ (gb_trans (gb_any HG8.out _) (gb_set rfl) (fun k hk => .inr hk)) (fun hHeld => ?_)
                  clear hK K
                  refine wpAnyH_done (by kernel_rfl) ?_ _
                  go_wp2
                  go_ret
                  exact HQ.out _ _ ⟨rfl, HDN.out⟩
            · go_simp
              have HSL64 : Hid (St11 w10 (W60.alloc (.cells #[.slice a4 L c4, .slice (some ⟨g5, 0, none⟩) 1 1] 49)) I (raw.take I) ((a4, L, c4), (some ⟨g5, 0, none⟩, 1, 1)) (some g60) none (some (W60.heap.size))) := HSL60.out.one
              refine hK.out _ _ (gb_any HSL64.out.gr _) (fun hHeld => ?_)
              clear hK K
              generalize W60.alloc (.cells #[.slice a4 L c4, .slice (some ⟨g5, 0, none⟩) 1 1] 49) = W64 at HSL64 hHeld ⊢
              generalize W60.heap.size = x64 at HSL64 ⊢
              clear HSL60
              refine wpAnyH_ready (rs := [8]) (by kernel_rfl) (by simp) (AllReadyH.cons (i := 8) rfl (fun K hK => ?_) AllReadyH.nil)
              · refine step_append_s serT rfl (.tmp 65) (.tmp 71) rfl w10.heap.size (.slice (some ⟨g60, 0, none⟩) 0 0) 0 [] (by simp [Act.eval]) HSL64.out.own0 a (raw.take I) I c (by simp [Act.eval]) HTL.out (HRT.out.grown HSL64.out.gr (by simp)) HAN.out (by omega) (by unfold maxLen; omega) HSL64.out.gr.size ?_
                intro v65 W65 ho hg hw
                rw [List.nil_append, Nat.zero_add] at ho
                obtain ⟨a65, c65, rfl⟩ := sown_slice ho
                try rw [Nat.zero_add]
                have HSL65 : Hid (St11 w10 W65 I (raw.take I) ((a4, L, c4), (some ⟨g5, 0, none⟩, 1, 1)) none (some (a65, c65)) (some x64)) := HSL64.out.app ho hg hw
                refine hK.out _ _ (gb_any HSL65.out.gr _) (fun hHeld => ?_)
                clear hK K ho hg hw
                (try simp only [Act.put]); (try simp only [List.setIfInBounds_toArray]); (try simp only [List.set_cons_succ]); (try simp only [List.set_cons_zero])
                clear HSL64
                refine wpAnyH_ready (rs := [11]) (by kernel_rfl) (by simp) (AllReadyH.cons (i := 11) rfl (fun K hK => ?_) AllReadyH.nil)
                · have hown : SOwn serE 49 W65 w10.heap.size (.slice a65 I c65) I (raw.take I) := HSL65.out.own _ rfl
                  have hlit := (HSL65.out.lit _ rfl).1
                  refine step_append_s serT rfl (.tmp 72) (.tmp 74) rfl w10.heap.size (.slice a65 I c65) I (raw.take I) (by simp [Act.eval]) hown (some ⟨x64, 0, none⟩) [((a4, L, c4), (some ⟨g5, 0, none⟩, 1, 1))] 1 1 (by simp [Act.eval]) rfl hlit (by simp) (by omega) (by unfold maxLen; omega) HSL65.out.gr.size ?_
                  intro v7 w7 ho7 hg7 hw7
                  obtain ⟨a7, c7, rfl⟩ := sown_slice ho7
                  have HG7 : Hid (w10.grownBy w7 none) := gb_trans HSL65.out.gr hg7 (fun k hk => .inl (SOwn.block hown k hk).1)
                  have HO7 : Hid (SOwn serE 49 w7 w10.heap.size (.slice a7 (I + 1) c7) (I + 1) (raw.take I ++ [((a4, L, c4), (some ⟨g5, 0, none⟩, 1, 1))])) := ho7
                  refine hK.out _ _ (gb_any HG7.out _) (fun hHeld => ?_)
                  clear hK K ho7 hg7 hw7 hown hlit HSL65
                  (try simp only [Act.put]); (try simp only [List.setIfInBounds_toArray]); (try simp only [List.set_cons_succ]); (try simp only [List.set_cons_zero])
                  refine wpAnyH_ready (rs := [13]) (by kernel_rfl) (by simp) (AllReadyH.cons (i := 13) rfl (fun K hK => ?_) AllReadyH.nil)
                  refine step_append_s serT rfl (.tmp 75) (.tmp 76) rfl w10.heap.size (.slice a7 (I + 1) c7) (I + 1) (raw.take I ++ [((a4, L, c4), (some ⟨g5, 0, none⟩, 1, 1))]) (by simp [Act.eval]) HO7.out ra (raw.drop I) (M - I) rc (by simp [Act.eval]) HDL.out (HRR.out.grown HG7.out (by simp)) HRN.out (by omega) (by unfold maxLen; omega) HG7.out.size ?_
                  intro v8 w8 ho8 hg8 hw8
                  obtain ⟨a8, c8, rfl⟩ := sown_slice ho8
                  have HG8 : Hid (w10.grownBy w8 none) := gb_trans HG7.out hg8 (fun k hk => .inl (SOwn.block HO7.out k hk).1)
                  rw [List.append_assoc, List.singleton_append, hcnt] at ho8
                  rw [hcnt]
                  obtain ⟨z1, f1, hdone⟩ := HFIN.out a8 c8 w8 HG8.out ho8
                  have HDN : Hid (∃ R', RefAt (w8.setCell ⟨rb, 1, none⟩ (.slice a8 (M + 1) c8)) base rb lim (addR lim S ls T V) R' ∧ Step w (w8.setCell ⟨rb, 1, none⟩ (.slice a8 (M + 1) c8)) R R') := hdone
                  refine hK.out _ _ (gb_any HG8.out _) (fun hHeld => ?_)
                  clear hK K ho8 hg8 hw8 hdone
                  (try simp only [Act.put]); (try simp only [List.setIfInBounds_toArray]); (try simp only [List.set_cons_succ]); (try simp only [List.set_cons_zero])
                  refine wpAnyH_take (i := 14) (v := .pointer (some ⟨rb, 0, none⟩)) rfl (by kernel_rfl) (by kernel_rfl) (by kernel_rfl) (fun _ _ _ h => h) (Or.inl ⟨by rfl, fun w hSw => ?_⟩) (by assumption) ?_
                  · go_simp
                  (try simp only [Act.put]); (try simp only [List.setIfInBounds_toArray]); (try simp only [List.set_cons_succ]); (try simp only [List.set_cons_zero])
                  refine wpAnyH_take (i := 15) (v := .pointer (some ⟨rb, 1, none⟩)) rfl (by kernel_rfl) (by kernel_rfl) (by kernel_rfl) (fun _ _ _ h => h) (Or.inl ⟨by rfl, fun w hSw => ?_⟩) (by assumption) ?_
                  · go_simp
                  (try simp only [Act.put]); (try simp only [List.setIfInBounds_toArray]); (try simp only [List.set_cons_succ]); (try simp only [List.set_cons_zero])
                  refine wpAnyH_ready (rs := [16]) (by kernel_rfl) (by simp) (AllReadyH.cons (i := 16) rfl (fun K hK => ?_) AllReadyH.nil)
                  go_simp
                  refine hK.out _ _ (gb_trans (gb_any HG8.out _) (gb_set rfl) (fun k hk => .inr hk)) (fun hHeld => ?_)
                  clear hK K
                  refine wpAnyH_done (by kernel_rfl) ?_ _
                  go_wp2
                  go_ret
                  exact HQ.out _ _ ⟨rfl, HDN.out⟩
          · go_simp
            have HSL67 : Hid (St11 w10 (W0.alloc (.cells #[.slice a4 L c4, .slice (some ⟨g5, 0, none⟩) 1 1] 49)) I (raw.take I) ((a4, L, c4), (some ⟨g5, 0, none⟩, 1, 1)) none none (some (W0.heap.size))) := HSL0.out.one
            refine hK.out _ _ (gb_any HSL67.out.gr _) (fun hHeld => ?_)
            clear hK K
            generalize W0.alloc (.cells #[.slice a4 L c4, .slice (some ⟨g5, 0, none⟩) 1 1] 49) = W67 at HSL67 hHeld ⊢
            generalize W0.heap.size = x67 at HSL67 ⊢
            clear HSL0
            refine wpAnyH_ready (rs := [1]) (by kernel_rfl) (by simp) (AllReadyH.cons (i := 1) rfl (fun K hK => ?_) AllReadyH.nil)
            · go_simp
              have HSL68 : Hid (St11 w10 (W67.alloc (.cells #[] 49)) I (raw.take I) ((a4, L, c4), (some ⟨g5, 0, none⟩, 1, 1)) (some (W67.heap.size)) none (some x67)) := HSL67.out.empty rfl
              refine hK.out _ _ (gb_any HSL68.out.gr _) (fun hHeld => ?_)
              clear hK K
              generalize W67.alloc (.cells #[] 49) = W68 at HSL68 hHeld ⊢
              generalize W67.heap.size = g68 at HSL68 ⊢
              clear HSL67
              refine wpAnyH_ready (rs := [8]) (by kernel_rfl) (by simp) (AllReadyH.cons (i := 8) rfl (fun K hK => ?_) AllReadyH.nil)
              · refine step_append_s serT rfl (.tmp 65) (.tmp 71) rfl w10.heap.size (.slice (some ⟨g68, 0, none⟩) 0 0) 0 [] (by simp [Act.eval]) HSL68.out.own0 a (raw.take I) I c (by simp [Act.eval]) HTL.out (HRT.out.grown HSL68.out.gr (by simp)) HAN.out (by omega) (by unfold maxLen; omega) HSL68.out.gr.size ?_
                intro v69 W69 ho hg hw
                rw [List.nil_append, Nat.zero_add] at ho
                obtain ⟨a69, c69, rfl⟩ := sown_slice ho
                try rw [Nat.zero_add]
                have HSL69 : Hid (St11 w10 W69 I (raw.take I) ((a4, L, c4), (some ⟨g5, 0, none⟩, 1, 1)) none (some (a69, c69)) (some x67)) := HSL68.out.app ho hg hw
                refine hK.out _ _ (gb_any HSL69.out.gr _) (fun hHeld => ?_)
                clear hK K ho hg hw
                (try simp only [Act.put]); (try simp only [List.setIfInBounds_toArray]); (try simp only [List.set_cons_succ]); (try simp only [List.set_cons_zero])
                clear HSL68
                refine wpAnyH_ready (rs := [11]) (by kernel_rfl) (by simp) (AllReadyH.cons (i := 11) rfl (fun K hK => ?_) AllReadyH.nil)
                · have hown : SOwn serE 49 W69 w10.heap.size (.slice a69 I c69) I (raw.take I) := HSL69.out.own _ rfl
                  have hlit := (HSL69.out.lit _ rfl).1
                  refine step_append_s serT rfl (.tmp 72) (.tmp 74) rfl w10.heap.size (.slice a69 I c69) I (raw.take I) (by simp [Act.eval]) hown (some ⟨x67, 0, none⟩) [((a4, L, c4), (some ⟨g5, 0, none⟩, 1, 1))] 1 1 (by simp [Act.eval]) rfl hlit (by simp) (by omega) (by unfold maxLen; omega) HSL69.out.gr.size ?_
                  intro v7 w7 ho7 hg7 hw7
                  obtain ⟨a7, c7, rfl⟩ := sown_slice ho7
                  have HG7 : Hid (w10.grownBy w7 none) := gb_trans HSL69.out.gr hg7 (fun k hk => .inl (SOwn.block hown k hk).1)
                  have HO7 : Hid (SOwn serE 49 w7 w10.heap.size (.slice a7 (I + 1) c7) (I + 1) (raw.take I ++ [((a4, L, c4), (some ⟨g5, 0, none⟩, 1, 1))])) := ho7
                  refine hK.out _ _ (gb_any HG7.out _) (fun hHeld => ?_)
                  clear hK K ho7 hg7 hw7 hown hlit HSL69
                  (try simp only [Act.put]); (try simp only [List.setIfInBounds_toArray]); (try simp only [List.set_cons_succ]); (try simp only [List.set_cons_zero])
                  refine wpAnyH_ready (rs := [13]) (by kernel_rfl) (by simp) (AllReadyH.cons (i := 13) rfl (fun K hK => ?_) AllReadyH.nil)
                  refine step_append_s serT rfl (.tmp 75) (.tmp 76) rfl w10.heap.size (.slice a7 (I + 1) c7) (I + 1) (raw.take I ++ [((a4, L, c4), (some ⟨g5, 0, none⟩, 1, 1))]) (by simp [Act.eval]) HO7.out ra (raw.drop I) (M - I) rc (by simp [Act.eval]) HDL.out (HRR.out.grown HG7.out (by simp)) HRN.out (by omega) (by unfold maxLen; omega) HG7.out.size ?_
                  intro v8 w8 ho8 hg8 hw8
                  obtain ⟨a8, c8, rfl⟩ := sown_slice ho8
                  have HG8 : Hid (w10.grownBy w8 none) := gb_trans HG7.out hg8 (fun k hk => .inl (SOwn.block HO7.out k hk).1)
                  rw [List.append_assoc, List.singleton_append, hcnt] at ho8
                  rw [hcnt]
                  obtain ⟨z1, f1, hdone⟩ := HFIN.out a8 c8 w8 HG8.out ho8
                  have HDN : Hid (∃ R', RefAt (w8.setCell ⟨rb, 1, none⟩ (.slice a8 (M + 1) c8)) base rb lim (addR lim S ls T V) R' ∧ Step w (w8.setCell ⟨rb, 1, none⟩ (.slice a8 (M + 1) c8)) R R') := hdone
                  refine hK.out _ _ (gb_any HG8.out _) (fun hHeld => ?_)
                  clear hK K ho8 hg8 hw8 hdone
                  (try simp only [Act.put]); (try simp only [List.setIfInBounds_toArray]); (try simp only [List.set_cons_succ]); (try simp only [List.set_cons_zero])
                  refine wpAnyH_take (i := 14) (v := .pointer (some ⟨rb, 0, none⟩)) rfl (by kernel_rfl) (by kernel_rfl) (by kernel_rfl) (fun _ _ _ h => h) (Or.inl ⟨by rfl, fun w hSw => ?_⟩) (by assumption) ?_
                  · go_simp
                  (try simp only [Act.put]); (try simp only [List.setIfInBounds_toArray]); (try simp only [List.set_cons_succ]); (try simp only [List.set_cons_zero])
                  refine wpAnyH_take (i := 15) (v := .pointer (some ⟨rb, 1, none⟩)) rfl (by kernel_rfl) (by kernel_rfl) (by kernel_rfl) (fun _ _ _ h => h) (Or.inl ⟨by rfl, fun w hSw => ?_⟩) (by assumption) ?_
                  · go_simp
                  (try simp only [Act.put]); (try simp only [List.setIfInBounds_toArray]); (try simp only [List.set_cons_succ]); (try simp only [List.set_cons_zero])
                  refine wpAnyH_ready (rs := [16]) (by kernel_rfl) (by simp) (AllReadyH.cons (i := 16) rfl (fun K hK => ?_) AllReadyH.nil)
                  go_simp
                  refine hK.out _ _ (gb_trans (gb_any HG8.out _) (gb_set rfl) (fun k hk => .inr hk)) (fun hHeld => ?_)
                  clear hK K
                  refine wpAnyH_done (by kernel_rfl) ?_ _
                  go_wp2
                  go_ret
                  exact HQ.out _ _ ⟨rfl, HDN.out⟩
        · go_simp
          have HSL71 : Hid (St11 w10 (W0.alloc (.cells #[.slice a4 L c4, .slice (some ⟨g5, 0, none⟩) 1 1] 49)) I (raw.take I) ((a4, L, c4), (some ⟨g5, 0, none⟩, 1, 1)) none none (some (W0.heap.size))) := HSL0.out.one
          refine hK.out _ _ (gb_any HSL71.out.gr _) (fun hHeld => ?_)
          clear hK K
          generalize W0.alloc (.cells #[.slice a4 L c4, .slice (some ⟨g5, 0, none⟩) 1 1] 49) = W71 at HSL71 hHeld ⊢
          generalize W0.heap.size = x71 at HSL71 ⊢
          clear HSL0
          refine wpAnyH_ready (rs := [1, 5]) (by kernel_rfl) (by simp) (AllReadyH.cons (i := 1) rfl (fun K hK => ?_) (AllReadyH.cons (i := 5) rfl (fun K hK => ?_) AllReadyH.nil))
          · go_simp
            have HSL72 : Hid (St11 w10 (W71.alloc (.cells #[] 49)) I (raw.take I) ((a4, L, c4), (some ⟨g5, 0, none⟩, 1, 1)) (some (W71.heap.size)) none (some x71)) := HSL71.out.empty rfl
            refine hK.out _ _ (gb_any HSL72.out.gr _) (fun hHeld => ?_)
            clear hK K
            generalize W71.alloc (.cells #[] 49) = W72 at HSL72 hHeld ⊢
            generalize W71.heap.size = g72 at HSL72 ⊢
            clear HSL71
            refine wpAnyH_ready (rs := [5]) (by kernel_rfl) (by simp) (AllReadyH.cons (i := 5) rfl (fun K hK => ?_) AllReadyH.nil)
            · have z9 := HSL72.out.gr.cell e10 (by simp)
              go_simp
              refine hK.out _ _ (gb_any HSL72.out.gr _) (fun hHeld => ?_)
              clear hK K z9
              (try simp only [Act.put]); (try simp only [List.setIfInBounds_toArray]); (try simp only [List.set_cons_succ]); (try simp only [List.set_cons_zero])
              refine wpAnyH_take (i := 7) (v := .slice a I c) rfl (by kernel_rfl) (by kernel_rfl) (by kernel_rfl) (fun _ _ _ h => h) (Or.inl ⟨by rfl, fun w hSw => ?_⟩) (by assumption) ?_
              · have z9 := hsh w; clear hSw; go_simp
              (try simp only [Act.put]); (try simp only [List.setIfInBounds_toArray]); (try simp only [List.set_cons_succ]); (try simp only [List.set_cons_zero])
              refine wpAnyH_ready (rs := [8]) (by kernel_rfl) (by simp) (AllReadyH.cons (i := 8) rfl (fun K hK => ?_) AllReadyH.nil)
              · refine step_append_s serT rfl (.tmp 65) (.tmp 71) rfl w10.heap.size (.slice (some ⟨g72, 0, none⟩) 0 0) 0 [] (by simp [Act.eval]) HSL72.out.own0 a (raw.take I) I c (by simp [Act.eval]) HTL.out (HRT.out.grown HSL72.out.gr (by simp)) HAN.out (by omega) (by unfold maxLen; omega) HSL72.out.gr.size ?_
                intro v74 W74 ho hg hw
                rw [List.nil_append, Nat.zero_add] at ho
                obtain ⟨a74, c74, rfl⟩ := sown_slice ho
                try rw [Nat.zero_add]
                have HSL74 : Hid (St11 w10 W74 I (raw.take I) ((a4, L, c4), (some ⟨g5, 0, none⟩, 1, 1)) none (some (a74, c74)) (some x71)) := HSL72.out.app ho hg hw
                refine hK.out _ _ (gb_any HSL74.out.gr _) (fun hHeld => ?_)
                clear hK K ho hg hw
                (try simp only [Act.put]); (try simp only [List.setIfInBounds_toArray]); (try simp only [List.set_cons_succ]); (try simp only [List.set_cons_zero])
                clear HSL72
                refine wpAnyH_ready (rs := [11]) (by kernel_rfl) (by simp) (AllReadyH.cons (i := 11) rfl (fun K hK => ?_) AllReadyH.nil)
                · have hown : SOwn serE 49 W74 w10.heap.size (.slice a74 I c74) I (raw.take I) := HSL74.out.own _ rfl
                  have hlit := (HSL74.out.lit _ rfl).1
                  refine step_append_s serT rfl (.tmp 72) (.tmp 74) rfl w10.heap.size (.slice a74 I c74) I (raw.take I) (by simp [Act.eval]) hown (some ⟨x71, 0, none⟩) [((a4, L, c4), (some ⟨g5, 0, none⟩, 1, 1))] 1 1 (by simp [Act.eval]) rfl hlit (by simp) (by omega) (by unfold maxLen; omega) HSL74.out.gr.size ?_
                  intro v7 w7 ho7 hg7 hw7
                  obtain ⟨a7, c7, rfl⟩ := sown_slice ho7
                  have HG7 : Hid (w10.grownBy w7 none) := gb_trans HSL74.out.gr hg7 (fun k hk => .inl (SOwn.block hown k hk).1)
                  have HO7 : Hid (SOwn serE 49 w7 w10.heap.size (.slice a7 (I + 1) c7) (I + 1) (raw.take I ++ [((a4, L, c4), (some ⟨g5, 0, none⟩, 1, 1))])) := ho7
                  refine hK.out _ _ (gb_any HG7.out _) (fun hHeld => ?_)
                  clear hK K ho7 hg7 hw7 hown hlit HSL74
                  (try simp only [Act.put]); (try simp only [List.setIfInBounds_toArray]); (try simp only [List.set_cons_succ]); (try simp only [List.set_cons_zero])
                  refine wpAnyH_ready (rs := [13]) (by kernel_rfl) (by simp) (AllReadyH.cons (i := 13) rfl (fun K hK => ?_) AllReadyH.nil)
                  refine step_append_s serT rfl (.tmp 75) (.tmp 76) rfl w10.heap.size (.slice a7 (I + 1) c7) (I + 1) (raw.take I ++ [((a4, L, c4), (some ⟨g5, 0, none⟩, 1, 1))]) (by simp [Act.eval]) HO7.out ra (raw.drop I) (M - I) rc (by simp [Act.eval]) HDL.out (HRR.out.grown HG7.out (by simp)) HRN.out (by omega) (by unfold maxLen; omega) HG7.out.size ?_
                  intro v8 w8 ho8 hg8 hw8
                  obtain ⟨a8, c8, rfl⟩ := sown_slice ho8
                  have HG8 : Hid (w10.grownBy w8 none) := gb_trans HG7.out hg8 (fun k hk => .inl (SOwn.block HO7.out k hk).1)
                  rw [List.append_assoc, List.singleton_append, hcnt] at ho8
                  rw [hcnt]
                  obtain ⟨z1, f1, hdone⟩ := HFIN.out a8 c8 w8 HG8.out ho8
                  have HDN : Hid (∃ R', RefAt (w8.setCell ⟨rb, 1, none⟩ (.slice a8 (M + 1) c8)) base rb lim (addR lim S ls T V) R' ∧ Step w (w8.setCell ⟨rb, 1, none⟩ (.slice a8 (M + 1) c8)) R R') := hdone
                  refine hK.out _ _ (gb_any HG8.out _) (fun hHeld => ?_)
                  clear hK K ho8 hg8 hw8 hdone
                  (try simp only [Act.put]); (try simp only [List.setIfInBounds_toArray]); (try simp only [List.set_cons_succ]); (try simp only [List.set_cons_zero])
                  refine wpAnyH_take (i := 14) (v := .pointer (some ⟨rb, 0, none⟩)) rfl (by kernel_rfl) (by kernel_rfl) (by kernel_rfl) (fun _ _ _ h => h) (Or.inl ⟨by rfl, fun w hSw => ?_⟩) (by assumption) ?_
                  · go_simp
                  (try simp only [Act.put]); (try simp only [List.setIfInBounds_toArray]); (try simp only [List.set_cons_succ]); (try simp only [List.set_cons_zero])
                  refine wpAnyH_take (i := 15) (v := .pointer (some ⟨rb, 1, none⟩)) rfl (by kernel_rfl) (by kernel_rfl) (by kernel_rfl) (fun _ _ _ h => h) (Or.inl ⟨by rfl, fun w hSw => ?_⟩) (by assumption) ?_
                  · go_simp
                  (try simp only [Act.put]); (try simp only [List.setIfInBounds_toArray]); (try simp only [List.set_cons_succ]); (try simp only [List.set_cons_zero])
                  refine wpAnyH_ready (rs := [16]) (by kernel_rfl) (by simp) (AllReadyH.cons (i := 16) rfl (fun K hK => ?_) AllReadyH.nil)
                  go_simp
                  refine hK.out _ _ (gb_trans (gb_any HG8.out _) (gb_set rfl) (fun k hk => .inr hk)) (fun hHeld => ?_)
                  clear hK K
                  refine wpAnyH_done (by kernel_rfl) ?_ _
                  go_wp2
                  go_ret
                  exact HQ.out _ _ ⟨rfl, HDN.out⟩
          · have z9 := HSL71.out.gr.cell e10 (by simp)
            go_simp
            refine hK.out _ _ (gb_any HSL71.out.gr _) (fun hHeld => ?_)
            clear hK K z9
            (try simp only [Act.put]); (try simp only [List.setIfInBounds_toArray]); (try simp only [List.set_cons_succ]); (try simp only [List.set_cons_zero])
            refine wpAnyH_take (i := 7) (v := .slice a I c) rfl (by kernel_rfl) (by kernel_rfl) (by kernel_rfl) (fun _ _ _ h => h) (Or.inl ⟨by rfl, fun w hSw => ?_⟩) (by assumption) ?_
            · have z9 := hsh w; clear hSw; go_simp
            (try simp only [Act.put]); (try simp only [List.setIfInBounds_toArray]); (try simp only [List.set_cons_succ]); (try simp only [List.set_cons_zero])
            refine wpAnyH_ready (rs := [1]) (by kernel_rfl) (by simp) (AllReadyH.cons (i := 1) rfl (fun K hK => ?_) AllReadyH.nil)
            · go_simp
              have HSL77 : Hid (St11 w10 (W71.alloc (.cells #[] 49)) I (raw.take I) ((a4, L, c4), (some ⟨g5, 0, none⟩, 1, 1)) (some (W71.heap.size)) none (some x71)) := HSL71.out.empty rfl
              refine hK.out _ _ (gb_any HSL77.out.gr _) (fun hHeld => ?_)
              clear hK K
              generalize W71.alloc (.cells #[] 49) = W77 at HSL77 hHeld ⊢
              generalize W71.heap.size = g77 at HSL77 ⊢
              clear HSL71
              refine wpAnyH_ready (rs := [8]) (by kernel_rfl) (by simp) (AllReadyH.cons (i := 8) rfl (fun K hK => ?_) AllReadyH.nil)
              · refine step_append_s serT rfl (.tmp 65) (.tmp 71) rfl w10.heap.size (.slice (some ⟨g77, 0, none⟩) 0 0) 0 [] (by simp [Act.eval]) HSL77.out.own0 a (raw.take I) I c (by simp [Act.eval]) HTL.out (HRT.out.grown HSL77.out.gr (by simp)) HAN.out (by omega) (by unfold maxLen; omega) HSL77.out.gr.size ?_
                intro v78 W78 ho hg hw
                rw [List.nil_append, Nat.zero_add] at ho
                obtain ⟨a78, c78, rfl⟩ := sown_slice ho
                try rw [Nat.zero_add]
                have HSL78 : Hid (St11 w10 W78 I (raw.take I) ((a4, L, c4), (some ⟨g5, 0, none⟩, 1, 1)) none (some (a78, c78)) (some x71)) := HSL77.out.app ho hg hw
                refine hK.out _ _ (gb_any HSL78.out.gr _) (fun hHeld => ?_)
                clear hK K ho hg hw
                (try simp only [Act.put]); (try simp only [List.setIfInBounds_toArray]); (try simp only [List.set_cons_succ]); (try simp only [List.set_cons_zero])
                clear HSL77
                refine wpAnyH_ready (rs := [11]) (by kernel_rfl) (by simp) (AllReadyH.cons (i := 11) rfl (fun K hK => ?_) AllReadyH.nil)
                · have hown : SOwn serE 49 W78 w10.heap.size (.slice a78 I c78) I (raw.take I) := HSL78.out.own _ rfl
                  have hlit := (HSL78.out.lit _ rfl).1
                  refine step_append_s serT rfl (.tmp 72) (.tmp 74) rfl w10.heap.size (.slice a78 I c78) I (raw.take I) (by simp [Act.eval]) hown (some ⟨x71, 0, none⟩) [((a4, L, c4), (some ⟨g5, 0, none⟩, 1, 1))] 1 1 (by simp [Act.eval]) rfl hlit (by simp) (by omega) (by unfold maxLen; omega) HSL78.out.gr.size ?_
                  intro v7 w7 ho7 hg7 hw7
                  obtain ⟨a7, c7, rfl⟩ := sown_slice ho7
                  have HG7 : Hid (w10.grownBy w7 none) := gb_trans HSL78.out.gr hg7 (fun k hk => .inl (SOwn.block hown k hk).1)
                  have HO7 : Hid (SOwn serE 49 w7 w10.heap.size (.slice a7 (I + 1) c7) (I + 1) (raw.take I ++ [((a4, L, c4), (some ⟨g5, 0, none⟩, 1, 1))])) := ho7
                  refine hK.out _ _ (gb_any HG7.out _) (fun hHeld => ?_)
                  clear hK K ho7 hg7 hw7 hown hlit HSL78
                  (try simp only [Act.put]); (try simp only [List.setIfInBounds_toArray]); (try simp only [List.set_cons_succ]); (try simp only [List.set_cons_zero])
                  refine wpAnyH_ready (rs := [13]) (by kernel_rfl) (by simp) (AllReadyH.cons (i := 13) rfl (fun K hK => ?_) AllReadyH.nil)
                  refine step_append_s serT rfl (.tmp 75) (.tmp 76) rfl w10.heap.size (.slice a7 (I + 1) c7) (I + 1) (raw.take I ++ [((a4, L, c4), (some ⟨g5, 0, none⟩, 1, 1))]) (by simp [Act.eval]) HO7.out ra (raw.drop I) (M - I) rc (by simp [Act.eval]) HDL.out (HRR.out.grown HG7.out (by simp)) HRN.out (by omega) (by unfold maxLen; omega) HG7.out.size ?_
                  intro v8 w8 ho8 hg8 hw8
                  obtain ⟨a8, c8, rfl⟩ := sown_slice ho8
                  have HG8 : Hid (w10.grownBy w8 none) := gb_trans HG7.out hg8 (fun k hk => .inl (SOwn.block HO7.out k hk).1)
                  rw [List.append_assoc, List.singleton_append, hcnt] at ho8
                  rw [hcnt]
                  obtain ⟨z1, f1, hdone⟩ := HFIN.out a8 c8 w8 HG8.out ho8
                  have HDN : Hid (∃ R', RefAt (w8.setCell ⟨rb, 1, none⟩ (.slice a8 (M + 1) c8)) base rb lim (addR lim S ls T V) R' ∧ Step w (w8.setCell ⟨rb, 1, none⟩ (.slice a8 (M + 1) c8)) R R') := hdone
                  refine hK.out _ _ (gb_any HG8.out _) (fun hHeld => ?_)
                  clear hK K ho8 hg8 hw8 hdone
                  (try simp only [Act.put]); (try simp only [List.setIfInBounds_toArray]); (try simp only [List.set_cons_succ]); (try simp only [List.set_cons_zero])
                  refine wpAnyH_take (i := 14) (v := .pointer (some ⟨rb, 0, none⟩)) rfl (by kernel_rfl) (by kernel_rfl) (by kernel_rfl) (fun _ _ _ h => h) (Or.inl ⟨by rfl, fun w hSw => ?_⟩) (by assumption) ?_
                  · go_simp
                  (try simp only [Act.put]); (try simp only [List.setIfInBounds_toArray]); (try simp only [List.set_cons_succ]); (try simp only [List.set_cons_zero])
                  refine wpAnyH_take (i := 15) (v := .pointer (some ⟨rb, 1, none⟩)) rfl (by kernel_rfl) (by kernel_rfl) (by kernel_rfl) (fun _ _ _ h => h) (Or.inl ⟨by rfl, fun w hSw => ?_⟩) (by assumption) ?_
                  · go_simp
                  (try simp only [Act.put]); (try simp only [List.setIfInBounds_toArray]); (try simp only [List.set_cons_succ]); (try simp only [List.set_cons_zero])
                  refine wpAnyH_ready (rs := [16]) (by kernel_rfl) (by simp) (AllReadyH.cons (i := 16) rfl (fun K hK => ?_) AllReadyH.nil)
                  go_simp
                  refine hK.out _ _ (gb_trans (gb_any HG8.out _) (gb_set rfl) (fun k hk => .inr hk)) (fun hHeld => ?_)
                  clear hK K
                  refine wpAnyH_done (by kernel_rfl) ?_ _
                  go_wp2
                  go_ret
                  exact HQ.out _ _ ⟨rfl, HDN.out⟩
    | some ps =>
      have hat := there_at HF.out.1 hfd
      have HAD : Hid (addR lim S ls T V = S.set (insAt (S.map (·.1)) ls) (ls, ps ++ [(T, V)])) := addR_there HF.out.1 EFT.out.symm hfd
      have hpl := HPP.out _ (List.mem_of_getElem? hat)
      generalize insAt (S.map (·.1)) ls = I at HAD hIle hat ⊢
      have hIM0 : I < M := by have := (List.getElem?_eq_some_iff.1 hat).1; have := EM.out; omega
      have hIM : (I : Int) < (M : Int) := by omega
      obtain ⟨b, rfl⟩ : ∃ b, a = some ⟨b, 0, none⟩ := by
        have h6 := HI.out.ser.own
        rcases Loose.of (E := serE) rfl h6 with ⟨_, h1, _⟩ | ⟨g, h1, _⟩
        · have := EM.out; omega
        · exact ⟨g, h1⟩
      obtain ⟨⟨⟨la2, ln2, lc2⟩, ⟨pa, pn, pc⟩⟩, hr⟩ : ∃ r, raw[I]? = some r := ⟨_, List.getElem?_eq_getElem (by have := HI.out.ser.len; have := EM.out; omega)⟩
      have hk := HI.out.ser.ser I _ _ hr hat
      have hpn : pn = ps.length := hk.pn
      simp only at hpl
      rw [← hpn] at hpl
      have k1 : w3.cell? ⟨b, I * 2 + 1, none⟩ = some (.slice pa pn pc) := by
        obtain ⟨b', off, e, hc⟩ := HI.out.ser.rd.rd.at (by have := (List.getElem?_eq_some_iff.1 hr).1; omega)
        cases e
        have h1 := hc I _ 1 _ hr rfl
        rw [Nat.zero_add] at h1
        exact h1
      have hown0 : SOwn pntE 51 w3 0 (.slice pa pn pc) pn ps := by
        have h6 := hk.pts
        simp only at h6
        rw [← hpn] at h6
        exact h6
      have HOP : Hid (∀ W, w3.grownBy W none → SOwn pntE 51 W 0 (.slice pa pn pc) pn ps) := fun W hg => SOwn.kept hown0 hg (by cases pa <;> simp [Value.ownBlock])
      have HSB : Hid (∀ W, w3.grownBy W none → W.heap[rb]? = w3.heap[rb]? ∧ W.heap[pb]? = w3.heap[pb]?) := fun W hg => ⟨hg.block rb HI.out.row.lt (by simp), hg.block pb (typed_lt HTP3.out) (by simp)⟩
      have HFIN : Hid (∀ (W w6 : World) (a6 : Option Addr) (c6 : Nat), w3.grownBy W none → SOwn pntE 51 w6 0 (.slice a6 (pn + 1) c6) (pn + 1) (ps ++ [(T, V)]) → W.grownBy w6 (Value.ownBlock (.slice pa pn pc)) → (Value.ownBlock (.slice a6 (pn + 1) c6) = Value.ownBlock (.slice pa pn pc) ∨ Value.ownBlock (.slice a6 (pn + 1) c6) = some W.heap.size) → w6.cell? ⟨b, I * 2 + 1, none⟩ = some (.slice pa pn pc) ∧ w6.frozen? ⟨b, I * 2 + 1, none⟩ = false ∧ (w6.heap[rb]? = w3.heap[rb]? ∧ w6.heap[pb]? = w3.heap[pb]?) ∧ ((w6.setCell ⟨b, I * 2 + 1, none⟩ (.slice a6 (pn + 1) c6)).heap[rb]? = w3.heap[rb]? ∧ (w6.setCell ⟨b, I * 2 + 1, none⟩ (.slice a6 (pn + 1) c6)).heap[pb]? = w3.heap[pb]?) ∧ ∃ R', RefAt (w6.setCell ⟨b, I * 2 + 1, none⟩ (.slice a6 (pn + 1) c6)) base rb lim (addR lim S ls T V) R' ∧ Step w (w6.setCell ⟨b, I * 2 + 1, none⟩ (.slice a6 (pn + 1) c6)) R R') := by
        intro W w6 a6 c6 hgW ho6 hg6 hw6
        have hIW := HI.out.grown hgW
        have hb3 : base ≤ W.heap.size := Nat.le_trans (Nat.le_trans HBW.out HG3.out.size) hgW.size
        have hfin := RefIs.addPt (p := (T, V)) (a6 := a6) (c6 := c6) (w6 := w6) hIW hat hr (by rw [← hpn]; exact ho6) hg6 (by rw [← hpn]; exact hw6) hb3
        rw [← hpn, ← HAD.out] at hfin
        obtain ⟨j1, j2, R', j3, j4⟩ := hfin
        obtain ⟨s1, s2⟩ := HSB.out W hgW
        have hblk : ∀ k, Value.ownBlock (.slice pa pn pc) = some k → Typed W k 51 ∧ R k := fun k hk' => by
          have h6 := HOP.out W hgW
          cases pa with
          | none => simp [Value.ownBlock] at hk'
          | some x =>
            have e : x.block = k := by simpa [Value.ownBlock] using hk'
            rw [← e]
            exact ⟨sown_typed h6, hk.px x rfl⟩
        have hrW := hIW.row
        have t1 : w6.heap[rb]? = W.heap[rb]? := hg6.block rb hrW.lt (fun e => Typed.ne (rowIs_typed hrW) (hblk rb e.symm).1 (by decide) rfl)
        have hpW : Typed W pb 51 := by
          obtain ⟨cc, hc⟩ := HTP3.out
          exact ⟨cc, s2.trans hc⟩
        have t2 : w6.heap[pb]? = W.heap[pb]? := hg6.block pb (typed_lt hpW) (fun e => HPB.out pb (hblk pb e.symm).2 rfl)
        have hTb : Typed W b 49 := sown_typed hIW.ser.own
        have hTb6 : Typed w6 b 49 := by
          obtain ⟨cc, hc⟩ := hTb
          exact ⟨cc, (hg6.block b (Array.getElem?_eq_some_iff.1 hc).1 (fun e => Typed.ne ⟨cc, hc⟩ (hblk b e.symm).1 (by decide) rfl)).trans hc⟩
        have hr6 : w6.rowIs rb 39 2 _ := hrW.of_block t1
        have hp6 : Typed w6 pb 51 := by
          obtain ⟨cc, hc⟩ := hpW
          exact ⟨cc, t2.trans hc⟩
        have hgs : w6.grownBy (w6.setCell ⟨b, I * 2 + 1, none⟩ (.slice a6 (pn + 1) c6)) (some b) := gb_set rfl
        have u1 := hgs.block rb hr6.lt (fun e => Typed.ne (rowIs_typed hr6) hTb6 (by decide) (Option.some.inj e))
        have u2 := hgs.block pb (typed_lt hp6) (fun e => Typed.ne hp6 hTb6 (by decide) (Option.some.inj e))
        exact ⟨j1, j2, ⟨t1.trans s1, t2.trans s2⟩, ⟨u1.trans (t1.trans s1), u2.trans (t2.trans s2)⟩, R', j3, (Step.grown R (HG3.out.trans hgW)).trans j4⟩
      simp only [Option.isSome_some]
      have HG30 : Hid (w3.grownBy w3.drew none) := gb_drew (World.grownBy.refl _ _)
      clear hfd hat hr hk hpn hown0 q0'
      go_wp2_with fail
      refine wp_region_held_drew (S := fun W => W.heap[rb]? = w3.heap[rb]? ∧ W.heap[pb]? = w3.heap[pb]?) (by kernel_rfl) ⟨rfl, rfl⟩ (fun hHeld => ?_)
      generalize w3.drew = W0 at HG30 hHeld ⊢
      refine wpAnyH_take (i := 0) (v := .pointer (some ⟨rb, 0, none⟩)) rfl (by kernel_rfl) (by kernel_rfl) (by kernel_rfl) (fun _ _ _ h => h) (Or.inl ⟨by rfl, fun w hSw => ?_⟩) (by assumption) ?_
      · go_simp
      (try simp only [Act.put]); (try simp only [List.setIfInBounds_toArray]); (try simp only [List.set_cons_succ]); (try simp only [List.set_cons_zero])
      refine wpAnyH_take (i := 1) (v := .pointer (some ⟨rb, 0, none⟩)) rfl (by kernel_rfl) (by kernel_rfl) (by kernel_rfl) (fun _ _ _ h => h) (Or.inl ⟨by rfl, fun w hSw => ?_⟩) (by assumption) ?_
      · go_simp
      (try simp only [Act.put]); (try simp only [List.setIfInBounds_toArray]); (try simp only [List.set_cons_succ]); (try simp only [List.set_cons_zero])
      refine wpAnyH_take (i := 2) (v := .pointer (some ⟨rb, 1, none⟩)) rfl (by kernel_rfl) (by kernel_rfl) (by kernel_rfl) (fun _ _ _ h => h) (Or.inl ⟨by rfl, fun w hSw => ?_⟩) (by assumption) ?_
      · go_simp
      (try simp only [Act.put]); (try simp only [List.setIfInBounds_toArray]); (try simp only [List.set_cons_succ]); (try simp only [List.set_cons_zero])
      refine wpAnyH_take (i := 3) (v := .slice (some ⟨b, 0, none⟩) M c) rfl (by kernel_rfl) (by kernel_rfl) (by kernel_rfl) (fun _ _ _ h => h) (Or.inl ⟨by rfl, fun w hSw => ?_⟩) (by assumption) ?_
      · have z9 : w.cell? ⟨rb, 1, none⟩ = some (.slice (some ⟨b, 0, none⟩) M c) := (World.cell?_of_block hSw.1).trans e1; clear hSw; go_simp
      (try simp only [Act.put]); (try simp only [List.setIfInBounds_toArray]); (try simp only [List.set_cons_succ]); (try simp only [List.set_cons_zero])
      refine wpAnyH_take (i := 4) (v := .int .i64 I) rfl (by kernel_rfl) (by kernel_rfl) (by kernel_rfl) (fun _ _ _ h => h) (Or.inl ⟨by rfl, fun w hSw => ?_⟩) (by assumption) ?_
      · go_simp
      (try simp only [Act.put]); (try simp only [List.setIfInBounds_toArray]); (try simp only [List.set_cons_succ]); (try simp only [List.set_cons_zero])
      refine wpAnyH_take (i := 5) (v := .pointer (some ⟨rb, 0, none⟩)) rfl (by kernel_rfl) (by kernel_rfl) (by kernel_rfl) (fun _ _ _ h => h) (Or.inl ⟨by rfl, fun w hSw => ?_⟩) (by assumption) ?_
      · go_simp
      (try simp only [Act.put]); (try simp only [List.setIfInBounds_toArray]); (try simp only [List.set_cons_succ]); (try simp only [List.set_cons_zero])
      refine wpAnyH_take (i := 6) (v := .pointer (some ⟨rb, 0, none⟩)) rfl (by kernel_rfl) (by kernel_rfl) (by kernel_rfl) (fun _ _ _ h => h) (Or.inl ⟨by rfl, fun w hSw => ?_⟩) (by assumption) ?_
      · go_simp
      (try simp only [Act.put]); (try simp only [List.setIfInBounds_toArray]); (try simp only [List.set_cons_succ]); (try simp only [List.set_cons_zero])
      refine wpAnyH_take (i := 7) (v := .pointer (some ⟨rb, 1, none⟩)) rfl (by kernel_rfl) (by kernel_rfl) (by kernel_rfl) (fun _ _ _ h => h) (Or.inl ⟨by rfl, fun w hSw => ?_⟩) (by assumption) ?_
      · go_simp
      (try simp only [Act.put]); (try simp only [List.setIfInBounds_toArray]); (try simp only [List.set_cons_succ]); (try simp only [List.set_cons_zero])
      refine wpAnyH_take (i := 8) (v := .slice (some ⟨b, 0, none⟩) M c) rfl (by kernel_rfl) (by kernel_rfl) (by kernel_rfl) (fun _ _ _ h => h) (Or.inl ⟨by rfl, fun w hSw => ?_⟩) (by assumption) ?_
      · have z9 : w.cell? ⟨rb, 1, none⟩ = some (.slice (some ⟨b, 0, none⟩) M c) := (World.cell?_of_block hSw.1).trans e1; clear hSw; go_simp
      (try simp only [Act.put]); (try simp only [List.setIfInBounds_toArray]); (try simp only [List.set_cons_succ]); (try simp only [List.set_cons_zero])
      refine wpAnyH_take (i := 9) (v := .int .i64 I) rfl (by kernel_rfl) (by kernel_rfl) (by kernel_rfl) (fun _ _ _ h => h) (Or.inl ⟨by rfl, fun w hSw => ?_⟩) (by assumption) ?_
      · go_simp
      (try simp only [Act.put]); (try simp only [List.setIfInBounds_toArray]); (try simp only [List.set_cons_succ]); (try simp only [List.set_cons_zero])
      refine wpAnyH_take (i := 10) (v := .pointer (some ⟨b, I * 2, none⟩)) rfl (by kernel_rfl) (by kernel_rfl) (by kernel_rfl) (fun _ _ _ h => h) (Or.inl ⟨by rfl, fun w hSw => ?_⟩) (by assumption) ?_
      · go_simp
      (try simp only [Act.put]); (try simp only [List.setIfInBounds_toArray]); (try simp only [List.set_cons_succ]); (try simp only [List.set_cons_zero])
      refine wpAnyH_take (i := 11) (v := .pointer (some ⟨b, I * 2 + 1, none⟩)) rfl (by kernel_rfl) (by kernel_rfl) (by kernel_rfl) (fun _ _ _ h => h) (Or.inl ⟨by rfl, fun w hSw => ?_⟩) (by assumption) ?_
      · go_simp
      (try simp only [Act.put]); (try simp only [List.setIfInBounds_toArray]); (try simp only [List.set_cons_succ]); (try simp only [List.set_cons_zero])
      refine wpAnyH_take (i := 13) (v := .agg #[.int .i64 T, .int .u64 V]) rfl (by kernel_rfl) (by kernel_rfl) (by kernel_rfl) (fun _ _ _ h => h) (Or.inl ⟨by rfl, fun w hSw => ?_⟩) (by assumption) ?_
      · have z9 : w.cell? ⟨pb, 0, none⟩ = some (.int .i64 T) := (World.cell?_of_block hSw.2).trans p0'; have y9 : w.cell? ⟨pb, 1, none⟩ = some (.int .u64 V) := (World.cell?_of_block hSw.2).trans p1'; clear hSw; go_simp
      (try simp only [Act.put]); (try simp only [List.setIfInBounds_toArray]); (try simp only [List.set_cons_succ]); (try simp only [List.set_cons_zero])
      refine wpAnyH_ready (rs := [12, 14]) (by kernel_rfl) (by simp) (AllReadyH.cons (i := 12) rfl (fun K hK => ?_) (AllReadyH.cons (i := 14) rfl (fun K hK => ?_) AllReadyH.nil))
      · have z9 := HG30.out.cell k1 (by simp)
        go_simp
        refine hK.out _ _ (HSB.out _ HG30.out) (fun hHeld => ?_)
        clear hK K z9
        (try simp only [Act.put]); (try simp only [List.setIfInBounds_toArray]); (try simp only [List.set_cons_succ]); (try simp only [List.set_cons_zero])
        refine wpAnyH_ready (rs := [14]) (by kernel_rfl) (by simp) (AllReadyH.cons (i := 14) rfl (fun K hK => ?_) AllReadyH.nil)
        go_simp
        have HGL : Hid (w3.grownBy (W0.alloc (.cells #[.int .i64 T, .int .u64 V] 51)) none) := HG30.out.trans (World.grownBy_alloc W0 _ none)
        have HLT : Hid (SRd pntE (W0.alloc (.cells #[.int .i64 T, .int .u64 V] 51)) (some ⟨W0.heap.size, 0, none⟩) [(T, V)]) := srd_lit2 pntE 51 W0 [(T, V)]
        refine hK.out _ _ (HSB.out _ HGL.out) (fun hHeld => ?_)
        clear hK K
        generalize W0.alloc (.cells #[.int .i64 T, .int .u64 V] 51) = W9 at HGL HLT hHeld ⊢
        generalize W0.heap.size = x9 at HLT ⊢
        refine wpAnyH_ready (rs := [15]) (by kernel_rfl) (by simp) (AllReadyH.cons (i := 15) rfl (fun K hK => ?_) AllReadyH.nil)
        refine step_append_at pntT rfl (.tmp 42) (.tmp 44) rfl 0 (.slice pa pn pc) pn ps (by simp [Act.eval]) (HOP.out W9 HGL.out) ⟨x9, 0, none⟩ [(T, V)] 1 1 (by simp [Act.eval]) rfl HLT.out (by omega) (by unfold maxLen; omega) (Nat.zero_le _) ?_
        intro v6 w6 ho6 hg6 hw6
        obtain ⟨a6, c6, rfl⟩ := sown_slice ho6
        obtain ⟨z1, f1, hs1, hs2, hdone⟩ := HFIN.out W9 w6 a6 c6 HGL.out ho6 hg6 hw6
        have HDN : Hid (∃ R', RefAt (w6.setCell ⟨b, I * 2 + 1, none⟩ (.slice a6 (pn + 1) c6)) base rb lim (addR lim S ls T V) R' ∧ Step w (w6.setCell ⟨b, I * 2 + 1, none⟩ (.slice a6 (pn + 1) c6)) R R') := hdone
        have HS2 : Hid ((w6.setCell ⟨b, I * 2 + 1, none⟩ (.slice a6 (pn + 1) c6)).heap[rb]? = w3.heap[rb]? ∧ (w6.setCell ⟨b, I * 2 + 1, none⟩ (.slice a6 (pn + 1) c6)).heap[pb]? = w3.heap[pb]?) := hs2
        refine hK.out _ _ hs1 (fun hHeld => ?_)
        clear hK K ho6 hg6 hw6 hdone hs1 hs2
        (try simp only [Act.put]); (try simp only [List.setIfInBounds_toArray]); (try simp only [List.set_cons_succ]); (try simp only [List.set_cons_zero])
        refine wpAnyH_take (i := 16) (v := .pointer (some ⟨b, I * 2, none⟩)) rfl (by kernel_rfl) (by kernel_rfl) (by kernel_rfl) (fun _ _ _ h => h) (Or.inl ⟨by rfl, fun w hSw => ?_⟩) (by assumption) ?_
        · go_simp
        (try simp only [Act.put]); (try simp only [List.setIfInBounds_toArray]); (try simp only [List.set_cons_succ]); (try simp only [List.set_cons_zero])
        refine wpAnyH_take (i := 17) (v := .pointer (some ⟨b, I * 2 + 1, none⟩)) rfl (by kernel_rfl) (by kernel_rfl) (by kernel_rfl) (fun _ _ _ h => h) (Or.inl ⟨by rfl, fun w hSw => ?_⟩) (by assumption) ?_
        · go_simp
        (try simp only [Act.put]); (try simp only [List.setIfInBounds_toArray]); (try simp only [List.set_cons_succ]); (try simp only [List.set_cons_zero])
        refine wpAnyH_ready (rs := [18]) (by kernel_rfl) (by simp) (AllReadyH.cons (i := 18) rfl (fun K hK => ?_) AllReadyH.nil)
        go_simp
        refine hK.out _ _ HS2.out (fun hHeld => ?_)
        clear hK K
        refine wpAnyH_done (by kernel_rfl) ?_ _
        go_wp2
        go_ret
        exact HQ.out _ _ ⟨rfl, HDN.out⟩
      · go_simp
        have HGL : Hid (w3.grownBy (W0.alloc (.cells #[.int .i64 T, .int .u64 V] 51)) none) := HG30.out.trans (World.grownBy_alloc W0 _ none)
        have HLT : Hid (SRd pntE (W0.alloc (.cells #[.int .i64 T, .int .u64 V] 51)) (some ⟨W0.heap.size, 0, none⟩) [(T, V)]) := srd_lit2 pntE 51 W0 [(T, V)]
        refine hK.out _ _ (HSB.out _ HGL.out) (fun hHeld => ?_)
        clear hK K
        generalize W0.alloc (.cells #[.int .i64 T, .int .u64 V] 51) = W9 at HGL HLT hHeld ⊢
        generalize W0.heap.size = x9 at HLT ⊢
        refine wpAnyH_ready (rs := [12]) (by kernel_rfl) (by simp) (AllReadyH.cons (i := 12) rfl (fun K hK => ?_) AllReadyH.nil)
        have z9 := HGL.out.cell k1 (by simp)
        go_simp
        refine hK.out _ _ (HSB.out _ HGL.out) (fun hHeld => ?_)
        clear hK K z9
        (try simp only [Act.put]); (try simp only [List.setIfInBounds_toArray]); (try simp only [List.set_cons_succ]); (try simp only [List.set_cons_zero])
        refine wpAnyH_ready (rs := [15]) (by kernel_rfl) (by simp) (AllReadyH.cons (i := 15) rfl (fun K hK => ?_) AllReadyH.nil)
        refine step_append_at pntT rfl (.tmp 42) (.tmp 44) rfl 0 (.slice pa pn pc) pn ps (by simp [Act.eval]) (HOP.out W9 HGL.out) ⟨x9, 0, none⟩ [(T, V)] 1 1 (by simp [Act.eval]) rfl HLT.out (by omega) (by unfold maxLen; omega) (Nat.zero_le _) ?_
        intro v6 w6 ho6 hg6 hw6
        obtain ⟨a6, c6, rfl⟩ := sown_slice ho6
        obtain ⟨z1, f1, hs1, hs2, hdone⟩ := HFIN.out W9 w6 a6 c6 HGL.out ho6 hg6 hw6
        have HDN : Hid (∃ R', RefAt (w6.setCell ⟨b, I * 2 + 1, none⟩ (.slice a6 (pn + 1) c6)) base rb lim (addR lim S ls T V) R' ∧ Step w (w6.setCell ⟨b, I * 2 + 1, none⟩ (.slice a6 (pn + 1) c6)) R R') := hdone
        have HS2 : Hid ((w6.setCell ⟨b, I * 2 + 1, none⟩ (.slice a6 (pn + 1) c6)).heap[rb]? = w3.heap[rb]? ∧ (w6.setCell ⟨b, I * 2 + 1, none⟩ (.slice a6 (pn + 1) c6)).heap[pb]? = w3.heap[pb]?) := hs2
        refine hK.out _ _ hs1 (fun hHeld => ?_)
        clear hK K ho6 hg6 hw6 hdone hs1 hs2
        (try simp only [Act.put]); (try simp only [List.setIfInBounds_toArray]); (try simp only [List.set_cons_succ]); (try simp only [List.set_cons_zero])
        refine wpAnyH_take (i := 16) (v := .pointer (some ⟨b, I * 2, none⟩)) rfl (by kernel_rfl) (by kernel_rfl) (by kernel_rfl) (fun _ _ _ h => h) (Or.inl ⟨by rfl, fun w hSw => ?_⟩) (by assumption) ?_
        · go_simp
        (try simp only [Act.put]); (try simp only [List.setIfInBounds_toArray]); (try simp only [List.set_cons_succ]); (try simp only [List.set_cons_zero])
        refine wpAnyH_take (i := 17) (v := .pointer (some ⟨b, I * 2 + 1, none⟩)) rfl (by kernel_rfl) (by kernel_rfl) (by kernel_rfl) (fun _ _ _ h => h) (Or.inl ⟨by rfl, fun w hSw => ?_⟩) (by assumption) ?_
        · go_simp
        (try simp only [Act.put]); (try simp only [List.setIfInBounds_toArray]); (try simp only [List.set_cons_succ]); (try simp only [List.set_cons_zero])
        refine wpAnyH_ready (rs := [18]) (by kernel_rfl) (by simp) (AllReadyH.cons (i := 18) rfl (fun K hK => ?_) AllReadyH.nil)
        go_simp
        refine hK.out _ _ HS2.out (fun hHeld => ?_)
        clear hK K
        refine wpAnyH_done (by kernel_rfl) ?_ _
        go_wp2
        go_ret
        exact HQ.out _ _ ⟨rfl, HDN.out⟩
  · have HAS : Hid (addR lim S ls T V = S) := by
      show _ = _
      unfold addR
      rw [if_neg (fun e => hF1 (EFT.out.trans e))]
    have hF2 : (FT != 1) = true := by simpa using hF1
    go_wp2
    go_ret
    refine HQ.out _ _ ⟨rfl, R, ?_, Step.grown R HG1.out⟩
    rw [HAS.out]
    exact HH.out.grown HG1.out
end Go.Proofs.YtpabbmiibehfjaaGreatDoor
