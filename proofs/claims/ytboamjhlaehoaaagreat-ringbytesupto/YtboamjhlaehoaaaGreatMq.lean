/- Several texts in one: Sj, Sk. -/
import Derived.Test.YtboamjhlaehoaaaGreatMp
/- Rings: read, walked. -/
namespace Go.Proofs.YtboamjhlaehoaaaGreat
open Go.RowKit
set_option linter.unusedVariables false
set_option maxRecDepth 20000

/-- What read leaves. -/
def RgR (w : World) (r : Int × List Mem × Bool) (e : Ending) (w' : World) : Prop :=
  ∃ G raw, e = .returned (.tuple #[.agg #[.int .u64 r.1, .slice (some ⟨G, 0, none⟩) r.2.1.length r.2.1.length], .bool r.2.2]) ∧ MsOwn w' w.heap.size (.slice (some ⟨G, 0, none⟩) r.2.1.length r.2.1.length) r.2.1 raw ∧ w.grownBy w' none
set_option maxHeartbeats 4000000 in
theorem g_read (w : World) (a : Option Addr) (L c : Nat) (zs : List Int) (hr : Rd w a zs) (hL : zs.length = L) (hc : L ≤ c) (hs : (L : Int) ≤ 140737488355000) (ho : ∀ x, a = some x → Typed w x.block 5) (hz : ∀ k, 0 ≤ zs.getD k 0 ∧ zs.getD k 0 ≤ 255) :
    Calls Tryz.prog 61 #[.slice a L c] w fun e w' => RgR w (ringR zs) e w' := by
  obtain ⟨N, eN⟩ : ∃ N, w.heap.size = N := ⟨_, rfl⟩
  have EN : Hid (w.heap.size = N) := eN
  have HLL : Hid (zs.length = L) := hL
  have ga := World.grownBy_alloc w (.cells #[.int .u64 0, .slice none 0 0] 25) none
  have C0 := g_of a zs L c _ (hr.grown ga (by simp)) hL hc hs (fun x hx => by
    have hl := typed_lt (ho x hx)
    obtain ⟨cs, hcs⟩ := ho x hx
    exact ⟨cs, by rw [ga.block x.block hl (by simp)]; exact hcs⟩)
  have HGA : Hid (w.grownBy (w.alloc (.cells #[.int .u64 0, .slice none 0 0] 25)) none) := ga
  have HN0 : Hid ((w.alloc (.cells #[.int .u64 0, .slice none 0 0] 25)).heap[N]? = some (.cells #[.int .u64 0, .slice none 0 0] 25 (0, 0))) := by rw [← eN]; exact heap_alloc_new w _
  rw [size_alloc, eN] at C0
  have HUP : Hid (∀ m s W, RAt W (N + 1) a L c zs s.1 s.2 → Calls Tryz.prog 85 #[.pointer (some ⟨N + 1, 0, none⟩), .int .u64 m] W fun e w' => NxOut W (N + 1) a L c zs (upTo zs m s) e w') := fun m s W hr => g_upTo W (N + 1) a L c zs s.1 m s.2 hr
  have HME : Hid (∀ s W, RAt W (N + 1) a L c zs s.1 s.2 → Calls Tryz.prog 86 #[.pointer (some ⟨N + 1, 0, none⟩)] W fun e w' => MmOut W (N + 1) a L c zs (memR zs s) e w') := fun s W hr => rd_member W (N + 1) a L c zs s.1 s.2 hr hz
  have HC1 : Hid (∀ W, RAt W (N + 1) a L c zs 0 false → Calls Tryz.prog 84 #[.pointer (some ⟨N + 1, 0, none⟩)] W fun e w' => NxOut W (N + 1) a L c zs (nxt zs (0, false)) e w') := fun W h => rd_number W (N + 1) a L c zs 0 false h
  have HRR : Hid (ringR zs = ((nxt zs (0, false)).1, (memsR zs (upTo zs 16 (nxt zs (0, false)).2).1.toNat (upTo zs 16 (nxt zs (0, false)).2).2).1, !(memsR zs (upTo zs 16 (nxt zs (0, false)).2).1.toNat (upTo zs 16 (nxt zs (0, false)).2).2).2.2 && decide ((memsR zs (upTo zs 16 (nxt zs (0, false)).2).1.toNat (upTo zs 16 (nxt zs (0, false)).2).2).2.1 = (zs.length : Int)))) := rfl
  have k2 := upTo_range hz 16 (by decide) (nxt zs (0, false)).2
  have HC2 : Hid (∀ W, RAt W (N + 1) a L c zs (nxt zs (0, false)).2.1 (nxt zs (0, false)).2.2 → Calls Tryz.prog 85 #[.pointer (some ⟨N + 1, 0, none⟩), .int .u64 16] W fun e w' => NxOut W (N + 1) a L c zs (upTo zs 16 (nxt zs (0, false)).2) e w') := fun W h => HUP.out 16 _ W h
  generalize ringR zs = RR at HRR ⊢
  generalize nxt zs (0, false) = r1 at HRR HC1 k2 HC2
  generalize upTo zs 16 r1.2 = r2 at HRR k2 HC2
  obtain ⟨x2, s2⟩ := r2
  obtain ⟨K, hK⟩ : ∃ K : Nat, x2 = (K : Int) := ⟨x2.toNat, by simp only at k2; omega⟩
  subst hK
  simp only [Int.toNat_natCast] at HRR k2
  have HK : Hid (K ≤ 16) := by show _ ≤ _; omega
  clear k2 hr hL hc hs ho hz ga eN
  go_enter Tryz.func61, Tryz.ntmps61
  go_wp2_with fail
  rw [EN.out]
  generalize w.alloc (.cells #[.int .u64 0, .slice none 0 0] 25) = W0 at C0 HGA HN0 ⊢
  refine C0.mono ?_
  rintro e u1 ⟨rfl, hr1, hg1⟩
  have HQN : Hid (u1.heap[N]? = some (.cells #[.int .u64 0, .slice none 0 0] 25 (0, 0))) := by show _ = _; rw [hg1.block N (Array.getElem?_eq_some_iff.1 HN0.out).1 (by simp)]; exact HN0.out
  have HG1 : Hid (w.grownBy u1 none) := HGA.out.trans hg1
  have C1 := HC1.out u1 hr1
  have HR1 : Hid (N + 1 < u1.heap.size) := hr1.lt
  clear hr1 hg1 HC1 HN0 HGA
  go_wp2_with fail
  refine C1.mono ?_
  intro e u2 hx
  obtain ⟨rfl, H2⟩ := nx_call hx
  clear hx
  obtain ⟨M, eM⟩ : ∃ M, u2.heap.size = M := ⟨_, rfl⟩
  have HMN : Hid (N + 1 < M) := by show _ < _; have := H2.out.2.size; have := HR1.out; omega
  have HQ2 : Hid (QB w (u2.alloc (.cells #[.int .u64 r1.1, .slice none 0 0] 25)) N M a L c zs r1.2 r1.1 (.slice none 0 0)) := by
    have gb := World.grownBy_alloc u2 (.cells #[.int .u64 r1.1, .slice none 0 0] 25) none
    have hn2 : u2.heap[N]? = some (.cells #[.int .u64 0, .slice none 0 0] 25 (0, 0)) := by rw [H2.out.2.block N (Array.getElem?_eq_some_iff.1 HQN.out).1 (fun e => by have := Option.some.inj e; omega)]; exact HQN.out
    exact ⟨by rw [gb.block N (Array.getElem?_eq_some_iff.1 hn2).1 (by simp)]; exact hn2, H2.out.1.grown gb (by simp), by rw [← eM]; exact heap_alloc_new u2 _, gb_trans (gb_trans HG1.out H2.out.2 (fun k hk => .inl (by cases hk; have := EN.out; omega))) gb (by simp)⟩
  have C2 := HC2.out _ HQ2.out.rd
  have EM : Hid (u2.heap.size = M) := eM
  clear eM H2 HR1 HQN HG1
  go_wp2_with fail
  rw [EM.out]
  generalize u2.alloc (.cells #[.int .u64 r1.1, .slice none 0 0] 25) = W2 at HQ2 C2 ⊢
  refine C2.mono ?_
  intro e u3 hx
  obtain ⟨rfl, H3⟩ := nx_call hx
  clear hx
  have HQ3 : Hid (QB w u3 N M a L c zs s2 r1.1 (.slice none 0 0)) := HQ2.out.next EN.out HMN.out H3.out.1 H3.out.2
  clear H3 HQ2 HC2
  obtain ⟨i0, hi, hz0, hz1, hz2⟩ := info_part info61
  have hN2 : M + 1 ≤ u3.heap.size := (Array.getElem?_eq_some_iff.1 HQ3.out.box).1
  obtain ⟨u4, hmk, ho4, hg4⟩ := run_make_full (P := Tryz.prog) u3 (M + 1) 23 61 i0 (.agg #[.int .i64 0, .int .i64 0, .slice none 0 0]) 3 Tryz.underlying23 hi hz0 hz1 .u64 .u64 K (by rw [hz2]; have := HK.out; omega) (by have := HK.out; unfold maxLen; omega) hN2
  obtain ⟨G, eG⟩ : ∃ G, u3.heap.size = G := ⟨_, rfl⟩
  rw [eG] at hmk ho4
  have HGN : Hid (M + 1 ≤ G) := by show _ ≤ _; omega
  have HRW4 : Hid (RowsAt u4 (M + 1) G K 0 (memsR zs 0 s2).1 []) := ⟨by
    rw [List.nil_append, Nat.sub_zero]
    show World.ownsRow _ _ _ _ _ _ _
    rw [← made_mems K]
    exact ho4, rfl, rfl, fun i r m h => by simp at h⟩
  have HQ4 : Hid (QB w u4 N M a L c zs s2 r1.1 (.slice none 0 0)) := HQ3.out.free EN.out HMN.out hg4 (by simp)
  obtain ⟨d0, d1⟩ := cell2 HQ4.out.box
  have f1 := free_row HQ4.out.box 1
  have HQ7 : Hid (QB w (u4.setCell ⟨M, 1, none⟩ (.slice (some ⟨G, 0, none⟩) K K)) N M a L c zs (memsR zs 0 s2).2 r1.1 (.slice (some ⟨G, 0, none⟩) K K)) := HQ4.out.row EN.out HMN.out _
  have HRW7 : Hid (RowsAt (u4.setCell ⟨M, 1, none⟩ (.slice (some ⟨G, 0, none⟩) K K)) (M + 1) G K 0 (memsR zs 0 s2).1 []) := HRW4.out.next (gb_set (g := M) rfl) (fun j hj => by cases hj; omega)
  obtain ⟨q0, q1⟩ := cell2 HQ7.out.box
  clear ho4 hg4 eG hi hz0 hz1 hz2 hN2 HQ3 HQ4 HRW4
  go_wp2_with fail
  generalize u4.setCell ⟨M, 1, none⟩ (.slice (some ⟨G, 0, none⟩) K K) = W7 at HQ7 HRW7 q0 q1 ⊢
  clear d0 d1 f1 hmk q0 q1
  go_loopw [19] (fun t19 wr => ∃ (k : Nat) (raw : List MRow), k ≤ K ∧ t19 = .int .i64 k ∧ QB w wr N M a L c zs (memsR zs k s2).2 r1.1 (.slice (some ⟨G, 0, none⟩) K K) ∧ RowsAt wr (M + 1) G K k (memsR zs k s2).1 raw) (fun t19 _ => K - (intOf t19).toNat)
  case atStart => exact ⟨0, [], Nat.zero_le _, rfl, HQ7.out, HRW7.out⟩
  case round =>
    clear HQ7 HRW7
    have hk64 := HK.out
    obtain ⟨k, raw, hk, rfl, hq, hrw⟩ := hrel
    have HQ : Hid (QB w wr N M a L c zs (memsR zs k s2).2 r1.1 (.slice (some ⟨G, 0, none⟩) K K)) := hq
    have HW : Hid (RowsAt wr (M + 1) G K k (memsR zs k s2).1 raw) := hrw
    clear hq hrw
    by_cases hlt : k < K
    · have hkk : (k : Int) < (K : Int) := by omega
      have HS : Hid (wr.drew.cell? ⟨M, 1, none⟩ = some (.slice (some ⟨G, 0, none⟩) K K)) := (cell2 HQ.out.box).2
      have HQD : Hid (QB w wr.drew N M a L c zs (memsR zs k s2).2 r1.1 (.slice (some ⟨G, 0, none⟩) K K)) := HQ.out.free EN.out HMN.out (gb_drew (row := none) (World.grownBy.refl _ _)) (by simp)
      have HWD : Hid (RowsAt wr.drew (M + 1) G K k (memsR zs k s2).1 raw) := HW.out.next (gb_drew (row := none) (World.grownBy.refl _ _)) (by simp)
      have HST : Hid (memsR zs (k + 1) s2 = ((memsR zs k s2).1 ++ [(memR zs (memsR zs k s2).2).1], (memR zs (memsR zs k s2).2).2)) := rfl
      have HCL : Hid (Calls Tryz.prog 86 #[.pointer (some ⟨N + 1, 0, none⟩)] wr.drew fun e w' => MmOut wr.drew (N + 1) a L c zs (memR zs (memsR zs k s2).2) e w') := HME.out _ _ HQD.out.rd
      generalize memR zs (memsR zs k s2).2 = r4 at HST HCL
      go_wp2_with fail
      refine wp_region_held_drew (S := fun u => u.cell? ⟨M, 1, none⟩ = some (.slice (some ⟨G, 0, none⟩) K K)) (by kernel_rfl) HS.out (fun hHeld => ?_)
      refine wpAnyH_take (i := 0) (v := .pointer (some ⟨M, 1, none⟩)) rfl (by kernel_rfl) (by kernel_rfl) (by kernel_rfl) (fun _ _ _ h => h) (Or.inl ⟨by rfl, fun w hSw => ?_⟩) (by assumption) ?_
      · go_simp
      (try simp only [Act.put]); (try simp only [List.setIfInBounds_toArray]); (try simp only [List.set_cons_succ]); (try simp only [List.set_cons_zero])
      refine wpAnyH_take (i := 1) (v := .slice (some ⟨G, 0, none⟩) K K) rfl (by kernel_rfl) (by kernel_rfl) (by kernel_rfl) (fun _ _ _ h => h) (Or.inl ⟨by rfl, fun w hSw => ?_⟩) (by assumption) ?_
      · go_simp
      (try simp only [Act.put]); (try simp only [List.setIfInBounds_toArray]); (try simp only [List.set_cons_succ]); (try simp only [List.set_cons_zero])
      refine wpAnyH_take (i := 2) (v := .int .i64 (k : Int)) rfl (by kernel_rfl) (by kernel_rfl) (by kernel_rfl) (fun _ _ _ h => h) (Or.inl ⟨by rfl, fun w hSw => ?_⟩) (by assumption) ?_
      · go_simp
      (try simp only [Act.put]); (try simp only [List.setIfInBounds_toArray]); (try simp only [List.set_cons_succ]); (try simp only [List.set_cons_zero])
      refine wpAnyH_take (i := 3) (v := .pointer (some ⟨N + 1, 0, none⟩)) rfl (by kernel_rfl) (by kernel_rfl) (by kernel_rfl) (fun _ _ _ h => h) (Or.inl ⟨by rfl, fun w hSw => ?_⟩) (by assumption) ?_
      · go_simp
      (try simp only [Act.put]); (try simp only [List.setIfInBounds_toArray]); (try simp only [List.set_cons_succ]); (try simp only [List.set_cons_zero])
      refine wpAnyH_ready (rs := [4]) (by kernel_rfl) (by simp) (AllReadyH.cons (i := 4) rfl (fun K9 hK => ?_) AllReadyH.nil)
      go_simp
      refine HCL.out.mono ?_
      intro e u5 hx
      obtain ⟨ta, tc, rfl, ho5, hr5, hg5⟩ := hx
      have HM5 : Hid (MOwn u5 (M + 1) (r4.1.1, r4.1.2.1, (ta, r4.1.2.2.length, tc)) r4.1) := ⟨rfl, rfl, rfl, SOwn.base ho5 (by have := (Array.getElem?_eq_some_iff.1 HQD.out.box).1; omega)⟩
      have HQ5 : Hid (QB w u5 N M a L c zs r4.2 r1.1 (.slice (some ⟨G, 0, none⟩) K K)) := HQD.out.next EN.out HMN.out hr5 hg5
      have HW5 : Hid (RowsAt u5 (M + 1) G K k (memsR zs k s2).1 raw) := HWD.out.next hg5 (fun j hj => by cases hj; have := HMN.out; omega)
      clear ho5 hr5 hg5
      refine hK.out _ _ (cell2 HQ5.out.box).2 (fun hHeld => ?_)
      clear hK K9
      (try simp only [Act.put]); (try simp only [List.setIfInBounds_toArray]); (try simp only [List.set_cons_succ]); (try simp only [List.set_cons_zero])
      refine wpAnyH_take (i := 5) (v := .pointer (some ⟨G, k * 3, none⟩)) rfl (by kernel_rfl) (by kernel_rfl) (by kernel_rfl) (fun _ _ _ h => h) (Or.inl ⟨by rfl, fun w hSw => ?_⟩) (by assumption) ?_
      · go_simp
      (try simp only [Act.put]); (try simp only [List.setIfInBounds_toArray]); (try simp only [List.set_cons_succ]); (try simp only [List.set_cons_zero])
      obtain ⟨⟨g0, g1, g2⟩, h0, h1, h2⟩ := HW5.out.zero hlt
      have HW6 : Hid (RowsAt (((u5.setCell ⟨G, k * 3, none⟩ (.int .i64 r4.1.1)).setCell ⟨G, k * 3 + 1, none⟩ (.int .i64 r4.1.2.1)).setCell ⟨G, k * 3 + 2, none⟩ (.slice ta r4.1.2.2.length tc)) (M + 1) G K (k + 1) (memsR zs (k + 1) s2).1 (raw ++ [(r4.1.1, r4.1.2.1, (ta, r4.1.2.2.length, tc))])) := by
        rw [HST.out]
        exact RowsAt.put (r := (r4.1.1, r4.1.2.1, (ta, r4.1.2.2.length, tc))) (m := r4.1) HW5.out hlt HM5.out
      have HQ6 : Hid (QB w (((u5.setCell ⟨G, k * 3, none⟩ (.int .i64 r4.1.1)).setCell ⟨G, k * 3 + 1, none⟩ (.int .i64 r4.1.2.1)).setCell ⟨G, k * 3 + 2, none⟩ (.slice ta r4.1.2.2.length tc)) N M a L c zs (memsR zs (k + 1) s2).2 r1.1 (.slice (some ⟨G, 0, none⟩) K K)) := by
        rw [HST.out]
        exact HQ5.out.put3 EN.out HMN.out HGN.out (sown_typed HW5.out.own) _ _ _ _ _ _
      refine wpAnyH_ready (rs := [6]) (by kernel_rfl) (by simp) (AllReadyH.cons (i := 6) rfl (fun K9 hK => ?_) AllReadyH.nil)
      go_simp
      refine hK.out _ _ (cell2 HQ6.out.box).2 (fun hHeld => ?_)
      clear hK K9
      (try simp only [Act.put]); (try simp only [List.setIfInBounds_toArray]); (try simp only [List.set_cons_succ]); (try simp only [List.set_cons_zero])
      refine wpAnyH_done (by kernel_rfl) ?_ _
      clear hHeld
      go_wp2
      go_roundw
      case rel => exact ⟨k + 1, _, by omega, by go_num, HQ6.out, HW6.out⟩
      case measure => simp [intOf]; omega
    · obtain rfl : k = K := by omega
      have HS : Hid (wr.drew.cell? ⟨M, 0, none⟩ = some (.int .u64 r1.1) ∧ wr.drew.cell? ⟨M, 1, none⟩ = some (.slice (some ⟨G, 0, none⟩) k k)) := cell2 HQ.out.box
      have HQD : Hid (QB w wr.drew N M a L c zs (memsR zs k s2).2 r1.1 (.slice (some ⟨G, 0, none⟩) k k)) := HQ.out.free EN.out HMN.out (gb_drew (row := none) (World.grownBy.refl _ _)) (by simp)
      have HWD : Hid (RowsAt wr.drew (M + 1) G k k (memsR zs k s2).1 raw) := HW.out.next (gb_drew (row := none) (World.grownBy.refl _ _)) (by simp)
      have HCL := g_whole wr.drew (N + 1) a L c zs _ _ HQD.out.rd
      have HLM : Hid ((memsR zs k s2).1.length = k) := memsR_len zs s2 k
      obtain ⟨bw, ebw⟩ : ∃ b, (!(memsR zs k s2).2.2 && decide ((memsR zs k s2).2.1 = (L : Int))) = b := ⟨_, rfl⟩
      rw [ebw] at HCL
      have HBW : Hid ((!(memsR zs k s2).2.2 && decide ((memsR zs k s2).2.1 = (L : Int))) = bw) := ebw
      clear ebw HQ HW
      go_wp2_with fail
      refine wp_region_held_drew (S := fun u => u.cell? ⟨M, 0, none⟩ = some (.int .u64 r1.1) ∧ u.cell? ⟨M, 1, none⟩ = some (.slice (some ⟨G, 0, none⟩) k k)) (by kernel_rfl) HS.out (fun hHeld => ?_)
      refine wpAnyH_take (i := 0) (v := .agg #[.int .u64 r1.1, .slice (some ⟨G, 0, none⟩) k k]) rfl (by kernel_rfl) (by kernel_rfl) (by kernel_rfl) (fun _ _ _ h => h) (Or.inl ⟨by rfl, fun w hSw => ?_⟩) (by assumption) ?_
      · obtain ⟨t0, t1⟩ := hSw; go_simp
      (try simp only [Act.put]); (try simp only [List.setIfInBounds_toArray]); (try simp only [List.set_cons_succ]); (try simp only [List.set_cons_zero])
      refine wpAnyH_take (i := 1) (v := .pointer (some ⟨N + 1, 0, none⟩)) rfl (by kernel_rfl) (by kernel_rfl) (by kernel_rfl) (fun _ _ _ h => h) (Or.inl ⟨by rfl, fun w hSw => ?_⟩) (by assumption) ?_
      · go_simp
      (try simp only [Act.put]); (try simp only [List.setIfInBounds_toArray]); (try simp only [List.set_cons_succ]); (try simp only [List.set_cons_zero])
      refine wpAnyH_ready (rs := [2]) (by kernel_rfl) (by simp) (AllReadyH.cons (i := 2) rfl (fun K9 hK => ?_) AllReadyH.nil)
      go_simp
      refine HCL.mono ?_
      rintro e u9 ⟨rfl, n9, hu9⟩
      have hg9 : wr.drew.grownBy u9 none := by rw [hu9]; exact gb_drewN _ _
      have HQ9 : Hid (QB w u9 N M a L c zs (memsR zs k s2).2 r1.1 (.slice (some ⟨G, 0, none⟩) k k)) := HQD.out.free EN.out HMN.out hg9 (by simp)
      have HW9 : Hid (RowsAt u9 (M + 1) G k k (memsR zs k s2).1 raw) := HWD.out.next hg9 (by simp)
      clear hu9 hg9
      refine hK.out _ _ (cell2 HQ9.out.box) (fun hHeld => ?_)
      clear hK K9
      (try simp only [Act.put]); (try simp only [List.setIfInBounds_toArray]); (try simp only [List.set_cons_succ]); (try simp only [List.set_cons_zero])
      obtain ⟨x0, x1⟩ := cell2 HQ9.out.res
      have y0 := free_row HQ9.out.res 0
      have y1 := free_row HQ9.out.res 1
      have hbx : ((u9.setCell ⟨N, 0, none⟩ (.int .u64 r1.1)).setCell ⟨N, 1, none⟩ (.slice (some ⟨G, 0, none⟩) k k)).heap[M]? = some (.cells #[.int .u64 r1.1, .slice (some ⟨G, 0, none⟩) k k] 25 (0, 0)) := by
        have := HMN.out
        rw [set_other _ (by omega), set_other _ (by omega)]; exact HQ9.out.box
      have HBX : Hid _ := cell2 hbx
      clear hbx
      refine wpAnyH_ready (rs := [3]) (by kernel_rfl) (by simp) (AllReadyH.cons (i := 3) rfl (fun K9 hK => ?_) AllReadyH.nil)
      go_simp
      refine hK.out _ _ HBX.out (fun hHeld => ?_)
      clear hK K9
      (try simp only [Act.put]); (try simp only [List.setIfInBounds_toArray]); (try simp only [List.set_cons_succ]); (try simp only [List.set_cons_zero])
      refine wpAnyH_take (i := 4) (v := .bool bw) rfl (by kernel_rfl) (by kernel_rfl) (by kernel_rfl) (fun _ _ _ h => h) (Or.inl ⟨by rfl, fun w hSw => ?_⟩) (by assumption) ?_
      · go_simp
      (try simp only [Act.put]); (try simp only [List.setIfInBounds_toArray]); (try simp only [List.set_cons_succ]); (try simp only [List.set_cons_zero])
      refine wpAnyH_done (by kernel_rfl) ?_ _
      clear hHeld
      go_wp2
      try (rename_i hd9; cases hd9)
      refine bodyPost_ret (v := .tuple #[.agg #[.int .u64 r1.1, .slice (some ⟨G, 0, none⟩) k k], .bool bw]) (results_row_tmp Tryz.results61 _ _ _ N 25 _ (0, 0) _ rfl (pair_set HQ9.out.res (.int .u64 r1.1) (.slice (some ⟨G, 0, none⟩) k k)) Tryz.underlying25 isz25) rfl ?_
      have hgN : u9.grownBy ((u9.setCell ⟨N, 0, none⟩ (.int .u64 r1.1)).setCell ⟨N, 1, none⟩ (.slice (some ⟨G, 0, none⟩) k k)) (some N) := gb_trans (gb_set (g := N) rfl) (gb_set (g := N) rfl) (fun j hj => .inr hj)
      have hdone := (HW9.out.next hgN (fun j hj => by cases hj; have := HMN.out; omega)).done
      rw [HRR.out]
      unfold RgR
      simp only [HLM.out]
      refine ⟨G, raw, ?_, hdone.base (by have := HMN.out; have := EN.out; omega), gb_trans HQ9.out.gb hgN (fun j hj => .inl (by cases hj; have := EN.out; omega))⟩
      rw [HLL.out, HBW.out]
end Go.Proofs.YtboamjhlaehoaaaGreat

/- Rings: Decode. -/
namespace Go.Proofs.YtboamjhlaehoaaaGreat
open Go.RowKit
set_option linter.unusedVariables false
set_option maxRecDepth 20000

theorem memsR_small {zs : List Int} (hz : ∀ k, 0 ≤ zs.getD k 0 ∧ zs.getD k 0 ≤ 255) (s : Int × Bool) : ∀ k, ∀ m ∈ (memsR zs k s).1, m.2.2.length ≤ 64
  | 0, m, h => by simp [memsR] at h
  | k + 1, m, h => by
    simp only [memsR, List.mem_append, List.mem_cons, List.mem_nil_iff, or_false] at h
    rcases h with h | rfl
    · exact memsR_small hz s k m h
    · unfold memR
      simp only [wordsR_len]
      have := upTo_range hz 64 (by decide) (upTo zs 3 (upTo zs 15 (memsR zs k s).2).2).2
      omega
theorem ringR_small {zs : List Int} (hz : ∀ k, 0 ≤ zs.getD k 0 ∧ zs.getD k 0 ≤ 255) : (ringR zs).2.1.length ≤ 16 ∧ ∀ m ∈ (ringR zs).2.1, m.2.2.length ≤ 64 := by
  refine ⟨?_, memsR_small hz _ _⟩
  unfold ringR
  simp only [memsR_len]
  have := upTo_range hz 16 (by decide) (nxt zs (0, false)).2
  omega
/-- What Decode says. -/
def decC (zs : List Int) : Int := if (ringR zs).2.2 = true ∧ ringOk (ringR zs).2.1 = true then 0 else 130
def DcOut (zs : List Int) (w : World) (e : Ending) (w' : World) : Prop :=
  ∃ E' a' n' c', e = .returned (.tuple #[.agg #[.int .u64 E', .slice a' n' c'], .int .i64 (decC zs)]) ∧ w.grownBy w' none ∧
    (decC zs = 0 → E' = (ringR zs).1 ∧ n' = (ringR zs).2.1.length ∧ ∃ raw', MsOwn w' w.heap.size (.slice a' n' c') (ringR zs).2.1 raw') ∧
    (decC zs ≠ 0 → E' = 0 ∧ a' = none ∧ n' = 0 ∧ c' = 0)
/-- The answer's box, and the box of what was read. -/
structure DB (w w1 : World) (N M : Nat) (E : Int) (V : Value) : Prop where
  res : w1.heap[N]? = some (.cells #[.int .u64 0, .slice none 0 0] 25 (0, 0))
  box : w1.heap[M]? = some (.cells #[.int .u64 E, V] 25 (0, 0))
  ne : N < M
  gb : w.grownBy w1 none
theorem DB.grown {w w1 w2 : World} {N M : Nat} {E : Int} {V : Value} (h : DB w w1 N M E V) (hg : w1.grownBy w2 none) : DB w w2 N M E V :=
  ⟨by rw [hg.block N (Array.getElem?_eq_some_iff.1 h.res).1 (by simp)]; exact h.res, by rw [hg.block M (Array.getElem?_eq_some_iff.1 h.box).1 (by simp)]; exact h.box, h.ne, h.gb.trans hg⟩
set_option maxHeartbeats 4000000 in
theorem f_decode (w : World) (a : Option Addr) (L c : Nat) (zs : List Int) (hr : Rd w a zs) (hL : zs.length = L) (hc : L ≤ c) (hs : (L : Int) ≤ 140737488355000) (ho : ∀ x, a = some x → Typed w x.block 5) (hz : ∀ k, 0 ≤ zs.getD k 0 ∧ zs.getD k 0 ≤ 255) :
    Calls Tryz.prog 33 #[.slice a L c] w fun e w' => DcOut zs w e w' := by
  obtain ⟨N, eN⟩ : ∃ N, w.heap.size = N := ⟨_, rfl⟩
  have EN : Hid (w.heap.size = N) := eN
  have ga := World.grownBy_alloc w (.cells #[.int .u64 0, .slice none 0 0] 25) none
  have C0 := g_read (w.alloc (.cells #[.int .u64 0, .slice none 0 0] 25)) a L c zs (hr.grown ga (by simp)) hL hc hs (fun x hx => by
    have hl := typed_lt (ho x hx)
    obtain ⟨cs, hcs⟩ := ho x hx
    exact ⟨cs, by rw [ga.block x.block hl (by simp)]; exact hcs⟩) hz
  have HGA : Hid (w.grownBy (w.alloc (.cells #[.int .u64 0, .slice none 0 0] 25)) none) := ga
  have HN0 : Hid ((w.alloc (.cells #[.int .u64 0, .slice none 0 0] 25)).heap[N]? = some (.cells #[.int .u64 0, .slice none 0 0] 25 (0, 0))) := by rw [← eN]; exact heap_alloc_new w _
  obtain ⟨hz1, hz2⟩ := ringR_small hz
  have HSZ : Hid (∀ s ∈ (ringR zs).2.1, s.2.2.length ≤ 35184372088832) := fun s hs => by have := hz2 s hs; omega
  have HS1 : Hid ((ringR zs).2.1.length ≤ 9007199254740992) := by show _ ≤ _; omega
  have HDC : Hid (decC zs = if (ringR zs).2.2 = true ∧ ringOk (ringR zs).2.1 = true then 0 else 130) := rfl
  unfold DcOut
  generalize decC zs = q at HDC ⊢
  generalize ringR zs = R at C0 HSZ HS1 HDC ⊢
  obtain ⟨E, ms, ok⟩ := R
  simp only at HSZ HS1 HDC ⊢
  have HMB : Hid (∀ a1 n1 c1 raw w1, MsRd w1 a1 ms raw → ms.length = n1 → Calls Tryz.prog 44 #[.agg #[.int .u64 E, .slice a1 n1 c1]] w1 fun e w' => e = .returned (.bool (ringOk ms)) ∧ w1.grownBy w' none) := fun a1 n1 c1 raw w1 h hn => g_mayBe E a1 raw ms n1 c1 w1 h hn (by have := HS1.out; omega) HSZ.out
  have HSW : Hid (w.heap.size ≤ (w.alloc (.cells #[.int .u64 0, .slice none 0 0] 25)).heap.size) := ga.size
  clear hr hL hc hs ho hz hz1 hz2 ga eN HSZ HS1
  obtain ⟨n, en⟩ : ∃ n, ms.length = n := ⟨_, rfl⟩
  have HLN : Hid (ms.length = n) := en
  unfold RgR at C0
  simp only [en] at C0 ⊢
  clear en
  go_enter Tryz.func33, Tryz.ntmps33
  go_wp2_with fail
  rw [EN.out]
  generalize w.alloc (.cells #[.int .u64 0, .slice none 0 0] 25) = W0 at C0 HGA HN0 HSW ⊢
  refine C0.mono ?_
  rintro e u1 ⟨G, raw, rfl, hm1, hg1⟩
  obtain ⟨M, eM⟩ : ∃ M, u1.heap.size = M := ⟨_, rfl⟩
  have gb := World.grownBy_alloc u1 (.cells #[.int .u64 E, .slice (some ⟨G, 0, none⟩) n n] 25) none
  have hn1 : u1.heap[N]? = some (.cells #[.int .u64 0, .slice none 0 0] 25 (0, 0)) := by rw [hg1.block N (Array.getElem?_eq_some_iff.1 HN0.out).1 (by simp)]; exact HN0.out
  have HB : Hid (DB w (u1.alloc (.cells #[.int .u64 E, .slice (some ⟨G, 0, none⟩) n n] 25)) N M E (.slice (some ⟨G, 0, none⟩) n n)) := ⟨by rw [gb.block N (Array.getElem?_eq_some_iff.1 hn1).1 (by simp)]; exact hn1, by rw [← eM]; exact heap_alloc_new u1 _, by rw [← eM]; exact (Array.getElem?_eq_some_iff.1 hn1).1, (HGA.out.trans hg1).trans gb⟩
  have HMO : Hid (MsOwn (u1.alloc (.cells #[.int .u64 E, .slice (some ⟨G, 0, none⟩) n n] 25)) w.heap.size (.slice (some ⟨G, 0, none⟩) n n) ms raw) := (hm1.kept gb (by simp)).base HSW.out
  have EM : Hid (u1.heap.size = M) := eM
  have HWN : Hid (N < W0.heap.size) := (Array.getElem?_eq_some_iff.1 HN0.out).1
  have HMW : Hid (MsOwn (u1.alloc (.cells #[.int .u64 E, .slice (some ⟨G, 0, none⟩) n n] 25)) W0.heap.size (.slice (some ⟨G, 0, none⟩) n n) ms raw) := hm1.kept gb (by simp)
  clear eM hm1 hg1 gb hn1 HN0 HGA
  have HSN : Hid (∀ (u : World) (x y : Value), u.grownBy ((u.setCell ⟨N, 0, none⟩ x).setCell ⟨N, 1, none⟩ y) (some N)) := fun u x y => gb_trans (gb_set (g := N) rfl) (gb_set (g := N) rfl) (fun j hj => .inr hj)
  cases ok with
  | false =>
    have HQ : Hid (q = 130) := by show _ = _; rw [HDC.out]; simp
    obtain ⟨r0, r1⟩ := cell2 HB.out.res
    have f0 := free_row HB.out.res 0
    have f1 := free_row HB.out.res 1
    go_wp2
    refine bodyPost_ret (v := .tuple #[.agg #[.int .u64 0, .slice none 0 0], .int .i64 130]) (results_row_tmp Tryz.results33 _ _ _ N 25 _ (0, 0) _ rfl (pair_set HB.out.res (.int .u64 0) (.slice none 0 0)) Tryz.underlying25 isz25) rfl ?_
    exact ⟨0, none, 0, 0, by rw [HQ.out], gb_trans HB.out.gb (HSN.out _ _ _) (fun k hk => .inl (by cases hk; have := EN.out; omega)), fun e => absurd e (by rw [HQ.out]; decide), fun _ => ⟨rfl, rfl, rfl, rfl⟩⟩
  | true =>
    have C := HMB.out (some ⟨G, 0, none⟩) n n raw _ HMW.out.rd.1 HLN.out
    obtain ⟨b0, b1⟩ := cell2 HB.out.box
    have HDC2 : Hid (q = if ringOk ms = true then 0 else 130) := by show _ = _; rw [HDC.out]; simp
    generalize ringOk ms = R at C HDC2
    clear HDC HMB
    go_wp2_with fail
    rw [EM.out] at *
    generalize u1.alloc (.cells #[.int .u64 E, .slice (some ⟨G, 0, none⟩) n n] 25) = U at *
    clear b0 b1
    refine C.mono ?_
    rintro e u2 ⟨rfl, hg2⟩
    have HB2 : Hid (DB w u2 N M E (.slice (some ⟨G, 0, none⟩) n n)) := HB.out.grown hg2
    have HM2 : Hid (MsOwn u2 W0.heap.size (.slice (some ⟨G, 0, none⟩) n n) ms raw) := HMW.out.kept hg2 (by simp)
    clear HB HMW HMO hg2 C
    obtain ⟨b0, b1⟩ := cell2 HB2.out.box
    obtain ⟨r0, r1⟩ := cell2 HB2.out.res
    have f0 := free_row HB2.out.res 0
    have f1 := free_row HB2.out.res 1
    cases R with
    | false =>
      have HQ : Hid (q = 130) := by show _ = _; rw [HDC2.out]; simp
      go_wp2
      refine bodyPost_ret (v := .tuple #[.agg #[.int .u64 0, .slice none 0 0], .int .i64 130]) (results_row_tmp Tryz.results33 _ _ _ N 25 _ (0, 0) _ rfl (pair_set HB2.out.res (.int .u64 0) (.slice none 0 0)) Tryz.underlying25 isz25) rfl ?_
      exact ⟨0, none, 0, 0, by rw [HQ.out], gb_trans HB2.out.gb (HSN.out _ _ _) (fun k hk => .inl (by cases hk; have := EN.out; omega)), fun e => absurd e (by rw [HQ.out]; decide), fun _ => ⟨rfl, rfl, rfl, rfl⟩⟩
    | true =>
      have HQ : Hid (q = 0) := by show _ = _; rw [HDC2.out]; simp
      go_wp2
      refine bodyPost_ret (v := .tuple #[.agg #[.int .u64 E, .slice (some ⟨G, 0, none⟩) n n], .int .i64 0]) (results_row_tmp Tryz.results33 _ _ _ N 25 _ (0, 0) _ rfl (pair_set HB2.out.res (.int .u64 E) (.slice (some ⟨G, 0, none⟩) n n)) Tryz.underlying25 isz25) rfl ?_
      refine ⟨E, some ⟨G, 0, none⟩, n, n, by rw [HQ.out], gb_trans HB2.out.gb (HSN.out _ _ _) (fun k hk => .inl (by cases hk; have := EN.out; omega)), fun _ => ⟨rfl, rfl, raw, ?_⟩, fun e => absurd HQ.out e⟩
      exact (HM2.out.kept (HSN.out u2 _ _) (fun k hk => by cases hk; exact .inl HWN.out)).base HSW.out
end Go.Proofs.YtboamjhlaehoaaaGreat

