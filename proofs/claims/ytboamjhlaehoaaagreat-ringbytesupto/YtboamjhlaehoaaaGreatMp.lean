/- Several texts in one: Sf, Sg, Si, Sh. -/
import Derived.Test.YtboamjhlaehoaaaGreatMo
import Derived.Laws.OwnMore
import Derived.Test.YtboamjhlaehoaaaGreatMr
/- Rings: readMember. -/
namespace Go.Proofs.YtboamjhlaehoaaaGreat
open Go.RowKit
set_option linter.unusedVariables false
set_option maxRecDepth 20000

/-- The box of the member that is read, beside the reader. -/
structure MB (w W : World) (N B : Nat) (a : Option Addr) (L c : Nat) (zs : List Int) (s : Int × Bool) (id st : Int) (V : Value) : Prop where
  res : W.heap[N]? = some (.cells #[.int .i64 0, .int .i64 0, .slice none 0 0] 61 (0, 0))
  box : W.heap[N + 1]? = some (.cells #[.int .i64 id, .int .i64 st, V] 61 (0, 0))
  rd : RAt W B a L c zs s.1 s.2
  gb : w.grownBy W (some B)
theorem MB.next {w W W' : World} {N B : Nat} {a : Option Addr} {L c : Nat} {zs : List Int} {s : Int × Bool} {id st : Int} {V : Value} {r : Int × Int × Bool} (h : MB w W N B a L c zs s id st V) (hB : B < N) (h1 : RAt W' B a L c zs r.2.1 r.2.2 ∧ W.grownBy W' (some B)) : MB w W' N B a L c zs r.2 id st V :=
  ⟨by rw [h1.2.block N (Array.getElem?_eq_some_iff.1 h.res).1 (fun e => by cases e; omega)]; exact h.res, by rw [h1.2.block (N + 1) (Array.getElem?_eq_some_iff.1 h.box).1 (fun e => by cases e; omega)]; exact h.box, h1.1, gb_trans h.gb h1.2 (fun k hk => .inr hk)⟩
theorem MB.row {w W : World} {N B : Nat} {a : Option Addr} {L c : Nat} {zs : List Int} {s : Int × Bool} {id st : Int} {V : Value} (h : MB w W N B a L c zs s id st V) (hN : w.heap.size = N) (hB : B < N) {j : Nat} {v : Value} {id' st' : Int} {V' : Value} (hc : (#[.int .i64 id, .int .i64 st, V] : Array Value).set! j v = #[.int .i64 id', .int .i64 st', V']) : MB w (W.setCell ⟨N + 1, j, none⟩ v) N B a L c zs s id' st' V' := by
  have hg : W.grownBy (W.setCell ⟨N + 1, j, none⟩ v) (some (N + 1)) := gb_set rfl
  have hb : (W.setCell ⟨N + 1, j, none⟩ v).heap[N + 1]? = some (.cells #[.int .i64 id', .int .i64 st', V'] 61 (0, 0)) := by
    rw [← hc]
    simp [World.setCell, Array.getElem?_modify, h.box, Array.set!_eq_setIfInBounds]
  refine ⟨by rw [set_other _ (by omega)]; exact h.res, hb, h.rd.grown hg (fun k hk => ?_), gb_trans h.gb hg (fun k hk => .inl (by cases hk; omega))⟩
  cases hk
  exact ⟨by omega, fun ht => Typed.ne ht ⟨_, h.box⟩ (by decide) rfl⟩
theorem MB.made (w : World) (B : Nat) (a : Option Addr) (L c : Nat) (zs : List Int) (p : Int) (bad : Bool) (h : RAt w B a L c zs p bad) : MB w ((w.alloc (.cells #[.int .i64 0, .int .i64 0, .slice none 0 0] 61)).alloc (.cells #[.int .i64 0, .int .i64 0, .slice none 0 0] 61)) w.heap.size B a L c zs (p, bad) 0 0 (.slice none 0 0) := by
  have s1 := size_alloc w (.cells #[.int .i64 0, .int .i64 0, .slice none 0 0] 61)
  have g1 := World.grownBy_alloc w (.cells #[.int .i64 0, .int .i64 0, .slice none 0 0] 61) none
  have n1 := heap_alloc_new w (.cells #[.int .i64 0, .int .i64 0, .slice none 0 0] 61)
  generalize w.alloc (.cells #[.int .i64 0, .int .i64 0, .slice none 0 0] 61) = W1 at s1 g1 n1 ⊢
  have g2 := World.grownBy_alloc W1 (.cells #[.int .i64 0, .int .i64 0, .slice none 0 0] 61) none
  have n2 := heap_alloc_new W1 (.cells #[.int .i64 0, .int .i64 0, .slice none 0 0] 61)
  rw [s1] at n2
  exact ⟨by rw [g2.block _ (by omega) (by simp)]; exact n1, n2, h.grown (g1.trans g2) (by simp), gb_weak (g1.trans g2)⟩
end Go.Proofs.YtboamjhlaehoaaaGreat

/- Rings: readMember, walked. -/
namespace Go.Proofs.YtboamjhlaehoaaaGreat
open Go.RowKit
set_option linter.unusedVariables false
set_option maxRecDepth 20000

theorem wrapI (x : Int) (h : 0 ≤ x ∧ x ≤ 1000) : IntKind.i64.wrap x = x := by rw [IntKind.wrap_i64]; omega
theorem isz61 : (Tryz.prog.info? 61).map (·.size) = some 3 := by kernel_rfl
theorem made_words (n : Nat) : (madeCells (Value.int .u32 0).cells (n * 1)).toList = wordE.flat (List.replicate n 0) := by
  have key : ∀ n : Nat, (List.range n).map (fun i => (Value.int .u32 0).cells[i % (Value.int .u32 0).cells.size]!) = (List.replicate n (0 : Int)).flatMap (fun x => [Value.int .u32 x]) := by
    intro n
    induction n with
    | zero => rfl
    | succ n ih =>
      rw [List.range_succ, List.map_append, ih, List.replicate_succ', List.flatMap_append]
      have : (Value.int .u32 0).cells.size = 1 := rfl
      simp [Nat.mod_one, Value.cells]
  rw [Nat.mul_one]
  have := key n
  simpa [madeCells, Elem.flat, wordE] using this
theorem MB.free {w W W' : World} {row : Option Nat} {N B : Nat} {a : Option Addr} {L c : Nat} {zs : List Int} {s : Int × Bool} {id st : Int} {V : Value} (h : MB w W N B a L c zs s id st V) (hN : w.heap.size = N) (hg : W.grownBy W' row) (hr : ∀ k, row = some k → N + 2 ≤ k ∧ ¬ Typed W k 5) (hB : B < N) : MB w W' N B a L c zs s id st V :=
  ⟨by rw [hg.block N (Array.getElem?_eq_some_iff.1 h.res).1 (fun e => by have := (hr N e.symm).1; omega)]; exact h.res, by rw [hg.block (N + 1) (Array.getElem?_eq_some_iff.1 h.box).1 (fun e => by have := (hr (N + 1) e.symm).1; omega)]; exact h.box, h.rd.grown hg (fun k hk => ⟨by have := (hr k hk).1; omega, (hr k hk).2⟩), gb_trans h.gb hg (fun k hk => .inl (by have := (hr k hk).1; omega))⟩
/-- What readMember leaves. -/
def MmOut (w : World) (B : Nat) (a : Option Addr) (L c : Nat) (zs : List Int) (r : Mem × Int × Bool) (e : Ending) (w' : World) : Prop :=
  ∃ ta tc, e = .returned (.agg #[.int .i64 r.1.1, .int .i64 r.1.2.1, .slice ta r.1.2.2.length tc]) ∧ SOwn wordE 43 w' w.heap.size (.slice ta r.1.2.2.length tc) r.1.2.2.length r.1.2.2 ∧ RAt w' B a L c zs r.2.1 r.2.2 ∧ w.grownBy w' (some B)
set_option maxHeartbeats 4000000 in
theorem rd_member (w : World) (B : Nat) (a : Option Addr) (L c : Nat) (zs : List Int) (p : Int) (bad : Bool) (h : RAt w B a L c zs p bad) (hz : ∀ k, 0 ≤ zs.getD k 0 ∧ zs.getD k 0 ≤ 255) :
    Calls Tryz.prog 86 #[.pointer (some ⟨B, 0, none⟩)] w fun e w' => MmOut w B a L c zs (memR zs (p, bad)) e w' := by
  obtain ⟨N, eN⟩ : ∃ N, w.heap.size = N := ⟨_, rfl⟩
  have EN : Hid (w.heap.size = N) := eN
  have HBN : Hid (B < N) := by show _ < _; rw [← eN]; exact h.lt
  have HZ : Hid (∀ k, 0 ≤ zs.getD k 0 ∧ zs.getD k 0 ≤ 255) := hz
  have HM0 : Hid (MB w ((w.alloc (.cells #[.int .i64 0, .int .i64 0, .slice none 0 0] 61)).alloc (.cells #[.int .i64 0, .int .i64 0, .slice none 0 0] 61)) N B a L c zs (p, bad) 0 0 (.slice none 0 0)) := by rw [← eN]; exact MB.made w B a L c zs p bad h
  have HUP : Hid (∀ m s W, RAt W B a L c zs s.1 s.2 → Calls Tryz.prog 85 #[.pointer (some ⟨B, 0, none⟩), .int .u64 m] W fun e w' => NxOut W B a L c zs (upTo zs m s) e w') := fun m s W hr => g_upTo W B a L c zs s.1 m s.2 hr
  have HRR : Hid (memR zs (p, bad) = (((upTo zs 15 (p, bad)).1, (upTo zs 3 (upTo zs 15 (p, bad)).2).1, (wordsR zs (upTo zs 64 (upTo zs 3 (upTo zs 15 (p, bad)).2).2).1.toNat (upTo zs 64 (upTo zs 3 (upTo zs 15 (p, bad)).2).2).2).1), (wordsR zs (upTo zs 64 (upTo zs 3 (upTo zs 15 (p, bad)).2).2).1.toNat (upTo zs 64 (upTo zs 3 (upTo zs 15 (p, bad)).2).2).2).2)) := rfl
  have k1 := upTo_range hz 15 (by decide) (p, bad)
  have k2 := upTo_range hz 3 (by decide) (upTo zs 15 (p, bad)).2
  have k3 := upTo_range hz 64 (by decide) (upTo zs 3 (upTo zs 15 (p, bad)).2).2
  have C1 := HUP.out 15 (p, bad) _ HM0.out.rd
  have HC2 : Hid (∀ W, RAt W B a L c zs (upTo zs 15 (p, bad)).2.1 (upTo zs 15 (p, bad)).2.2 → Calls Tryz.prog 85 #[.pointer (some ⟨B, 0, none⟩), .int .u64 3] W fun e w' => NxOut W B a L c zs (upTo zs 3 (upTo zs 15 (p, bad)).2) e w') := fun W hr => HUP.out 3 _ W hr
  have HC3 : Hid (∀ W, RAt W B a L c zs (upTo zs 3 (upTo zs 15 (p, bad)).2).2.1 (upTo zs 3 (upTo zs 15 (p, bad)).2).2.2 → Calls Tryz.prog 85 #[.pointer (some ⟨B, 0, none⟩), .int .u64 64] W fun e w' => NxOut W B a L c zs (upTo zs 64 (upTo zs 3 (upTo zs 15 (p, bad)).2).2) e w') := fun W hr => HUP.out 64 _ W hr
  generalize memR zs (p, bad) = RR at HRR ⊢
  generalize upTo zs 15 (p, bad) = r1 at HRR k1 k2 k3 C1 HC2 HC3
  generalize upTo zs 3 r1.2 = r2 at HRR k2 k3 HC2 HC3
  generalize upTo zs 64 r2.2 = r3 at HRR k3 HC3
  have w1 := wrapI r1.1 (by omega)
  have w2 := wrapI r2.1 (by omega)
  obtain ⟨x3, s3⟩ := r3
  obtain ⟨K, hK⟩ : ∃ K : Nat, x3 = (K : Int) := ⟨x3.toNat, by simp only at k3; omega⟩
  subst hK
  simp only [Int.toNat_natCast] at HRR k3
  have HK : Hid (K ≤ 64) := by show _ ≤ _; omega
  have HW4 : Hid (∀ k, 0 ≤ (upTo zs 4294967295 (wordsR zs k s3).2).1 ∧ (upTo zs 4294967295 (wordsR zs k s3).2).1 ≤ 4294967295) := fun k => upTo_range hz 4294967295 (by decide) _
  clear k1 k2 k3
  clear h hz eN
  go_enter Tryz.func86, Tryz.ntmps86
  go_wp2_with fail
  rw [EN.out]
  generalize ((w.alloc (.cells #[.int .i64 0, .int .i64 0, .slice none 0 0] 61)).alloc (.cells #[.int .i64 0, .int .i64 0, .slice none 0 0] 61)) = W0 at HM0 C1 ⊢
  refine C1.mono ?_
  intro e u1 hx
  obtain ⟨rfl, H1⟩ := nx_call hx
  clear hx
  have HM1 : Hid (MB w u1 N B a L c zs r1.2 0 0 (.slice none 0 0)) := HM0.out.next HBN.out H1.out
  obtain ⟨d0, d1, d2⟩ := cell3 HM1.out.box
  have f0 := free_row HM1.out.box 0
  have HM2 : Hid (MB w (u1.setCell ⟨N + 1, 0, none⟩ (.int .i64 r1.1)) N B a L c zs r1.2 r1.1 0 (.slice none 0 0)) := HM1.out.row EN.out HBN.out rfl
  have C2 := HC2.out _ HM2.out.rd
  clear H1
  go_wp2_with fail
  generalize u1.setCell ⟨N + 1, 0, none⟩ (.int .i64 r1.1) = W1 at HM2 C2 ⊢
  clear d0 d1 d2 f0 HM1
  refine C2.mono ?_
  intro e u2 hx
  obtain ⟨rfl, H2⟩ := nx_call hx
  clear hx
  have HM3 : Hid (MB w u2 N B a L c zs r2.2 r1.1 0 (.slice none 0 0)) := HM2.out.next HBN.out H2.out
  obtain ⟨d0, d1, d2⟩ := cell3 HM3.out.box
  have f1 := free_row HM3.out.box 1
  have HM4 : Hid (MB w (u2.setCell ⟨N + 1, 1, none⟩ (.int .i64 r2.1)) N B a L c zs r2.2 r1.1 r2.1 (.slice none 0 0)) := HM3.out.row EN.out HBN.out rfl
  have C3 := HC3.out _ HM4.out.rd
  clear H2
  go_wp2_with fail
  generalize u2.setCell ⟨N + 1, 1, none⟩ (.int .i64 r2.1) = W2 at HM4 C3 ⊢
  clear d0 d1 d2 f1 HM3
  refine C3.mono ?_
  intro e u3 hx
  obtain ⟨rfl, H3⟩ := nx_call hx
  clear hx
  have HM5 : Hid (MB w u3 N B a L c zs s3 r1.1 r2.1 (.slice none 0 0)) := HM4.out.next HBN.out H3.out
  clear H3 HM4
  obtain ⟨i0, hi, hz0, hz1, hz2⟩ := info_part info43
  have hN2 : N + 2 ≤ u3.heap.size := (Array.getElem?_eq_some_iff.1 HM5.out.box).1
  obtain ⟨u4, hmk, ho4, hg4⟩ := run_make_full (P := Tryz.prog) u3 (N + 2) 36 43 i0 (.int .u32 0) 1 Tryz.underlying36 hi hz0 hz1 .u64 .u64 K (by rw [hz2]; have := HK.out; omega) (by have := HK.out; unfold maxLen; omega) hN2
  obtain ⟨G, eG⟩ : ∃ G, u3.heap.size = G := ⟨_, rfl⟩
  rw [eG] at hmk ho4
  have HGN : Hid (N + 2 ≤ G) := by show _ ≤ _; omega
  have HO4 : Hid (SOwn wordE 43 u4 (N + 2) (.slice (some ⟨G, 0, none⟩) K K) K (List.replicate K 0)) := by
    show World.ownsRow _ _ _ _ _ _ _
    rw [← made_words K]
    exact ho4
  have HM6 : Hid (MB w u4 N B a L c zs s3 r1.1 r2.1 (.slice none 0 0)) := HM5.out.free EN.out hg4 (by simp) HBN.out
  obtain ⟨d0, d1, d2⟩ := cell3 HM6.out.box
  have f2 := free_row HM6.out.box 2
  have HM7 : Hid (MB w (u4.setCell ⟨N + 1, 2, none⟩ (.slice (some ⟨G, 0, none⟩) K K)) N B a L c zs s3 r1.1 r2.1 (.slice (some ⟨G, 0, none⟩) K K)) := HM6.out.row EN.out HBN.out rfl
  have HO7 : Hid (SOwn wordE 43 (u4.setCell ⟨N + 1, 2, none⟩ (.slice (some ⟨G, 0, none⟩) K K)) (N + 2) (.slice (some ⟨G, 0, none⟩) K K) K ((wordsR zs 0 s3).1 ++ List.replicate (K - 0) 0)) := by
    refine sown_stay HO4.out (fun y hy => ?_)
    cases hy
    exact set_other _ (by show G ≠ N + 1; have := HGN.out; omega)
  obtain ⟨q0, q1, q2⟩ := cell3 HM7.out.box
  clear ho4 hg4 eG hi hz0 hz1 hz2 hN2 HM5
  go_wp2_with fail
  generalize u4.setCell ⟨N + 1, 2, none⟩ (.slice (some ⟨G, 0, none⟩) K K) = W7 at HM7 HO7 q0 q1 q2 ⊢
  clear d0 d1 d2 f2 hmk q0 q1 q2
  go_loopw [20] (fun t20 wr => ∃ k : Nat, k ≤ K ∧ t20 = .int .i64 k ∧ MB w wr N B a L c zs (wordsR zs k s3).2 r1.1 r2.1 (.slice (some ⟨G, 0, none⟩) K K) ∧ SOwn wordE 43 wr (N + 2) (.slice (some ⟨G, 0, none⟩) K K) K ((wordsR zs k s3).1 ++ List.replicate (K - k) 0)) (fun t20 _ => K - (intOf t20).toNat)
  case atStart => exact ⟨0, Nat.zero_le _, rfl, HM7.out, HO7.out⟩
  case round =>
    clear HM7 HO7
    have hk64 := HK.out
    obtain ⟨k, hk, rfl, hm, ho⟩ := hrel
    have HM : Hid (MB w wr N B a L c zs (wordsR zs k s3).2 r1.1 r2.1 (.slice (some ⟨G, 0, none⟩) K K)) := hm
    have HO : Hid (SOwn wordE 43 wr (N + 2) (.slice (some ⟨G, 0, none⟩) K K) K ((wordsR zs k s3).1 ++ List.replicate (K - k) 0)) := ho
    clear hm ho
    by_cases hlt : k < K
    · have hkk : (k : Int) < (K : Int) := by omega
      have HS : Hid (wr.drew.cell? ⟨N + 1, 2, none⟩ = some (.slice (some ⟨G, 0, none⟩) K K)) := (cell3 HM.out.box).2.2
      have HMD : Hid (MB w wr.drew N B a L c zs (wordsR zs k s3).2 r1.1 r2.1 (.slice (some ⟨G, 0, none⟩) K K)) := HM.out.free EN.out (gb_drew (row := none) (World.grownBy.refl _ _)) (by simp) HBN.out
      have HOD : Hid (SOwn wordE 43 wr.drew (N + 2) (.slice (some ⟨G, 0, none⟩) K K) K ((wordsR zs k s3).1 ++ List.replicate (K - k) 0)) := SOwn.kept HO.out (gb_drew (row := none) (World.grownBy.refl _ _)) (Classical.em _)
      have hx4 := HW4.out k
      have HST : Hid (wordsR zs (k + 1) s3 = ((wordsR zs k s3).1 ++ [(upTo zs 4294967295 (wordsR zs k s3).2).1], (upTo zs 4294967295 (wordsR zs k s3).2).2)) := rfl
      have HLW : Hid ((wordsR zs k s3).1.length = k) := wordsR_len zs s3 k
      have HCL : Hid (Calls Tryz.prog 85 #[.pointer (some ⟨B, 0, none⟩), .int .u64 4294967295] wr.drew fun e w' => NxOut wr.drew B a L c zs (upTo zs 4294967295 (wordsR zs k s3).2) e w') := HUP.out 4294967295 (wordsR zs k s3).2 wr.drew HMD.out.rd
      generalize upTo zs 4294967295 (wordsR zs k s3).2 = r4 at hx4 HST HCL
      have w4 : IntKind.u32.wrap r4.1 = r4.1 := by
        have : IntKind.u32.wrap r4.1 = r4.1 % 4294967296 := by simp [IntKind.wrap, IntKind.bits, IntKind.signed]
        omega
      clear hx4
      go_wp2_with fail
      refine wp_region_held_drew (S := fun u => u.cell? ⟨N + 1, 2, none⟩ = some (.slice (some ⟨G, 0, none⟩) K K)) (by kernel_rfl) HS.out (fun hHeld => ?_)
      refine wpAnyH_take (i := 0) (v := .pointer (some ⟨N + 1, 2, none⟩)) rfl (by kernel_rfl) (by kernel_rfl) (by kernel_rfl) (fun _ _ _ h => h) (Or.inl ⟨by rfl, fun w hSw => ?_⟩) (by assumption) ?_
      · go_simp
      (try simp only [Act.put]); (try simp only [List.setIfInBounds_toArray]); (try simp only [List.set_cons_succ]); (try simp only [List.set_cons_zero])
      refine wpAnyH_take (i := 1) (v := .slice (some ⟨G, 0, none⟩) K K) rfl (by kernel_rfl) (by kernel_rfl) (by kernel_rfl) (fun _ _ _ h => h) (Or.inl ⟨by rfl, fun w hSw => ?_⟩) (by assumption) ?_
      · go_simp
      (try simp only [Act.put]); (try simp only [List.setIfInBounds_toArray]); (try simp only [List.set_cons_succ]); (try simp only [List.set_cons_zero])
      refine wpAnyH_take (i := 2) (v := .int .i64 (k : Int)) rfl (by kernel_rfl) (by kernel_rfl) (by kernel_rfl) (fun _ _ _ h => h) (Or.inl ⟨by rfl, fun w hSw => ?_⟩) (by assumption) ?_
      · go_simp
      (try simp only [Act.put]); (try simp only [List.setIfInBounds_toArray]); (try simp only [List.set_cons_succ]); (try simp only [List.set_cons_zero])
      refine wpAnyH_take (i := 3) (v := .pointer (some ⟨B, 0, none⟩)) rfl (by kernel_rfl) (by kernel_rfl) (by kernel_rfl) (fun _ _ _ h => h) (Or.inl ⟨by rfl, fun w hSw => ?_⟩) (by assumption) ?_
      · go_simp
      (try simp only [Act.put]); (try simp only [List.setIfInBounds_toArray]); (try simp only [List.set_cons_succ]); (try simp only [List.set_cons_zero])
      refine wpAnyH_ready (rs := [4]) (by kernel_rfl) (by simp) (AllReadyH.cons (i := 4) rfl (fun K9 hK => ?_) AllReadyH.nil)
      go_simp
      refine HCL.out.mono ?_
      intro e u5 hx
      obtain ⟨rfl, H5⟩ := nx_call hx
      clear hx
      have HM5 : Hid (MB w u5 N B a L c zs r4.2 r1.1 r2.1 (.slice (some ⟨G, 0, none⟩) K K)) := HMD.out.next HBN.out H5.out
      have HO5 : Hid (SOwn wordE 43 u5 (N + 2) (.slice (some ⟨G, 0, none⟩) K K) K ((wordsR zs k s3).1 ++ List.replicate (K - k) 0)) := SOwn.kept HOD.out H5.out.2 (.inr (fun e => by have := HGN.out; have := HBN.out; simp [Value.ownBlock] at e; omega))
      refine hK.out _ _ (cell3 HM5.out.box).2.2 (fun hHeld => ?_)
      clear hK K9 H5
      (try simp only [Act.put]); (try simp only [List.setIfInBounds_toArray]); (try simp only [List.set_cons_succ]); (try simp only [List.set_cons_zero])
      refine wpAnyH_take (i := 5) (v := .int .u32 r4.1) rfl (by kernel_rfl) (by kernel_rfl) (by kernel_rfl) (fun _ _ _ h => h) (Or.inl ⟨by rfl, fun w hSw => ?_⟩) (by assumption) ?_
      · go_simp
      (try simp only [Act.put]); (try simp only [List.setIfInBounds_toArray]); (try simp only [List.set_cons_succ]); (try simp only [List.set_cons_zero])
      refine wpAnyH_take (i := 6) (v := .pointer (some ⟨G, k, none⟩)) rfl (by kernel_rfl) (by kernel_rfl) (by kernel_rfl) (fun _ _ _ h => h) (Or.inl ⟨by rfl, fun w hSw => ?_⟩) (by assumption) ?_
      · go_simp
      (try simp only [Act.put]); (try simp only [List.setIfInBounds_toArray]); (try simp only [List.set_cons_succ]); (try simp only [List.set_cons_zero])
      have g1 := sown_cellW HO5.out hlt
      have g2 := sown_free HO5.out k
      have HO6 : Hid (SOwn wordE 43 (u5.setCell ⟨G, k, none⟩ (.int .u32 r4.1)) (N + 2) (.slice (some ⟨G, 0, none⟩) K K) K ((wordsR zs (k + 1) s3).1 ++ List.replicate (K - (k + 1)) 0)) := by
        have := sown_setW HO5.out hlt r4.1
        have e : ((wordsR zs k s3).1 ++ List.replicate (K - k) 0).set k r4.1 = (wordsR zs (k + 1) s3).1 ++ List.replicate (K - (k + 1)) 0 := by
          rw [HST.out, List.set_append_right _ _ (by have := HLW.out; omega), HLW.out, Nat.sub_self, show K - k = (K - (k + 1)) + 1 by omega, List.replicate_succ]
          simp
        rw [← e]
        exact this
      have HM6 : Hid (MB w (u5.setCell ⟨G, k, none⟩ (.int .u32 r4.1)) N B a L c zs (wordsR zs (k + 1) s3).2 r1.1 r2.1 (.slice (some ⟨G, 0, none⟩) K K)) := by
        rw [HST.out]
        exact HM5.out.free EN.out (gb_set (g := G) rfl) (fun j hj => by cases hj; exact ⟨HGN.out, typed_ne (sown_typed HO5.out) (by decide)⟩) HBN.out
      refine wpAnyH_ready (rs := [7]) (by kernel_rfl) (by simp) (AllReadyH.cons (i := 7) rfl (fun K9 hK => ?_) AllReadyH.nil)
      go_simp
      refine hK.out _ _ (cell3 HM6.out.box).2.2 (fun hHeld => ?_)
      clear hK K9
      (try simp only [Act.put]); (try simp only [List.setIfInBounds_toArray]); (try simp only [List.set_cons_succ]); (try simp only [List.set_cons_zero])
      refine wpAnyH_done (by kernel_rfl) ?_ _
      clear hHeld
      go_wp2
      go_roundw
      case rel => exact ⟨k + 1, by omega, by go_num, HM6.out, HO6.out⟩
      case measure => simp [intOf]; omega
    · obtain rfl : k = K := by omega
      have HO5 : Hid (SOwn wordE 43 wr (N + 2) (.slice (some ⟨G, 0, none⟩) k k) k (wordsR zs k s3).1) := by show SOwn _ _ _ _ _ _ _; have := HO.out; rw [Nat.sub_self] at this; simpa using this
      obtain ⟨d0, d1, d2⟩ := cell3 HM.out.box
      obtain ⟨e0, e1, e2⟩ := cell3 HM.out.res
      have f0 := free_row HM.out.res 0
      have f1 := free_row HM.out.res 1
      have f2 := free_row HM.out.res 2
      go_wp2
      have hset : (((wr.setCell ⟨N, 0, none⟩ (.int .i64 r1.1)).setCell ⟨N, 1, none⟩ (.int .i64 r2.1)).setCell ⟨N, 2, none⟩ (.slice (some ⟨G, 0, none⟩) k k)).heap[N]? = some (.cells #[.int .i64 r1.1, .int .i64 r2.1, .slice (some ⟨G, 0, none⟩) k k] 61 (0, 0)) := by
        simp [World.setCell, Array.getElem?_modify, HM.out.res]
      have hg1 : wr.grownBy (wr.setCell ⟨N, 0, none⟩ (.int .i64 r1.1)) (some N) := gb_set rfl
      have hg2 : wr.grownBy ((wr.setCell ⟨N, 0, none⟩ (.int .i64 r1.1)).setCell ⟨N, 1, none⟩ (.int .i64 r2.1)) (some N) := gb_trans hg1 (gb_set (g := N) rfl) (fun j hj => .inr hj)
      have hg3 : wr.grownBy (((wr.setCell ⟨N, 0, none⟩ (.int .i64 r1.1)).setCell ⟨N, 1, none⟩ (.int .i64 r2.1)).setCell ⟨N, 2, none⟩ (.slice (some ⟨G, 0, none⟩) k k)) (some N) := gb_trans hg2 (gb_set (g := N) rfl) (fun j hj => .inr hj)
      refine bodyPost_ret (v := .agg #[.int .i64 r1.1, .int .i64 r2.1, .slice (some ⟨G, 0, none⟩) k k]) (results_cell_row Tryz.results86 _ _ N 61 _ (0, 0) _ rfl hset Tryz.underlying61 rfl isz61) rfl ?_
      rw [HRR.out]
      unfold MmOut
      simp only [wordsR_len]
      refine ⟨some ⟨G, 0, none⟩, k, rfl, SOwn.base (SOwn.kept HO5.out hg3 (.inr (fun e => by have := HGN.out; simp [Value.ownBlock] at e; omega))) (by have := EN.out; omega), HM.out.rd.grown hg3 (fun j hj => ?_), gb_trans HM.out.gb hg3 (fun j hj => .inl (by cases hj; have := EN.out; omega))⟩
      cases hj
      exact ⟨by have := HBN.out; omega, typed_ne ⟨_, HM.out.res⟩ (by decide)⟩
end Go.Proofs.YtboamjhlaehoaaaGreat

/- Rings: read's boxes and rows. -/
namespace Go.Proofs.YtboamjhlaehoaaaGreat
open Go.RowKit
set_option linter.unusedVariables false
set_option maxRecDepth 20000

/-- A member's row before it is read. -/
def zrow : MRow := (0, 0, (none, 0, 0))
theorem made_mems (n : Nat) : (madeCells (Value.agg #[.int .i64 0, .int .i64 0, .slice none 0 0]).cells (n * 3)).toList = memE.flat (List.replicate n zrow) := by
  have hc : (Value.agg #[.int .i64 0, .int .i64 0, .slice none 0 0]).cells = #[.int .i64 0, .int .i64 0, .slice none 0 0] := rfl
  rw [hc]
  have key : ∀ n : Nat, (List.range (n * 3)).map (fun i => (#[.int .i64 0, .int .i64 0, .slice none 0 0] : Array Value)[i % 3]!) = (List.replicate n zrow).flatMap memE.cells := by
    intro n
    induction n with
    | zero => rfl
    | succ n ih =>
      have e : (n + 1) * 3 = n * 3 + 1 + 1 + 1 := by omega
      rw [e, List.range_succ, List.range_succ, List.range_succ, List.map_append, List.map_append, List.map_append, ih, List.replicate_succ', List.flatMap_append]
      have m0 : n * 3 % 3 = 0 := by omega
      have m1 : (n * 3 + 1) % 3 = 1 := by omega
      have m2 : (n * 3 + 1 + 1) % 3 = 2 := by omega
      simp [m0, m1, m2, memE, zrow]
  have := key n
  simpa [madeCells, Elem.flat] using this
/-- The boxes of read: what it answers, its reader, the ring that it fills. -/
structure QB (w W : World) (N M : Nat) (a : Option Addr) (L c : Nat) (zs : List Int) (s : Int × Bool) (E : Int) (V : Value) : Prop where
  res : W.heap[N]? = some (.cells #[.int .u64 0, .slice none 0 0] 25 (0, 0))
  rd : RAt W (N + 1) a L c zs s.1 s.2
  box : W.heap[M]? = some (.cells #[.int .u64 E, V] 25 (0, 0))
  gb : w.grownBy W none
theorem QB.next {w W W' : World} {N M : Nat} {a : Option Addr} {L c : Nat} {zs : List Int} {s s' : Int × Bool} {E : Int} {V : Value} (h : QB w W N M a L c zs s E V) (hN : w.heap.size = N) (hM : N + 1 < M) (h1 : RAt W' (N + 1) a L c zs s'.1 s'.2) (h2 : W.grownBy W' (some (N + 1))) : QB w W' N M a L c zs s' E V :=
  ⟨by rw [h2.block N (Array.getElem?_eq_some_iff.1 h.res).1 (fun e => by have := Option.some.inj e; omega)]; exact h.res, h1, by rw [h2.block M (Array.getElem?_eq_some_iff.1 h.box).1 (fun e => by have := Option.some.inj e; omega)]; exact h.box, gb_trans h.gb h2 (fun k hk => .inl (by cases hk; omega))⟩
theorem QB.free {w W W' : World} {row : Option Nat} {N M : Nat} {a : Option Addr} {L c : Nat} {zs : List Int} {s : Int × Bool} {E : Int} {V : Value} (h : QB w W N M a L c zs s E V) (hN : w.heap.size = N) (hM : N + 1 < M) (hg : W.grownBy W' row) (hr : ∀ k, row = some k → M + 1 ≤ k ∧ ¬ Typed W k 5) : QB w W' N M a L c zs s E V :=
  ⟨by rw [hg.block N (Array.getElem?_eq_some_iff.1 h.res).1 (fun e => by have := (hr N e.symm).1; omega)]; exact h.res, h.rd.grown hg (fun k hk => ⟨by have := (hr k hk).1; omega, (hr k hk).2⟩), by rw [hg.block M (Array.getElem?_eq_some_iff.1 h.box).1 (fun e => by have := (hr M e.symm).1; omega)]; exact h.box, gb_trans h.gb hg (fun k hk => .inl (by have := (hr k hk).1; omega))⟩
theorem QB.row {w W : World} {N M : Nat} {a : Option Addr} {L c : Nat} {zs : List Int} {s : Int × Bool} {E : Int} {V : Value} (h : QB w W N M a L c zs s E V) (hN : w.heap.size = N) (hM : N + 1 < M) (V' : Value) : QB w (W.setCell ⟨M, 1, none⟩ V') N M a L c zs s E V' := by
  have hg : W.grownBy (W.setCell ⟨M, 1, none⟩ V') (some M) := gb_set rfl
  refine ⟨by rw [set_other _ (by omega)]; exact h.res, h.rd.grown hg (fun k hk => ?_), set2 h.box _, gb_trans h.gb hg (fun k hk => .inl (by cases hk; omega))⟩
  cases hk
  exact ⟨by omega, fun ht => Typed.ne ht ⟨_, h.box⟩ (by decide) rfl⟩
/-- The rows read so far, and those still to come. -/
structure RowsAt (W : World) (base G K k : Nat) (ms : List Mem) (raw : List MRow) : Prop where
  own : SOwn memE 61 W base (.slice (some ⟨G, 0, none⟩) K K) K (raw ++ List.replicate (K - k) zrow)
  len : raw.length = k
  mlen : ms.length = k
  mem : ∀ (i : Nat) (r : MRow) (m : Mem), raw[i]? = some r → ms[i]? = some m → MOwn W base r m
theorem RowsAt.next {W W' : World} {row : Option Nat} {base G K k : Nat} {ms : List Mem} {raw : List MRow} (h : RowsAt W base G K k ms raw) (hg : W.grownBy W' row) (hr : ∀ j, row = some j → j < base) : RowsAt W' base G K k ms raw := by
  have hb := (SOwn.block h.own G rfl).1
  refine ⟨SOwn.kept h.own hg (.inr (fun e => by have := hr G e.symm; omega)), h.len, h.mlen, fun i r m h1 h2 => (h.mem i r m h1 h2).stay (fun j hj hbj => hg.block j (typed_lt hj) (fun e => by have := hr j e.symm; omega))⟩
theorem RowsAt.done {W : World} {base G K : Nat} {ms : List Mem} {raw : List MRow} (h : RowsAt W base G K K ms raw) : MsOwn W base (.slice (some ⟨G, 0, none⟩) K K) ms raw := by
  have ho := h.own
  rw [Nat.sub_self, List.replicate_zero, List.append_nil] at ho
  exact ⟨by rw [h.mlen]; exact ho, h.mem⟩
/-- One row is written. -/
theorem RowsAt.put {W : World} {base G K k : Nat} {ms : List Mem} {raw : List MRow} (h : RowsAt W base G K k ms raw) (hk : k < K) {r : MRow} {m : Mem} (hm : MOwn W base r m) :
    RowsAt (((W.setCell ⟨G, k * 3, none⟩ (.int .i64 r.1)).setCell ⟨G, k * 3 + 1, none⟩ (.int .i64 r.2.1)).setCell ⟨G, k * 3 + 2, none⟩ (.slice r.2.2.1 r.2.2.2.1 r.2.2.2.2)) base G K (k + 1) (ms ++ [m]) (raw ++ [r]) := by
  have e0 : (raw ++ List.replicate (K - k) zrow)[k]? = some zrow := by
    rw [List.getElem?_append_right (by rw [h.len]; exact Nat.le_refl _), h.len, Nat.sub_self, show K - k = (K - (k + 1)) + 1 by omega, List.replicate_succ]; rfl
  have es : (raw ++ List.replicate (K - k) zrow).set k r = (raw ++ [r]) ++ List.replicate (K - (k + 1)) zrow := by
    rw [List.set_append_right _ _ (by rw [h.len]; exact Nat.le_refl _), h.len, Nat.sub_self, show K - k = (K - (k + 1)) + 1 by omega, List.replicate_succ]
    simp
  have a1 := sown_set (j := k * 3) (u := .int .i64 r.1) h.own (l' := (raw ++ List.replicate (K - k) zrow).set k (r.1, 0, (none, 0, 0))) (flat_set memE _ k zrow (r.1, 0, (none, 0, 0)) 0 _ e0 (by decide) rfl)
  have e1 : ((raw ++ List.replicate (K - k) zrow).set k (r.1, 0, (none, 0, 0)))[k]? = some (r.1, 0, (none, 0, 0)) := by rw [List.getElem?_set_self (List.getElem?_eq_some_iff.1 e0).1]
  have a2 := sown_set (j := k * 3 + 1) (u := .int .i64 r.2.1) a1 (l' := ((raw ++ List.replicate (K - k) zrow).set k (r.1, 0, (none, 0, 0))).set k (r.1, r.2.1, (none, 0, 0))) (flat_set memE _ k _ (r.1, r.2.1, (none, 0, 0)) 1 _ e1 (by decide) rfl)
  rw [List.set_set] at a2
  have e2 : ((raw ++ List.replicate (K - k) zrow).set k (r.1, r.2.1, (none, 0, 0)))[k]? = some (r.1, r.2.1, (none, 0, 0)) := by rw [List.getElem?_set_self (List.getElem?_eq_some_iff.1 e0).1]
  have a3 := sown_set (j := k * 3 + 2) (u := .slice r.2.2.1 r.2.2.2.1 r.2.2.2.2) a2 (l' := ((raw ++ List.replicate (K - k) zrow).set k (r.1, r.2.1, (none, 0, 0))).set k r) (flat_set memE _ k _ r 2 _ e2 (by decide) rfl)
  rw [List.set_set, es] at a3
  have hG : Typed W G 61 := sown_typed h.own
  have hst : ∀ (q : MRow) (n : Mem), MOwn W base q n → MOwn (((W.setCell ⟨G, k * 3, none⟩ (.int .i64 r.1)).setCell ⟨G, k * 3 + 1, none⟩ (.int .i64 r.2.1)).setCell ⟨G, k * 3 + 2, none⟩ (.slice r.2.2.1 r.2.2.2.1 r.2.2.2.2)) base q n := fun q n hq => hq.stay (fun j hj _ => by
    have hne : j ≠ G := Typed.ne hj hG (by decide)
    rw [set_other _ hne, set_other _ hne, set_other _ hne])
  refine ⟨a3, by simp [h.len], by simp [h.mlen], fun i q n h1 h2 => ?_⟩
  by_cases hi : i < k
  · rw [List.getElem?_append_left (by rw [h.len]; exact hi)] at h1
    rw [List.getElem?_append_left (by rw [h.mlen]; exact hi)] at h2
    exact hst q n (h.mem i q n h1 h2)
  · rw [List.getElem?_append_right (by rw [h.len]; omega), h.len] at h1
    rw [List.getElem?_append_right (by rw [h.mlen]; omega), h.mlen] at h2
    obtain hi0 : i - k = 0 := by
      have := (List.getElem?_eq_some_iff.1 h1).1
      simp at this
      omega
    rw [hi0] at h1 h2
    simp at h1 h2
    subst h1 h2
    exact hst _ _ hm
theorem RowsAt.zero {W : World} {base G K k : Nat} {ms : List Mem} {raw : List MRow} (h : RowsAt W base G K k ms raw) (hk : k < K) : (W.cell? ⟨G, k * 3, none⟩ = some (.int .i64 0) ∧ W.cell? ⟨G, k * 3 + 1, none⟩ = some (.int .i64 0) ∧ W.cell? ⟨G, k * 3 + 2, none⟩ = some (.slice none 0 0)) ∧ W.frozen? ⟨G, k * 3, none⟩ = false ∧ W.frozen? ⟨G, k * 3 + 1, none⟩ = false ∧ W.frozen? ⟨G, k * 3 + 2, none⟩ = false := by
  have e0 : (raw ++ List.replicate (K - k) zrow)[k]? = some zrow := by
    rw [List.getElem?_append_right (by rw [h.len]; exact Nat.le_refl _), h.len, Nat.sub_self, show K - k = (K - (k + 1)) + 1 by omega, List.replicate_succ]; rfl
  refine ⟨?_, sown_free h.own _, sown_free h.own _, sown_free h.own _⟩
  have hrd := SOwn.rd h.own
  have hne := (List.getElem?_eq_some_iff.1 e0).1
  generalize raw ++ List.replicate (K - k) zrow = l at hrd e0 hne
  obtain ⟨b, o, e, hcc⟩ := hrd.at (by omega)
  cases e
  have c0 := hcc k zrow 0 (.int .i64 0) e0 rfl
  have c1 := hcc k zrow 1 (.int .i64 0) e0 rfl
  have c2 := hcc k zrow 2 (.slice none 0 0) e0 rfl
  rw [Nat.zero_add] at c0 c1 c2
  exact ⟨c0, c1, c2⟩
theorem QB.put3 {w W : World} {N M G : Nat} {a : Option Addr} {L c : Nat} {zs : List Int} {s : Int × Bool} {E : Int} {V : Value} (h : QB w W N M a L c zs s E V) (hN : w.heap.size = N) (hM : N + 1 < M) (hG : M + 1 ≤ G) (hT : Typed W G 61) (p q r : Nat) (x y z : Value) : QB w (((W.setCell ⟨G, p, none⟩ x).setCell ⟨G, q, none⟩ y).setCell ⟨G, r, none⟩ z) N M a L c zs s E V := by
  have g1 : W.grownBy (W.setCell ⟨G, p, none⟩ x) (some G) := gb_set rfl
  have g2 : W.grownBy ((W.setCell ⟨G, p, none⟩ x).setCell ⟨G, q, none⟩ y) (some G) := gb_trans g1 (gb_set (g := G) rfl) (fun j hj => .inr hj)
  have g3 : W.grownBy (((W.setCell ⟨G, p, none⟩ x).setCell ⟨G, q, none⟩ y).setCell ⟨G, r, none⟩ z) (some G) := gb_trans g2 (gb_set (g := G) rfl) (fun j hj => .inr hj)
  refine h.free hN hM g3 (fun j hj => ?_)
  cases hj
  exact ⟨hG, typed_ne hT (by decide)⟩
end Go.Proofs.YtboamjhlaehoaaaGreat

/- Rings: what was laid is read again. -/
namespace Go.Proofs.YtboamjhlaehoaaaGreat
open Go.RowKit
set_option linter.unusedVariables false
set_option maxRecDepth 20000

def InU (v : Int) : Prop := 0 ≤ v ∧ v ≤ 18446744073709551615
theorem encAll_app (xs ys : List Int) : encAll (xs ++ ys) = encAll xs ++ encAll ys := by simp [encAll]
theorem encAll_one (v : Int) : encAll [v] = enc v.toNat := by simp [encAll]
/-- Where a reader stands behind the numbers pre. -/
def posE (pre : List Int) : Int × Bool := (((encAll pre).length : Int), false)
theorem nxt_at (pre post : List Int) (v : Int) (hv : InU v) : nxt (encAll (pre ++ [v] ++ post)) (posE pre) = (v, posE (pre ++ [v])) := by
  have h := uintR_enc (encAll pre) (encAll post) v.toNat (by have := hv.2; have := hv.1; omega)
  have e : encAll (pre ++ [v] ++ post) = encAll pre ++ (enc v.toNat ++ encAll post) := by rw [encAll_app, encAll_app, encAll_one, List.append_assoc]
  have e2 : encAll (pre ++ [v]) = encAll pre ++ enc v.toNat := by rw [encAll_app, encAll_one]
  unfold nxt posE
  rw [e, e2, if_neg (by simp)]
  simp only [h]
  rw [if_pos trivial, List.length_append, Int.toNat_of_nonneg hv.1]
theorem upTo_at (pre post : List Int) (v m : Int) (hv : InU v) (hm : v ≤ m) : upTo (encAll (pre ++ [v] ++ post)) m (posE pre) = (v, posE (pre ++ [v])) := by
  unfold upTo
  rw [nxt_at pre post v hv, if_neg (by simp only; omega)]
theorem words_at (pre post ts : List Int) (ht : ∀ t ∈ ts, 0 ≤ t ∧ t < 4294967296) : ∀ k, k ≤ ts.length → wordsR (encAll (pre ++ ts ++ post)) k (posE pre) = (ts.take k, posE (pre ++ ts.take k))
  | 0, _ => by simp [wordsR]
  | k + 1, hk => by
    have ih := words_at pre post ts ht k (by omega)
    obtain ⟨x, hx⟩ : ∃ x, ts[k]? = some x := ⟨_, List.getElem?_eq_getElem (by omega)⟩
    have hr := ht x (List.mem_of_getElem? hx)
    have e1 : ts.take (k + 1) = ts.take k ++ [x] := by rw [List.take_add_one, hx]; rfl
    have e2 : pre ++ ts ++ post = (pre ++ ts.take k) ++ [x] ++ (ts.drop (k + 1) ++ post) := by
      have e3 : ts = ts.take k ++ [x] ++ ts.drop (k + 1) := by rw [← e1, List.take_append_drop]
      generalize ts.take k = A at e3 ⊢
      generalize ts.drop (k + 1) = D at e3 ⊢
      rw [e3]; simp
    unfold wordsR
    rw [ih]
    simp only
    rw [e2, upTo_at _ _ x 4294967295 ⟨hr.1, by omega⟩ (by omega), e1]
    simp only [List.append_assoc]
theorem mem_at (pre post : List Int) (m : Mem) (h1 : 0 ≤ m.1 ∧ m.1 ≤ 15) (h2 : 0 ≤ m.2.1 ∧ m.2.1 ≤ 3) (h3 : m.2.2.length ≤ 64) (ht : ∀ t ∈ m.2.2, 0 ≤ t ∧ t < 4294967296) : memR (encAll (pre ++ nmem m ++ post)) (posE pre) = (m, posE (pre ++ nmem m)) := by
  obtain ⟨i, s, ts⟩ := m
  simp only at h1 h2 h3 ht
  have a1 := upTo_at pre ([s, (ts.length : Int)] ++ ts ++ post) i 15 ⟨h1.1, by omega⟩ h1.2
  have a2 := upTo_at (pre ++ [i]) ([(ts.length : Int)] ++ ts ++ post) s 3 ⟨h2.1, by omega⟩ h2.2
  have a3 := upTo_at (pre ++ [i] ++ [s]) (ts ++ post) (ts.length : Int) 64 ⟨by omega, by omega⟩ (by omega)
  have a4 := words_at (pre ++ [i] ++ [s] ++ [(ts.length : Int)]) post ts ht ts.length (Nat.le_refl _)
  have e : ∀ z, z = encAll (pre ++ nmem (i, s, ts) ++ post) → z = encAll (pre ++ [i] ++ ([s, (ts.length : Int)] ++ ts ++ post)) ∧ z = encAll (pre ++ [i] ++ [s] ++ ([(ts.length : Int)] ++ ts ++ post)) ∧ z = encAll (pre ++ [i] ++ [s] ++ [(ts.length : Int)] ++ (ts ++ post)) ∧ z = encAll (pre ++ [i] ++ [s] ++ [(ts.length : Int)] ++ ts ++ post) := fun z hz => by
    subst hz
    simp [nmem]
  obtain ⟨e1, e2, e3, e4⟩ := e _ rfl
  rw [← e1] at a1
  rw [← e2] at a2
  rw [← e3] at a3
  rw [← e4] at a4
  unfold memR
  rw [a1]
  simp only
  rw [a2]
  simp only
  rw [a3]
  simp only [Int.toNat_natCast]
  rw [a4, List.take_length]
  simp [nmem]
theorem mems_at (pre : List Int) (ms : List Mem) (h : ∀ m ∈ ms, (0 ≤ m.1 ∧ m.1 ≤ 15) ∧ (0 ≤ m.2.1 ∧ m.2.1 ≤ 3) ∧ m.2.2.length ≤ 64 ∧ ∀ t ∈ m.2.2, 0 ≤ t ∧ t < 4294967296) : ∀ k, k ≤ ms.length → memsR (encAll (pre ++ ms.flatMap nmem)) k (posE pre) = (ms.take k, posE (pre ++ (ms.take k).flatMap nmem))
  | 0, _ => by simp [memsR]
  | k + 1, hk => by
    have ih := mems_at pre ms h k (by omega)
    obtain ⟨m, hm⟩ : ∃ x, ms[k]? = some x := ⟨_, List.getElem?_eq_getElem (by omega)⟩
    obtain ⟨h1, h2, h3, h4⟩ := h m (List.mem_of_getElem? hm)
    have e1 : ms.take (k + 1) = ms.take k ++ [m] := by rw [List.take_add_one, hm]; rfl
    have e2 : pre ++ ms.flatMap nmem = (pre ++ (ms.take k).flatMap nmem) ++ nmem m ++ (ms.drop (k + 1)).flatMap nmem := by
      have e3 : ms = ms.take k ++ [m] ++ ms.drop (k + 1) := by rw [← e1, List.take_append_drop]
      generalize ms.take k = A at e3 ⊢
      generalize ms.drop (k + 1) = D at e3 ⊢
      rw [e3]; simp
    unfold memsR
    rw [ih]
    simp only
    rw [e2, mem_at _ _ m h1 h2 h3 h4, e1]
    simp
/-- A ring's numbers, read again. -/
theorem ring_back (E : Int) (ms : List Mem) (hE : InU E) (ho : ringOk ms = true) (ht : wfT ms) : ringR (encAll (nrs E ms.length ms)) = (E, ms, true) := by
  have hl := ringOk_len ho
  have a1 := nxt_at [] ([(ms.length : Int)] ++ ms.flatMap nmem) E hE
  have a2 := upTo_at [E] (ms.flatMap nmem) (ms.length : Int) 16 ⟨by omega, by omega⟩ (by omega)
  have a3 := mems_at ([E] ++ [(ms.length : Int)]) ms (fun m hm => by
    obtain ⟨q1, q2, q3⟩ := memOk_of ho hm
    exact ⟨by omega, by omega, by omega, ht m hm⟩) ms.length (Nat.le_refl _)
  have e1 : encAll ([] ++ [E] ++ ([(ms.length : Int)] ++ ms.flatMap nmem)) = encAll (nrs E ms.length ms) := by simp [nrs]
  have e2 : encAll ([E] ++ [(ms.length : Int)] ++ ms.flatMap nmem) = encAll (nrs E ms.length ms) := by simp [nrs]
  have e0 : ((0 : Int), false) = posE [] := by simp [posE, encAll]
  rw [e1] at a1
  rw [e2] at a2 a3
  rw [List.take_length] at a3
  have e3 : posE ([E] ++ [(ms.length : Int)] ++ ms.flatMap nmem) = (((encAll (nrs E ms.length ms)).length : Int), false) := by unfold posE; rw [e2]
  rw [e3] at a3
  simp only [List.nil_append] at a1
  simp only [ringR, e0, a1, a2, Int.toNat_natCast, a3]
  simp
end Go.Proofs.YtboamjhlaehoaaaGreat

