/- Several texts in one: Sa, Sb. -/
import Derived.Test.YtboamjhlaehoaaaGreatMm
/- Rings: numbers, Encode. -/
namespace Go.Proofs.YtboamjhlaehoaaaGreat
open Go.RowKit Go.Sort
set_option linter.unusedVariables false
set_option maxRecDepth 20000

def nmem (m : Mem) : List Int := [m.1, m.2.1, (m.2.2.length : Int)] ++ m.2.2
/-- A ring's numbers. -/
def nrs (E : Int) (L : Nat) (ms : List Mem) : List Int := [E, (L : Int)] ++ ms.flatMap nmem
theorem nrs_take {E : Int} {L : Nat} {ms : List Mem} {i : Nat} {m : Mem} (h : ms[i]? = some m) : nrs E L (ms.take (i + 1)) = nrs E L (ms.take i) ++ [m.1, m.2.1, (m.2.2.length : Int)] ++ m.2.2 := by
  unfold nrs
  rw [List.take_add_one, h]
  simp [nmem, List.append_assoc]
theorem nrs_len (E : Int) (L : Nat) : ∀ (ms : List Mem), (∀ m ∈ ms, m.2.2.length ≤ 64) → (nrs E L ms).length ≤ 2 + 67 * ms.length := by
  intro ms h
  unfold nrs
  rw [List.length_append]
  have : (ms.flatMap nmem).length ≤ 67 * ms.length := by
    induction ms with
    | nil => simp
    | cons m r ih =>
      have h1 := h m (by simp)
      have h2 := ih (fun x hx => h x (by simp [hx]))
      rw [List.flatMap_cons, List.length_append, List.length_cons]
      simp only [nmem, List.length_append, List.length_cons, List.length_nil]
      omega
  simp only [List.length_cons, List.length_nil]
  omega
theorem sown_lit {α : Type} (E : Elem α) (e : TypeId) (w : World) (l : List α) (base : Nat) (hb : base ≤ w.heap.size) (hm : l.length ≤ maxLen) : SOwn E e (w.alloc (.cells (E.flat l).toArray e)) base (.slice (some ⟨w.heap.size, 0, none⟩) l.length l.length) l.length l := by
  refine ⟨E.flat_len l, .inr ⟨w.heap.size, l.length, (E.flat l).toArray, rfl, hb, heap_alloc_new w _, Nat.le_refl _, hm, by simp [E.flat_len], ?_⟩⟩
  have := E.flat_len l
  simp [← this]
theorem wrap_nat (n : Nat) (h : n < 18446744073709551616) : IntKind.u64.wrap (n : Int) = (n : Int) := by
  have : IntKind.u64.wrap (n : Int) = (n : Int) % 18446744073709551616 := by simp [IntKind.wrap, IntKind.bits, IntKind.signed]
  omega
theorem wrap_pos (x : Int) (h : 0 ≤ x ∧ x ≤ 18446744073709551615) : IntKind.u64.wrap x = x := by
  have : IntKind.u64.wrap x = x % 18446744073709551616 := by simp [IntKind.wrap, IntKind.bits, IntKind.signed]
  omega
/-- Where numbers stands. -/
structure NmAt (w wr : World) (N : Nat) (a : Option Addr) (n c : Nat) (l : List Int) (E : Int) (V : Value) : Prop where
  own : SOwn numE 22 wr (N + 1) (.slice a n c) n l
  gb : w.grownBy wr none
  box : wr.heap[N]? = some (.cells #[.int .u64 E, V] 25 (0, 0))
theorem NmAt.grown {w wr wx : World} {N n c : Nat} {a : Option Addr} {l : List Int} {E : Int} {V : Value} (h : NmAt w wr N a n c l E V) (hg : wr.grownBy wx none) : NmAt w wx N a n c l E V := ⟨SOwn.kept h.own hg (Classical.em _), h.gb.trans hg, by rw [hg.block N (Array.getElem?_eq_some_iff.1 h.box).1 (by simp)]; exact h.box⟩
/-- One append further. -/
theorem NmAt.app {w wr w7 : World} {N n c m : Nat} {a : Option Addr} {l z : List Int} {E : Int} {V v7 : Value} {cs : Array Value} (h : NmAt w wr N a n c l E V) (hN : w.heap.size = N) (ho : SOwn numE 22 w7 (N + 1) v7 (n + m) (l ++ z)) (hg : (wr.alloc (.cells cs 22)).grownBy w7 (Value.slice a n c).ownBlock) :
    (∃ a7 c7, v7 = .slice a7 (n + m) c7 ∧ NmAt w w7 N a7 (n + m) c7 (l ++ z) E V) ∧ ∀ (B : Nat) (xs : Array Value), wr.heap[B]? = some (Obj.cells xs 61 (0, 0)) → w7.heap[B]? = some (Obj.cells xs 61 (0, 0)) := by
  have ga := World.grownBy_alloc wr (.cells cs 22) none
  have hob : ∀ k, (Value.slice a n c).ownBlock = some k → N + 1 ≤ k ∧ Typed wr k 22 := fun k hk => by
    cases a with
    | none => simp [Value.ownBlock] at hk
    | some y =>
      have e2 : y.block = k := by simpa [Value.ownBlock] using hk
      subst e2
      exact ⟨(SOwn.block h.own _ hk).1, sown_typed h.own⟩
  have hl := (Array.getElem?_eq_some_iff.1 h.box).1
  have hs := size_alloc wr (.cells cs 22)
  obtain ⟨a7, c7, rfl⟩ := sown_slice ho
  refine ⟨⟨a7, c7, rfl, ⟨ho, ?_, ?_⟩⟩, fun B xs hB => ?_⟩
  · exact gb_trans (h.gb.trans ga) hg (fun k hk => .inl (by have := (hob k hk).1; omega))
  · rw [hg.block N (by omega) (fun e => by have := (hob N e.symm).1; omega), ga.block N hl (by simp)]
    exact h.box
  · have hlB := (Array.getElem?_eq_some_iff.1 hB).1
    rw [hg.block B (by omega) (fun e => Typed.ne (hob B e.symm).2 ⟨_, hB⟩ (by decide) rfl), ga.block B hlB (by simp)]
    exact hB
set_option maxHeartbeats 4000000 in
theorem g_numbers (E : Int) (ms : List Mem) (raw : List MRow) (a : Option Addr) (L c : Nat) (w : World) (hx : MsRd w a ms raw) (hL : ms.length = L) (hz : L ≤ 1000) (hz2 : ∀ s ∈ ms, s.2.2.length ≤ 64) (hz3 : ∀ s ∈ ms, (0 ≤ s.1 ∧ s.1 < 1000) ∧ (0 ≤ s.2.1 ∧ s.2.1 < 1000) ∧ ∀ t ∈ s.2.2, 0 ≤ t ∧ t < 4294967296) :
    Calls Tryz.prog 60 #[.agg #[.int .u64 E, .slice a L c]] w fun e w' => ∃ a' n' c', e = .returned (.slice a' n' c') ∧ n' = (nrs E L ms).length ∧ n' ≤ 67002 ∧ SRd numE w' a' (nrs E L ms) ∧ w.grownBy w' none := by
  have HX : Hid (MsRd w a ms raw) := hx
  have HL : Hid (ms.length = L) := hL
  have HZ : Hid (∀ s ∈ ms, s.2.2.length ≤ 64) := hz2
  have HZ3 : Hid (∀ s ∈ ms, (0 ≤ s.1 ∧ s.1 < 1000) ∧ (0 ≤ s.2.1 ∧ s.2.1 < 1000) ∧ ∀ t ∈ s.2.2, 0 ≤ t ∧ t < 4294967296) := hz3
  obtain ⟨N, eN⟩ : ∃ N, w.heap.size = N := ⟨_, rfl⟩
  have EN : Hid (w.heap.size = N) := eN
  have HLEN : Hid (∀ i, (nrs E L (ms.take i)).length ≤ 67002) := fun i => by
    have := nrs_len E L (ms.take i) (fun m hm => hz2 m (List.mem_of_mem_take hm))
    rw [List.length_take] at this
    show _ ≤ _
    omega
  have b0 := heap_alloc_new w (.cells #[.int .u64 E, .slice a L c] 25)
  have g0 := World.grownBy_alloc w (.cells #[.int .u64 E, .slice a L c] 25) none
  have s0 := size_alloc w (.cells #[.int .u64 E, .slice a L c] 25)
  obtain ⟨W0, eW0⟩ : ∃ W0, w.alloc (.cells #[.int .u64 E, .slice a L c] 25) = W0 := ⟨_, rfl⟩
  have H0 : Hid (NmAt w (W0.alloc (.cells #[.int .u64 E, .int .u64 L] 22)) N (some ⟨W0.heap.size, 0, none⟩) 2 2 (nrs E L (ms.take 0)) E (.slice a L c)) := by
    rw [eW0] at g0 s0 b0
    have g1 := World.grownBy_alloc W0 (.cells #[.int .u64 E, .int .u64 L] 22) none
    refine ⟨?_, g0.trans g1, ?_⟩
    · have := sown_lit numE 22 W0 [E, (L : Int)] (N + 1) (by omega) (by simp [maxLen])
      simpa [nrs, Elem.flat, numE] using this
    · rw [g1.block N (by omega) (by simp), ← eN]; exact b0
  have hsz : W0.heap.size = N + 1 := by rw [eW0] at s0; omega
  rw [hsz] at H0
  clear hsz
  have hwL := wrap_nat L (by omega)
  have EW0 : Hid (w.alloc (.cells #[.int .u64 E, .slice a L c] 25) = W0) := eW0
  obtain ⟨p0, p1⟩ := boxed_cells w E (.slice a L c)
  clear hx hL hz2 hz3 b0 g0 s0 eN
  rw [eW0] at p0 p1
  rw [EN.out] at p0 p1
  clear eW0
  go_enter Tryz.func60, Tryz.ntmps60
  go_wp2_with fail
  rw [EW0.out, EN.out]
  go_wp2
  go_loopw [3, 18] (fun t3 t18 wr => ∃ (i n : Nat) (a1 : Option Addr) (c1 : Nat), i ≤ L ∧ t18 = .int .i64 i ∧ t3 = .slice a1 n c1 ∧ NmAt w wr N a1 n c1 (nrs E L (ms.take i)) E (.slice a L c)) (fun _ t18 _ => L - (intOf t18).toNat)
  case atStart => exact ⟨0, 2, _, 2, Nat.zero_le _, rfl, rfl, H0.out⟩
  case round =>
    clear p0 p1
    obtain ⟨i, n, a1, c1, hi, rfl, rfl, hpl⟩ := hrel
    have HPL : Hid (NmAt w wr N a1 n c1 (nrs E L (ms.take i)) E (.slice a L c)) := hpl
    clear hpl
    by_cases hlt : i < L
    · have hki : (i : Int) < (L : Int) := by omega
      have hl := HL.out
      obtain ⟨⟨i1, s1, t1⟩, ex⟩ : ∃ x, ms[i]? = some x := ⟨_, List.getElem?_eq_getElem (by omega)⟩
      obtain ⟨ba, off, ta, tc, rfl, a0, a1', a2, rt, hnil⟩ := (HX.out.grown HPL.out.gb).cells ex
      have z1 := HZ.out _ (List.mem_of_getElem? ex)
      obtain ⟨z2, z3, z4⟩ := HZ3.out _ (List.mem_of_getElem? ex)
      simp only at a0 a1' a2 rt z1 z2 z3 z4
      obtain ⟨n1, en1⟩ : ∃ n1, t1.length = n1 := ⟨_, rfl⟩
      rw [en1] at a2 z1
      have EN1 : Hid (t1.length = n1) := en1
      have HZ4 : Hid (∀ t ∈ t1, 0 ≤ t ∧ t < 4294967296) := z4
      have HPT : Hid (nrs E L (ms.take (i + 1)) = nrs E L (ms.take i) ++ [i1, s1, (n1 : Int)] ++ t1) := by have := nrs_take (E := E) (L := L) ex; rw [← en1]; exact this
      have HLN : Hid ((nrs E L (ms.take (i + 1))).length ≤ 67002) := HLEN.out (i + 1)
      have HNN : Hid (n + 3 + n1 ≤ 67002) := by
        have h1 := HLN.out
        rw [HPT.out, List.length_append, List.length_append, SOwn.len HPL.out.own, en1] at h1
        exact h1
      have g5 := World.grownBy_alloc wr (.cells #[.int .i64 i1, .int .i64 s1, .slice ta n1 tc] 61) none
      obtain ⟨d0, d1, d2⟩ := cell3 (heap_alloc_new wr (.cells #[.int .i64 i1, .int .i64 s1, .slice ta n1 tc] 61))
      have HB5 : Hid ((wr.alloc (.cells #[.int .i64 i1, .int .i64 s1, .slice ta n1 tc] 61)).heap[wr.heap.size]? = some (.cells #[.int .i64 i1, .int .i64 s1, .slice ta n1 tc] 61 (0, 0))) := heap_alloc_new wr _
      have HP5 : Hid (NmAt w (wr.alloc (.cells #[.int .i64 i1, .int .i64 s1, .slice ta n1 tc] 61)) N a1 n c1 (nrs E L (ms.take i)) E (.slice (some ⟨ba, off, none⟩) L c)) := HPL.out.grown g5
      have HRT : Hid (SRd wordE w ta t1) := by
        obtain ⟨b', o', ta', tc', e', b0, b1, b2, brt, _⟩ := HX.out.cells ex
        cases e'
        have := (HPL.out.gb.cell b2 (by simp))
        rw [show (i1, s1, t1).2.2.length = n1 from en1, a2] at this
        cases this
        exact brt
      have hw1 := wrap_pos i1 (by omega)
      have hw2 := wrap_pos s1 (by omega)
      have hw3 := wrap_nat n1 (by omega)
      clear ex rt en1 hnil hl g5 z4
      obtain ⟨W5, hW5⟩ : ∃ W5, wr.alloc (.cells #[.int .i64 i1, .int .i64 s1, .slice ta n1 tc] 61) = W5 := ⟨_, rfl⟩
      have hs5 : W5.heap.size = wr.heap.size + 1 := by rw [← hW5]; exact size_alloc _ _
      rw [hW5] at HB5 HP5
      have ga := World.grownBy_alloc W5 (.cells #[.int .u64 i1, .int .u64 s1, .int .u64 (n1 : Int)] 22) none
      have HOA : Hid (SOwn numE 22 (W5.alloc (.cells #[.int .u64 i1, .int .u64 s1, .int .u64 (n1 : Int)] 22)) (N + 1) (.slice a1 n c1) n (nrs E L (ms.take i))) := SOwn.kept HP5.out.own ga (Classical.em _)
      have HRA : Hid (SRd numE (W5.alloc (.cells #[.int .u64 i1, .int .u64 s1, .int .u64 (n1 : Int)] 22)) (some ⟨wr.heap.size + 1, 0, none⟩) [i1, s1, (n1 : Int)]) := by rw [← hs5]; exact srd_lit numE 22 W5 [i1, s1, (n1 : Int)]
      have HSA : Hid (N + 1 ≤ (W5.alloc (.cells #[.int .u64 i1, .int .u64 s1, .int .u64 (n1 : Int)] 22)).heap.size) := by
        show _ ≤ _
        rw [size_alloc]
        have := (Array.getElem?_eq_some_iff.1 HP5.out.box).1
        omega
      have HAP : Hid (∀ v7 w7, SOwn numE 22 w7 (N + 1) v7 (n + 3) (nrs E L (ms.take i) ++ [i1, s1, (n1 : Int)]) → (W5.alloc (.cells #[.int .u64 i1, .int .u64 s1, .int .u64 (n1 : Int)] 22)).grownBy w7 (Value.slice a1 n c1).ownBlock → (∃ a7 c7, v7 = .slice a7 (n + 3) c7 ∧ Hid (NmAt w w7 N a7 (n + 3) c7 (nrs E L (ms.take i) ++ [i1, s1, (n1 : Int)]) E (.slice (some ⟨ba, off, none⟩) L c))) ∧ w7.heap[wr.heap.size]? = some (.cells #[.int .i64 i1, .int .i64 s1, .slice ta n1 tc] 61 (0, 0))) := fun v7 w7 ho hg => by
        obtain ⟨⟨a7, c7, e7, h7⟩, hb⟩ := HP5.out.app EN.out ho hg
        exact ⟨⟨a7, c7, e7, h7⟩, hb _ _ HB5.out⟩
      subst hW5
      clear ga hs5 HB5
      go_wp2_with (at_builtin; refine wpList_append_at numT rfl (.tmp 22) (.tmp 33) rfl (N + 1) (.slice a1 n c1) n _ rfl HOA.out ⟨wr.heap.size + 1, 0, none⟩ [i1, s1, (n1 : Int)] 3 3 rfl rfl HRA.out (by have := HNN.out; omega) (by have := HNN.out; unfold maxLen; omega) HSA.out ?_; intro v7 w7 ho7 hg7 hn7 hl7; obtain ⟨⟨a7, c7, rfl, HR7⟩, hB7⟩ := HAP.out v7 w7 ho7 hg7; obtain ⟨e0, e1, e2⟩ := cell3 hB7; clear ho7 hg7 hn7 hl7 hB7)
      clear d0 d1 d2 a0 a1' a2
      go_loopw [3, 38] (fun t3 t38 wx => ∃ (k m : Nat) (a2 : Option Addr) (c2 : Nat), k ≤ n1 ∧ t38 = .int .i64 k ∧ t3 = .slice a2 m c2 ∧ NmAt w wx N a2 m c2 (nrs E L (ms.take i) ++ [i1, s1, (n1 : Int)] ++ t1.take k) E (.slice (some ⟨ba, off, none⟩) L c)) (fun _ t38 _ => n1 - (intOf t38).toNat)
      case atStart => exact ⟨0, n + 3, a7, c7, Nat.zero_le _, rfl, rfl, by simpa using HR7.out⟩
      case round =>
        clear e0 e1 e2
        obtain ⟨k, m, a3, c3, hk, rfl, rfl, hp3⟩ := hrel
        have HP3 : Hid (NmAt w wr N a3 m c3 (nrs E L (ms.take i) ++ [i1, s1, (n1 : Int)] ++ t1.take k) E (.slice (some ⟨ba, off, none⟩) L c)) := hp3
        clear hp3
        by_cases hk2 : k < n1
        · have hkk : (k : Int) < (n1 : Int) := by omega
          have hl1 := EN1.out
          obtain ⟨x, ek⟩ : ∃ x, t1[k]? = some x := ⟨_, List.getElem?_eq_getElem (by omega)⟩
          obtain ⟨bt, ot, rfl, hct⟩ := (HRT.out.grown HP3.out.gb (by simp)).at (by omega)
          have f0 : wr.cell? ⟨bt, ot + k, none⟩ = some (.int .u32 x) := by have := hct k _ 0 _ ek rfl; simpa [wordE] using this
          have HTK : Hid (t1.take (k + 1) = t1.take k ++ [x]) := by show _ = _; rw [List.take_add_one, ek]; simp
          have hwx := wrap_pos x (by have := HZ4.out x (List.mem_of_getElem? ek); omega)
          have HMN : Hid (m ≤ 67002) := by
            have h1 := SOwn.len HP3.out.own
            rw [List.length_append, List.length_take] at h1
            have h2 := HLN.out
            rw [HPT.out, List.length_append] at h2
            show _ ≤ _
            omega
          have ga := World.grownBy_alloc wr (.cells #[.int .u64 x] 22) none
          have HOA : Hid (SOwn numE 22 (wr.alloc (.cells #[.int .u64 x] 22)) (N + 1) (.slice a3 m c3) m (nrs E L (ms.take i) ++ [i1, s1, (n1 : Int)] ++ t1.take k)) := SOwn.kept HP3.out.own ga (Classical.em _)
          have HRA : Hid (SRd numE (wr.alloc (.cells #[.int .u64 x] 22)) (some ⟨wr.heap.size, 0, none⟩) [x]) := srd_lit numE 22 wr [x]
          have HSA : Hid (N + 1 ≤ (wr.alloc (.cells #[.int .u64 x] 22)).heap.size) := by
            show _ ≤ _
            rw [size_alloc]
            have := (Array.getElem?_eq_some_iff.1 HP3.out.box).1
            omega
          clear ek hct hl1 ga
          go_wp2_with (at_builtin; refine wpList_append_at numT rfl (.tmp 42) (.tmp 45) rfl (N + 1) (.slice a3 m c3) m _ rfl HOA.out ⟨wr.heap.size, 0, none⟩ [x] 1 1 rfl rfl HRA.out (by have := HMN.out; omega) (by have := HMN.out; unfold maxLen; omega) HSA.out ?_; intro v8 w8 ho8 hg8 hn8 hl8; obtain ⟨⟨a8, c8, rfl, hr8⟩, _⟩ := HP3.out.app EN.out ho8 hg8; have HR8 : Hid (NmAt w w8 N a8 (m + 1) c8 (nrs E L (ms.take i) ++ [i1, s1, (n1 : Int)] ++ t1.take k ++ [x]) E (.slice (some ⟨ba, off, none⟩) L c)) := hr8; clear ho8 hg8 hn8 hl8 hr8)
          go_roundw
          case rel => exact ⟨k + 1, m + 1, a8, c8, by omega, by go_num, rfl, by rw [HTK.out, ← List.append_assoc]; exact HR8.out⟩
          case measure => simp [intOf]; omega
        · obtain rfl : k = n1 := by omega
          have HTT : Hid (nrs E L (ms.take i) ++ [i1, s1, (k : Int)] ++ t1.take k = nrs E L (ms.take (i + 1))) := by
            show _ = _
            rw [HPT.out, show t1.take k = t1 from List.take_of_length_le (by have := EN1.out; omega)]
          go_wp2
          go_roundw
          case rel => exact ⟨i + 1, m, a3, c3, by omega, by go_num, rfl, by rw [← HTT.out]; exact HP3.out⟩
          case measure => simp [intOf]; omega
    · obtain rfl : i = L := by omega
      have HF : Hid (NmAt w wr N a1 n c1 (nrs E i ms) E (.slice a i c)) := by have := HPL.out; rw [List.take_of_length_le (by have := HL.out; omega)] at this; exact this
      have HLF : Hid ((nrs E i ms).length ≤ 67002) := by have := HLEN.out i; rw [List.take_of_length_le (by have := HL.out; omega)] at this; exact this
      go_wp2
      go_ret
      have hl := SOwn.len HF.out.own
      exact ⟨a1, n, c1, rfl, hl.symm, by have := HLF.out; omega, SOwn.rd HF.out.own, HF.out.gb⟩
end Go.Proofs.YtboamjhlaehoaaaGreat

/- Rings: Encode. -/
namespace Go.Proofs.YtboamjhlaehoaaaGreat
open Go.RowKit Go.Sort
set_option linter.unusedVariables false
set_option maxRecDepth 20000

/-- Tokens are words. -/
def wfT (ms : List Mem) : Prop := ∀ s ∈ ms, ∀ t ∈ s.2.2, 0 ≤ t ∧ t < 4294967296
theorem memOk_of {ms : List Mem} (h : ringOk ms = true) {s : Mem} (hs : s ∈ ms) : (0 ≤ s.1 ∧ s.1 < 16) ∧ (1 ≤ s.2.1 ∧ s.2.1 ≤ 3) ∧ (1 ≤ s.2.2.length ∧ s.2.2.length ≤ 64) := by
  obtain ⟨i, hi⟩ := List.getElem?_of_mem hs
  have := ((ringOk_iff ms).1 h).1 i s hi
  simp [memOk, idOk, stOk] at this
  omega
theorem nrs_range {E : Int} {ms : List Mem} (hE : 0 ≤ E ∧ E ≤ 18446744073709551615) (ho : ringOk ms = true) (ht : wfT ms) {L : Nat} (hL : ms.length = L) : ∀ v ∈ nrs E L ms, 0 ≤ v ∧ v ≤ 18446744073709551615 := by
  intro v hv
  have hl := ringOk_len ho
  simp only [nrs, List.mem_append, List.mem_cons, List.mem_nil_iff, or_false, List.mem_flatMap, nmem] at hv
  rcases hv with (rfl | rfl) | ⟨m, hm, (rfl | rfl | rfl) | h⟩
  · exact hE
  · omega
  · have := memOk_of ho hm; omega
  · have := memOk_of ho hm; omega
  · have := memOk_of ho hm; omega
  · have := ht m hm v h; omega
set_option maxHeartbeats 2000000 in
theorem f_encode (E : Int) (ms : List Mem) (raw : List MRow) (a : Option Addr) (n c : Nat) (w : World) (hr : MsRd w a ms raw) (hn : ms.length = n) (hE : 0 ≤ E ∧ E ≤ 18446744073709551615) (ht : wfT ms) (hz : n ≤ 3518437208800) (hz2 : ∀ s ∈ ms, s.2.2.length ≤ 35184372088832) :
    Calls Tryz.prog 32 #[.agg #[.int .u64 E, .slice a n c]] w fun e w' => w.grownBy w' none ∧ ((ringOk ms = true ∧ ∃ v k, e = .returned (.tuple #[v, .int .i64 0]) ∧ OwnV w' w.heap.size v k (encAll (nrs E n ms))) ∨ (ringOk ms = false ∧ e = .returned (.tuple #[.slice none 0 0, .int .i64 130]))) := by
  have ga := World.grownBy_alloc w (.cells #[.int .u64 E, .slice a n c] 25) none
  have HC := g_mayBe E a raw ms n c _ (hr.grown ga) hn (by omega) hz2
  have HG : Hid (w.grownBy (w.alloc (.cells #[.int .u64 E, .slice a n c] 25)) none) := ga
  have HBX : Hid ((w.alloc (.cells #[.int .u64 E, .slice a n c] 25)).heap[w.heap.size]? = some (.cells #[.int .u64 E, .slice a n c] 25 (0, 0))) := heap_alloc_new w _
  cases ho : ringOk ms with
  | false =>
    rw [ho] at HC
    clear ho hr hn hz hz2 ga ht hE
    go_enter Tryz.func32, Tryz.ntmps32
    go_wp2_with fail
    refine HC.mono ?_
    rintro e w1 ⟨rfl, hg1⟩
    have HG1 : Hid (w.grownBy w1 none) := HG.out.trans hg1
    clear hg1
    go_wp2
    go_ret2
    exact ⟨HG1.out, .inr ⟨trivial, rfl⟩⟩
  | true =>
    have hl := ringOk_len ho
    have HNU : Hid (∀ w1, w.grownBy w1 none → Calls Tryz.prog 60 #[.agg #[.int .u64 E, .slice a n c]] w1 fun e w' => ∃ a' n' c', e = .returned (.slice a' n' c') ∧ n' = (nrs E n ms).length ∧ n' ≤ 67002 ∧ SRd numE w' a' (nrs E n ms) ∧ w1.grownBy w' none) := fun w1 hg => g_numbers E ms raw a n c w1 (hr.grown hg) hn (by omega) (fun s hs => (memOk_of ho hs).2.2.2) (fun s hs => ⟨by have := (memOk_of ho hs).1; omega, by have := (memOk_of ho hs).2.1; omega, ht s hs⟩)
    have HLA : Hid (∀ a' n' c' w1, SRd numE w1 a' (nrs E n ms) → n' = (nrs E n ms).length → n' ≤ 67002 → Calls Tryz.prog 48 #[.slice a' n' c'] w1 fun e w' => ∃ v k, e = .returned v ∧ OwnV w' w1.heap.size v k (encAll (nrs E n ms)) ∧ w1.grownBy w' none) := fun a' n' c' w1 h1 h2 h3 => g_laid a' (nrs E n ms) n' c' w1 h1 h2.symm (by omega) (nrs_range hE ho ht hn)
    rw [ho] at HC
    generalize nrs E n ms = NS at HNU HLA ⊢
    clear ho hr hn hz hz2 ga ht hE hl
    go_enter Tryz.func32, Tryz.ntmps32
    go_wp2_with fail
    refine HC.mono ?_
    rintro e w1 ⟨rfl, hg1⟩
    have HG1 : Hid (w.grownBy w1 none) := HG.out.trans hg1
    obtain ⟨c0, c1⟩ := cell2 HBX.out
    have d0 := hg1.cell c0 (by simp)
    have d1 := hg1.cell c1 (by simp)
    have HC2 := HNU.out w1 HG1.out
    clear hg1 c0 c1
    go_wp2_with fail
    refine HC2.mono ?_
    rintro e w2 ⟨a2, n2, c2, rfl, hn2, hl2, hr2, hg2⟩
    have HG2 : Hid (w.grownBy w2 none) := HG1.out.trans hg2
    have HC3 := HLA.out a2 n2 c2 w2 hr2 hn2 hl2
    clear hn2 hl2 hr2 hg2 d0 d1
    go_wp2_with fail
    refine HC3.mono ?_
    rintro e w3 ⟨v3, k3, rfl, ho3, hg3⟩
    have HG3 : Hid (w.grownBy w3 none) := HG2.out.trans hg3
    have HO3 : Hid (OwnV w3 w.heap.size v3 k3 (encAll NS)) := ⟨⟨ho3.1.1, by
      rcases ho3.1.2 with h | ⟨g, cap, cur, h1, h2, r⟩
      · exact .inl h
      · exact .inr ⟨g, cap, cur, h1, Nat.le_trans HG2.out.size h2, r⟩⟩, ho3.2⟩
    clear ho3 hg3
    go_wp2
    go_ret2
    exact ⟨HG3.out, .inl ⟨trivial, v3, k3, rfl, HO3.out⟩⟩
end Go.Proofs.YtboamjhlaehoaaaGreat

