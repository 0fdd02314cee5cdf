/- The log's awake: the walk. -/
import Derived.Test.YtekejnjaiccnbaaGreatDoorMz
namespace Go.Proofs.YtekejnjaiccnbaaGreatDoor
open Go.RowKit Go.Maps Go.Sort
set_option linter.unusedVariables false
set_option maxRecDepth 20000

/-- .. and where they lie. -/
def ReadsIn (P : Nat → Prop) (w : World) (a : Option Addr) (ts : List Sl) (recs : List (List Int)) : Prop := Reads w a ts recs ∧ (ts ≠ [] → ∀ y, a = some y → P y.block) ∧ ∀ (i : Nat) (t : Sl) (r : List Int), ts[i]? = some t → recs[i]? = some r → r ≠ [] → ∀ y, t.1 = some y → P y.block
theorem ReadsIn.kept {P : Nat → Prop} {w w' : World} {a : Option Addr} {ts : List Sl} {recs : List (List Int)} {X : Nat → Prop} (h : ReadsIn P w a ts recs) (hk : Kept w w' X) (hP : ∀ k, P k → k < w.heap.size ∧ ¬ X k) : ReadsIn P w' a ts recs := by
  obtain ⟨⟨h1, h2, h3⟩, h4, h5⟩ := h
  refine ⟨⟨?_, h2, fun i t r ht hr => ⟨(h3 i t r ht hr).1, ?_, (h3 i t r ht hr).2.2⟩⟩, h4, h5⟩
  · rcases h1 with h1 | ⟨b, off, e, hc⟩
    · exact .inl h1
    · by_cases hts : ts = []
      · exact .inl hts
      · have hp := hP b (h4 hts _ e)
        exact .inr ⟨b, off, e, fun j v hj => cell_kept hk hp.1 hp.2 (hc j v hj)⟩
  · exact rd_block (h3 i t r ht hr).2.1 (fun hne y hy => hk.block _ (hP _ (h5 i t r ht hr hne y hy)).1 (hP _ (h5 i t r ht hr hne y hy)).2)
theorem recsAt_get {w : World} {lo : Nat} {o : Option Nat} : ∀ {ts : List Sl} {rs : List (List Int)}, RecsAt w lo o ts rs → ∀ (i : Nat) (t : Sl) (r : List Int), ts[i]? = some t → rs[i]? = some r → RecAt w lo o t r
  | [], [], _, i, t, r, ht, _ => by simp at ht
  | t :: ts, r :: rs, h, 0, t', r', ht, hr => by
    simp at ht hr
    subst ht hr
    exact h.1
  | t :: ts, r :: rs, h, i + 1, t', r', ht, hr => recsAt_get h.2 i t' r' (by simpa using ht) (by simpa using hr)
  | [], _ :: _, h, _, _, _, _, _ => h.elim
  | _ :: _, [], h, _, _, _, _, _ => h.elim
theorem RecsLo.reads {lo n : Nat} {w : World} {v : Sl} {recs : List (List Int)} (h : RecsLo lo w (slV v) n recs) (hr : ∀ r ∈ recs, r.length ≤ 65536) : ∃ ts, ReadsIn (fun k => lo ≤ k ∧ k < w.heap.size) w v.1 ts recs ∧ recs.length = v.2.1 := by
  obtain ⟨ts, h1, h2, h3, h4⟩ := h
  obtain ⟨va, vn, vc⟩ := v
  obtain ⟨_, _, e⟩ := sownSl h1
  have hvn : vn = n := by unfold slV at e; injection e
  subst hvn
  refine ⟨ts, ⟨⟨h1.rd, h2.len, fun i t r ht hr' => ?_⟩, fun hne y hy => ?_, fun i t r ht hr' hne y hy => ?_⟩, h3.symm⟩
  · have := recsAt_get h2 i t r ht hr'
    exact ⟨this.1, this.2.2.2.1, by have := hr r (List.mem_of_getElem? hr'); omega⟩
  · have hy' : va = some y := hy
    subst hy'
    exact h1.block y.block rfl
  · have := recsAt_get h2 i t r ht hr'
    exact ⟨(this.2.2.2.2 hne y hy).1, rd_lt (hy ▸ this.2.2.2.1) hne⟩
theorem rd_lit1 (w : World) (z : Int) (hz : 0 ≤ z ∧ z ≤ 255) : Rd (w.alloc (.cells #[.int .u8 z] 5)) (some ⟨w.heap.size, 0, none⟩) [z] := by
  refine ⟨.inr ⟨w.heap.size, 0, rfl, fun i hi => ?_⟩, fun y hy => by simp at hy; subst hy; exact hz⟩
  have h0 : i = 0 := by simp at hi; omega
  subst h0
  exact (row1 w (.int .u8 z) 5).cell (i := 0) (by omega)
theorem reads_lit (w : World) (z : Int) (hz : 0 ≤ z ∧ z ≤ 255) : Reads ((w.alloc (.cells #[.int .u8 z] 5)).alloc (.cells #[.slice (some ⟨w.heap.size, 0, none⟩) 1 1] 27)) (some ⟨w.heap.size + 1, 0, none⟩) [(some ⟨w.heap.size, 0, none⟩, 1, 1)] [[z]] := by
  have hs : (w.alloc (.cells #[.int .u8 z] 5)).heap.size = w.heap.size + 1 := Array.size_push _
  have h1 := sllit (w.alloc (.cells #[.int .u8 z] 5)) [(some ⟨w.heap.size, 0, none⟩, 1, 1)]
  rw [hs] at h1
  refine ⟨h1, rfl, fun i t r ht hr => ?_⟩
  have h0 : i = 0 := by
    have := (List.getElem?_eq_some_iff.1 ht).1
    simp at this
    exact this
  subst h0
  simp at ht hr
  subst ht hr
  exact ⟨rfl, (rd_lit1 w z hz).grown (World.grownBy_alloc _ _ none) (by simp), by simp⟩
theorem keep_lit (w : World) (z : Int) (hz : 0 ≤ z ∧ z ≤ 255) : KeepIs ((w.alloc (.cells #[.int .u8 z] 5)).alloc (.cells #[.slice (some ⟨w.heap.size, 0, none⟩) 1 1] 27)) (some ⟨w.heap.size + 1, 0, none⟩) [(some ⟨w.heap.size, 0, none⟩, 1, 1)] [[z]] := by
  obtain ⟨h1, h2, h3⟩ := reads_lit w z hz
  refine ⟨h1, h2, fun i t r ht hr => ⟨(h3 i t r ht hr).1, (h3 i t r ht hr).2.1, ?_, ?_⟩⟩
  · have h0 : i = 0 := by
      have := (List.getElem?_eq_some_iff.1 ht).1
      simp at this
      exact this
    subst h0
    simp at ht
    subst ht
    intro h
    cases h
  · have h0 : i = 0 := by
      have := (List.getElem?_eq_some_iff.1 ht).1
      simp at this
      exact this
    subst h0
    simp at hr
    subst hr
    simp
/-- The power goes, and comes again. -/
theorem s_power {W w : World} {d mb n : Nat} {x : DSt} {dir : ByteArray} {K : Kp} {Ls : Sg} {B : Nat → Prop} (h : De W w d mb n x dir K Ls B) (keep : Int) (hk : -9223372036854775808 ≤ keep ∧ keep ≤ 9223372036854775807) :
    Calls Tryz.prog 20 #[.pointer (some ⟨d, 0, none⟩), .int .i64 keep] w fun e w' => e = .returned (.tuple #[]) ∧ DS w' W.heap.size d mb n (x.power keep) B ∧ Step w w' B B := by
  refine (x_off W.heap.size d mb n x B keep w h.disk hk).mono ?_
  rintro e w' ⟨rfl, h1, h2⟩
  exact ⟨rfl, h1, h2⟩
theorem Step.from_ {W w w' : World} {B B' : Nat → Prop} (h : Step w w' B B') (hW : W.grownBy w none) (hl : ∀ k, B k → W.heap.size ≤ k) : W.grownBy w' none :=
  ⟨h.1.os.trans hW.os, h.1.tape.trans hW.tape, h.1.output.trans hW.output, Nat.le_trans hW.size h.1.size, fun k hk _ => (h.1.block k (Nat.lt_of_lt_of_le hk hW.size) (fun hx => by have := hl k hx; omega)).trans (hW.block k hk (by simp))⟩
theorem addL2 : addL none [(1, [[1]])] [2] = [(1, [[1], [2]])] := by
  have h : ¬ 4096 ≤ (logB frameR [[(1 : Int)]]).length := by rw [logB_one, fl1]; omega
  show (if 4096 ≤ (logB frameR [[(1 : Int)]]).length then _ else _) = _
  rw [if_neg h]
  rfl
theorem De.power {W w w' : World} {d mb n n' : Nat} {x y : DSt} {dir : ByteArray} {K K' : Kp} {Ls Ls' : Sg} {B : Nat → Prop} (h : De W w d mb n x dir K Ls B) (hd : DS w' W.heap.size d mb n' y B) (hs : Step w w' B B) (hl : Log y.V dir K' Ls') (hc : y.Calm) : De W w' d mb n' y dir K' Ls' B :=
  ⟨hd, hl, hc, hs.from_ h.from_ h.low, h.low, fun k hk => Nat.lt_of_lt_of_le (h.ltB k hk) hs.1.size, h.tab⟩
set_option maxHeartbeats 16000000 in
theorem w_awake (w : World) (ht : Tab w) : Calls Tryz.prog 11 #[] w fun e w' => e = .returned (.bool true) ∧ w.grownBy w' none := by
  have HT : Hid (Tab w) := ht
  clear ht
  go_enter Tryz.func11, Tryz.ntmps11
  go_wp2_with fail
  refine (v_new w).mono ?_
  rintro e w1 ⟨d, mb, B0, rfl, hd1, hg1, hl1⟩
  have hDe1 : De w w1 d mb 0 x0 dirX none [] (fun k => B0 k ∧ k < w1.heap.size) := ⟨DS.bound hd1, log0 dirX, x0_calm, hg1, fun k hk => hl1 k hk.1, fun k hk => hk.2, HT.out⟩
  have HO1 := s_open hDe1 dirX_ok (by decide) (by decide) (by decide)
  clear hd1 hg1 hl1 hDe1
  go_wp2_with fail
  refine HO1.mono ?_
  rintro e w2 ⟨p, v, m, lo, A, rfl, hSe2, hro2, _, _, _⟩
  obtain ⟨ts2, _, _, _, hnil2⟩ := hro2
  rw [hnil2 rfl]
  have HA1 := s_append (hSe2.grown (World.grownBy_alloc w2 (.cells #[.int .u8 1] 5) none)) dirX_ok (some ⟨w2.heap.size, 0, none⟩) [1] 1 1 (by decide) (by decide) (by decide) (by decide) (rd_lit1 w2 1 (by decide)) rfl (by simp) (by decide)
  clear HO1 hSe2 hnil2
  go_wp2_with fail
  refine HA1.mono ?_
  rintro e w3 ⟨rfl, n3, A3, B3, hn3, hw3, hSe3, _⟩
  have hSe3' : Se w w3 d mb n3 (appX x0 dirX 1 [1]) p dirX none [(1, [[1]])] A3 B3 := hSe3
  have hw3' : (appX x0 dirX 1 [1]).wn ≤ 2 := hw3
  have HA2 := s_sync hSe3' dirX_ok (by omega) (by decide) (by decide)
  clear HA1 hSe3 hSe3' hw3
  go_wp2_with fail
  refine HA2.mono ?_
  rintro e w4 ⟨rfl, n4, B4, hn4, hw4, hSe4, _⟩
  have hSe4' : Se w w4 d mb n4 (syncX (appX x0 dirX 1 [1]) dirX [1] 1) p dirX none [(1, [[1]])] A3 B4 := hSe4
  have hw4'' : (syncX (appX x0 dirX 1 [1]) dirX [1] 1).wn ≤ (appX x0 dirX 1 [1]).wn + 1 := hw4
  have hw4' : (syncX (appX x0 dirX 1 [1]) dirX [1] 1).wn ≤ 3 := by omega
  clear hw4''
  have HA3 := s_append (hSe4'.grown (World.grownBy_alloc w4 (.cells #[.int .u8 2] 5) none)) dirX_ok (some ⟨w4.heap.size, 0, none⟩) [2] 1 1 (by omega) (by decide) (by omega) (by decide) (rd_lit1 w4 2 (by decide)) rfl (by simp) (by decide)
  clear HA2 hSe4 hSe4' hw4
  go_wp2_with fail
  refine HA3.mono ?_
  rintro e w5 ⟨rfl, n5, A5, B5, hn5, hw5, hSe5, _⟩
  rw [addL2] at hSe5
  have HA4 := w_segments w5 p d dirX _ _ _ A5 hSe5.at_.wal
  clear HA3
  go_wp2_with fail
  refine HA4.mono ?_
  rintro e _ ⟨rfl, rfl⟩
  have hDe5 : De w w5 d mb n5 (appX (syncX (appX x0 dirX 1 [1]) dirX [1] 1) dirX 1 [2]) dirX none [(1, [[1], [2]])] B5 := hSe5.de
  have HDe5 : Hid (De w w5 d mb n5 (appX (syncX (appX x0 dirX 1 [1]) dirX [1] 1) dirX 1 [2]) dirX none [(1, [[1], [2]])] B5) := hDe5
  have HA5 := s_power hDe5 0 (by decide)
  clear HA4 hSe5 hDe5
  go_wp2_with fail
  refine HA5.mono ?_
  rintro e w6 ⟨rfl, hd6, hs6⟩
  have HA6 := x_on _ d mb n5 _ B5 w6 hd6
  clear HA5 hd6
  go_wp2_with fail
  refine HA6.mono ?_
  rintro e w7 ⟨rfl, hd7, hs7⟩
  obtain ⟨hl7, hc7, hw7⟩ := awake_disk dirX
  have hDe7 := HDe5.out.power hd7 (hs6.trans hs7) hl7 hc7
  have hB7 := hDe7.ltB
  have HA7 := s_open hDe7 dirX_ok (by omega) (by decide) (by decide)
  clear HA6 HDe5 hd7 hs6 hs7 hl7 hc7 hDe7
  go_wp2_with fail
  refine HA7.mono ?_
  rintro e w8 ⟨p8, v8, m8, lo8, A8, rfl, hSe8, hro8, _, hA8, hlo8⟩
  obtain ⟨a8, c8, d8'⟩ := v8
  obtain ⟨ts8, hR8, hl8⟩ := hro8.reads (fun r hr => by simp [cpRecs, recsOf] at hr; subst hr; simp)
  have hl8' : c8 = 1 := hl8.symm
  subst hl8'
  have HR8 : Hid (ReadsIn (fun k => lo8 ≤ k ∧ k < w8.heap.size) w8 a8 ts8 [[1]]) := hR8
  have hg8 : w8.grownBy ((w8.alloc (.cells #[.int .u8 3] 5)).alloc (.cells #[.slice (some ⟨w8.heap.size, 0, none⟩) 1 1] 27)) none := (World.grownBy_alloc _ _ none).trans (World.grownBy_alloc _ _ none)
  have HG8 : Hid (w8.grownBy ((w8.alloc (.cells #[.int .u8 3] 5)).alloc (.cells #[.slice (some ⟨w8.heap.size, 0, none⟩) 1 1] 27)) none) := hg8
  have HB8 : Hid (∀ k, lo8 ≤ k ∧ k < w8.heap.size → ¬ (A8 k ∨ B5 k)) := by
    show ∀ k, lo8 ≤ k ∧ k < w8.heap.size → ¬ (A8 k ∨ B5 k)
    intro k hk
    rintro (h1 | h1)
    · have := hA8 k h1; omega
    · have := hB7 k h1; omega
  have HA8 := s_cut (hSe8.grown hg8) dirX_ok (some ⟨w8.heap.size + 1, 0, none⟩) 1 1 _ _ (Int.le_trans (Int.add_le_add_right hw7 _) (by decide)) (by decide) (by omega) (by decide) (keep_lit w8 3 (by decide)) rfl (by decide) (by simp) (by rw [logB_one, fl1]; omega) (fun r hr => by simp at hr; subst hr; simp)
  clear HA7 hSe8 hro8 hR8 hl8 hg8
  go_wp2_with fail
  refine HA8.mono ?_
  rintro e w9 ⟨rfl, n9, x9, B9, hn9, hw9, hDe9, hs9⟩
  have HR9 : Hid (ReadsIn (fun k => lo8 ≤ k ∧ k < w8.heap.size) w9 a8 ts8 [[1]]) := (HR8.out.kept (Kept.of HG8.out (X := fun _ => False) (fun k hk => by cases hk)) (fun k hk => ⟨hk.2, fun h => h⟩)).kept hs9.kept (fun k hk => ⟨Nat.lt_of_lt_of_le hk.2 HG8.out.size, HB8.out k hk⟩)
  have HA9 := s_open hDe9 dirX_ok (by omega) (by decide) (by decide)
  clear HA8 HR8 HG8 HB8 hDe9 hs9
  go_wp2_with fail
  refine HA9.mono ?_
  rintro e wa ⟨pa, va, ma, loa, Aa, rfl, hSea, hroa, hga, _, _⟩
  obtain ⟨aa, ca, da'⟩ := va
  obtain ⟨tsa, hRa, hla⟩ := hroa.reads (fun r hr => by simp [cpRecs, recsOf] at hr; subst hr; simp)
  have hla' : ca = 1 := hla.symm
  subst hla'
  have HRa : Hid (Reads wa aa tsa [[3]]) := hRa.1
  have HRb : Hid (Reads wa a8 ts8 [[1]]) := HR9.out.1.grown hga
  have HWa : Hid (w.grownBy wa none) := hSea.from_
  have HL1 := l_sameLists a8 (some ⟨wa.heap.size + 1, 0, none⟩) ts8 _ [[1]] [[1]] 1 1 d8' 1 _ (HRb.out.grown ((World.grownBy_alloc _ _ none).trans (World.grownBy_alloc _ _ none))) (reads_lit wa 1 (by decide)) rfl rfl (by omega)
  clear HA9 hSea hroa hRa hla hga
  go_wp2_with fail
  refine HL1.mono ?_
  rintro e wb ⟨rfl, hgb⟩
  have HGb : Hid (wa.grownBy wb none) := ((World.grownBy_alloc _ _ none).trans (World.grownBy_alloc _ _ none)).trans hgb
  have HL2 := l_sameLists aa (some ⟨wb.heap.size + 1, 0, none⟩) tsa _ [[3]] [[3]] 1 1 da' 1 _ ((HRa.out.grown HGb.out).grown ((World.grownBy_alloc _ _ none).trans (World.grownBy_alloc _ _ none))) (reads_lit wb 3 (by decide)) rfl rfl (by omega)
  clear HL1 hgb
  go_wp2_with fail
  refine HL2.mono ?_
  rintro e wc ⟨rfl, hgc⟩
  have HGc : Hid (w.grownBy wc none) := (HWa.out.trans HGb.out).trans (((World.grownBy_alloc _ _ none).trans (World.grownBy_alloc _ _ none)).trans hgc)
  clear HL2 hgc
  go_wp2
  go_ret
  exact ⟨rfl, HGc.out⟩
end Go.Proofs.YtekejnjaiccnbaaGreatDoor
