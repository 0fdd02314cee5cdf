/- The program's own read, Decode. -/
import Derived.Test.YtailaehpgmpaaaaEdec
namespace Go.Proofs.Ytailaehpgmpaaaa
open Go.RowKit
set_option linter.unusedVariables false

theorem flat_set : ∀ (ls : List Lab) (k : Nat) (x y : ByteArray), labE.flat (ls.set k (x, y)) = ((labE.flat ls).set (k * 2) (.string x)).set (k * 2 + 1) (.string y)
  | [], k, x, y => rfl
  | p :: ls, 0, x, y => rfl
  | p :: ls, k + 1, x, y => by
    have ih := flat_set ls k x y
    have e : ∀ q : Lab, ∀ r : List Lab, labE.flat (q :: r) = .string q.1 :: .string q.2 :: labE.flat r := fun _ _ => rfl
    rw [List.set_cons_succ, e, e, ih, show (k + 1) * 2 = k * 2 + 1 + 1 by omega]
    rfl
theorem flat_rep (n : Nat) (x : ByteArray) : labE.flat (List.replicate n (x, x)) = List.replicate (n * 2) (.string x) := by
  induction n with
  | zero => rfl
  | succ n ih =>
    have e : ∀ q : Lab, ∀ r : List Lab, labE.flat (q :: r) = .string q.1 :: .string q.2 :: labE.flat r := fun _ _ => rfl
    rw [List.replicate_succ, e, ih, show (n + 1) * 2 = n * 2 + 1 + 1 by omega, List.replicate_succ, List.replicate_succ]
theorem made_two (v : Value) (m : Nat) : (madeCells #[v, v] m).toList = List.replicate m v := by
  apply List.ext_getElem?
  intro j
  by_cases hj : j < m
  · have h2 : j % 2 = 0 ∨ j % 2 = 1 := by omega
    rcases h2 with h2 | h2 <;> simp [madeCells, hj, h2]
  · simp [madeCells, hj]
/-- A row of labels in a block of its own. -/
def Full (w : World) (g : Nat) (ls : List Lab) : Prop := w.heap[g]? = some (.cells (labE.flat ls).toArray 52 (0, 0))
theorem Full.lt {w : World} {g : Nat} {ls : List Lab} (h : Full w g ls) : g < w.heap.size := (Array.getElem?_eq_some_iff.1 h).1
theorem Full.grown {w w' : World} {g : Nat} {ls : List Lab} (h : Full w g ls) (hg : w.grownBy w' none) : Full w' g ls := (hg.block g h.lt (by simp)).trans h
theorem Full.free {w : World} {g : Nat} {ls : List Lab} (h : Full w g ls) (j : Nat) : w.frozen? ⟨g, j, none⟩ = false := by unfold Full at h; simp [World.frozen?, h]
theorem Full.cells {w : World} {g : Nat} {ls : List Lab} (h : Full w g ls) (k : Nat) (p : Lab) (hk : ls[k]? = some p) : w.cell? ⟨g, k * 2, none⟩ = some (.string p.1) ∧ w.cell? ⟨g, k * 2 + 1, none⟩ = some (.string p.2) := by
  constructor
  · rw [cell_of_row w g (k * 2) _ _ _ h]
    have := labE.flat_get ls k p 0 hk (by decide)
    simpa [labE] using this
  · rw [cell_of_row w g (k * 2 + 1) _ _ _ h]
    have := labE.flat_get ls k p 1 hk (by decide)
    simpa [labE] using this
theorem Full.set {w : World} {g : Nat} {ls : List Lab} (h : Full w g ls) (k : Nat) (x y : ByteArray) : Full ((w.setCell ⟨g, k * 2, none⟩ (.string x)).setCell ⟨g, k * 2 + 1, none⟩ (.string y)) g (ls.set k (x, y)) := by
  have h1 : (w.setCell ⟨g, k * 2, none⟩ (.string x)).heap[g]? = some (.cells ((labE.flat ls).toArray.setIfInBounds (k * 2) (.string x)) 52 (0, 0)) := by
    unfold Full at h
    rw [setCell_eq_setRow w g (k * 2) _ 52 (0, 0) _ h, setRow_heap w g _ _ 52 _ h]
  unfold Full
  rw [setCell_eq_setRow _ g (k * 2 + 1) _ 52 (0, 0) _ h1, setRow_heap _ g _ _ 52 _ h1, flat_set]
  simp
theorem Full.own {w : World} {g base : Nat} {ls : List Lab} {n : Nat} (h : Full w g ls) (hb : base ≤ g) (hn : ls.length = n) (hm : n ≤ 16) : SOwn labE 52 w base (.slice (some ⟨g, 0, none⟩) n n) n ls :=
  ⟨by rw [labE.flat_len, hn], .inr ⟨g, n, _, rfl, hb, h, Nat.le_refl _, by unfold maxLen; omega, by simp [labE.flat_len, hn], by rw [List.take_of_length_le (by simp [labE.flat_len, hn])]⟩⟩
theorem full_made {w : World} {base g n : Nat} (h : w.ownsRow base 52 2 (.slice (some ⟨g, 0, none⟩) n n) n (madeCells (Value.agg #[.string ⟨#[]⟩, .string ⟨#[]⟩]).cells (n * 2)).toList) : Full w g (List.replicate n (⟨#[]⟩, ⟨#[]⟩)) := by
  have e : (Value.agg #[.string ⟨#[]⟩, .string ⟨#[]⟩]).cells = #[.string ⟨#[]⟩, .string ⟨#[]⟩] := rfl
  rw [e, made_two] at h
  rcases h.2 with ⟨h', _⟩ | ⟨g', cap', cur, h', _, hg, _, _, hs, ht⟩
  · simp at h'
  · simp only [Value.slice.injEq, Option.some.injEq, Addr.mk.injEq, and_true, true_and] at h'
    obtain ⟨rfl, rfl⟩ := h'
    unfold Full
    rw [hg, flat_rep, ← ht, List.take_of_length_le (by simp [hs])]

def readR (zs : List Int) (p : Int) : List Lab × Int × Int :=
  if (uintR zs p).2.2 ≠ 0 then ([], 0, (uintR zs p).2.2)
  else if 16 < (uintR zs p).1 then ([], 0, 34)
  else decL zs (uintR zs p).1.toNat (uintR zs p).2.1 []
theorem decodeR_read (zs : List Int) (p : Int) : decodeR zs p = shut (readR zs p) := by
  unfold decodeR readR
  by_cases h1 : (uintR zs p).2.2 = 0
  · by_cases h2 : 16 < (uintR zs p).1
    · simp [h1, h2, shut]
    · simp [h1, h2]
  · simp [h1, shut]

set_option maxHeartbeats 1000000 in
theorem read_late (a : Option Addr) (zs : List Int) (L cap : Nat) (p u2 : Int) (n : Nat) (ls : List Lab) (r2 r3 : Int) (w : World) (hr : Rd w a zs) (hL : zs.length = L) (hcap : L ≤ cap) (hz : (L : Int) ≤ 140737488355000) (hU : uintR zs p = ((n : Int), u2, 0)) (hn : n ≤ 16)
    (hR : decL zs n u2 [] = (ls, r2, r3)) :
    Calls Try.prog 56 #[.slice a L cap, .int .i64 p] w fun e w' => ∃ v m c, e = .returned (.tuple #[.slice v m c, .int .i64 r2, .int .i64 r3]) ∧ LOut w w' v m c ls ∧ w.grownBy w' none := by
  have HC := f_uint a zs L cap p n u2 0 w hr hL hcap hz hU
  have HR : Hid (Rd w a zs) := hr
  have HL : Hid (zs.length = L) := hL
  have H0 : Hid (decL zs (n - 0) u2 [] = (ls, r2, r3)) := hR
  have hd : decide ((16 : Int) < (n : Int)) = false := by simp; omega
  obtain ⟨i0, hi, hz0, hz1, hz2⟩ := info_parts info52
  clear hr hL hU hR
  go_enter Try.func56, Try.ntmps56
  go_wp2_with fail
  refine HC.mono ?_
  rintro e w0 ⟨rfl, hg0⟩
  have HG0 : Hid (w.grownBy w0 none) := hg0
  clear hg0
  go_wp2_with (at_make; refine wpList_make_full _ rfl (.tmp 23) (.tmp 23) 22 rfl w0.heap.size 52 i0 (.agg #[.string ⟨#[]⟩, .string ⟨#[]⟩]) 2 Try.underlying22 hi hz0 hz1 .u64 .u64 n n n rfl rfl rfl rfl (by rw [hz2]; omega) (by unfold maxLen; omega) (Nat.le_refl _) ?_; intro w1 hown1 hg1; have hf1 := full_made hown1; clear hown1)
  have HF1 : Hid (Full w1 w0.heap.size (List.replicate n (⟨#[]⟩, ⟨#[]⟩))) := hf1
  have HG1 : Hid (w.grownBy w1 none) := HG0.out.trans hg1
  have HB : Hid (w.heap.size ≤ w0.heap.size) := HG0.out.size
  clear hf1 hg1
  generalize w0.heap.size = g at HF1 HB ⊢
  clear HG0 w0
  go_loopw [1, 27] (fun t1 t10 wr => ∃ (i : Nat) (q : Int) (acc : List Lab), i ≤ n ∧ acc.length = i ∧ t10 = .int .i64 i ∧ t1 = .int .i64 q ∧ Full wr g (acc ++ List.replicate (n - i) (⟨#[]⟩, ⟨#[]⟩)) ∧ decL zs (n - i) q acc = (ls, r2, r3) ∧ w.grownBy wr none) (fun _ t10 _ => n - (intOf t10).toNat)
  case atStart => exact ⟨0, u2, [], Nat.zero_le _, rfl, rfl, rfl, HF1.out, H0.out, HG1.out⟩
  case round =>
    obtain ⟨i, q, acc, hi, hN, rfl, rfl, ho, hs, hg⟩ := hrel
    have HF : Hid (Full wr g (acc ++ List.replicate (n - i) (⟨#[]⟩, ⟨#[]⟩))) := ho
    have HS : Hid (decL zs (n - i) q acc = (ls, r2, r3)) := hs
    have HG : Hid (w.grownBy wr none) := hg
    clear ho hs hg H0 HF1 HG1
    by_cases hlt : i < n
    · obtain ⟨⟨s1, s2⟩, q1, e1, h1⟩ : ∃ s n e, oneR zs q = (s, n, e) := ⟨_, _, _, rfl⟩
      have hst := HS.out
      rw [show n - i = (n - (i + 1)) + 1 by omega, decL_one, h1] at hst
      simp only at hst
      have HT1 : Hid (Calls Try.prog 74 #[.slice a L cap, .int .i64 q] wr fun e w' => e = .returned (.tuple #[.agg #[.string s1, .string s2], .int .i64 q1, .int .i64 e1]) ∧ wr.grownBy w' none) := g_readone a zs L cap q s1 s2 q1 e1 wr (HR.out.grown HG.out (by simp)) HL.out hcap hz h1
      have hii : (i : Int) < (n : Int) := by omega
      have HSet : Hid ((acc ++ List.replicate (n - i) ((⟨#[]⟩, ⟨#[]⟩) : Lab)).set i (s1, s2) = (acc ++ [(s1, s2)]) ++ List.replicate (n - (i + 1)) ((⟨#[]⟩, ⟨#[]⟩) : Lab)) := by
        show _ = _
        rw [List.set_append_right _ _ (by omega), hN, Nat.sub_self, show n - i = (n - (i + 1)) + 1 by omega, List.replicate_succ]
        simp
      have HEl : Hid ((acc ++ List.replicate (n - i) ((⟨#[]⟩, ⟨#[]⟩) : Lab))[i]? = some (⟨#[]⟩, ⟨#[]⟩)) := by
        show _ = _
        rw [List.getElem?_append_right (by omega), hN, Nat.sub_self, List.getElem?_replicate, if_pos (by omega)]
      have HLen : Hid (acc.length = i) := hN
      clear h1 HS hN
      by_cases z1 : e1 = 0
      · have b1 : (e1 != 0) = false := by simpa using z1
        rw [if_neg (by simpa using z1)] at hst
        have HN : Hid (decL zs (n - (i + 1)) q1 (acc ++ [(s1, s2)]) = (ls, r2, r3)) := hst
        clear hst z1
        go_wp2_with fail
        refine HT1.out.mono ?_
        rintro e w1 ⟨rfl, hg1⟩
        have HF1 : Hid (Full w1 g (acc ++ List.replicate (n - i) (⟨#[]⟩, ⟨#[]⟩))) := HF.out.grown hg1
        have HG1 : Hid (w.grownBy w1 none) := HG.out.trans hg1
        have c0 := (HF1.out.cells i _ HEl.out).1
        have c1 := (HF1.out.cells i _ HEl.out).2
        have d0 := HF1.out.free (i * 2)
        have d1 := HF1.out.free (i * 2 + 1)
        clear hg1
        go_wp2
        go_roundw
        case rel => exact ⟨i + 1, q1, acc ++ [(s1, s2)], by omega, by simp [HLen.out], by go_num, rfl, by rw [← HSet.out]; exact HF1.out.set i s1 s2, HN.out, gb_trans (gb_trans HG1.out (gb_set (g := g) rfl) (fun k hk => .inl (by cases hk; exact HB.out))) (gb_set (g := g) rfl) (fun k hk => .inl (by cases hk; exact HB.out))⟩
        case measure => simp [intOf]; omega
      · have b1 : (e1 != 0) = true := by simpa using z1
        rw [if_pos (by simpa using z1)] at hst
        simp only [Prod.mk.injEq] at hst
        obtain ⟨rfl, rfl, rfl⟩ := hst
        clear z1
        go_wp2_with fail
        refine HT1.out.mono ?_
        rintro e w1 ⟨rfl, hg1⟩
        have HF1 : Hid (Full w1 g (acc ++ List.replicate (n - i) (⟨#[]⟩, ⟨#[]⟩))) := HF.out.grown hg1
        have HG1 : Hid (w.grownBy w1 none) := HG.out.trans hg1
        have c0 := (HF1.out.cells i _ HEl.out).1
        have c1 := (HF1.out.cells i _ HEl.out).2
        have d0 := HF1.out.free (i * 2)
        have d1 := HF1.out.free (i * 2 + 1)
        clear hg1
        go_wp2
        go_ret3
        exact ⟨none, 0, 0, rfl, LOut.nil _ _, gb_trans (gb_trans HG1.out (gb_set (g := g) rfl) (fun k hk => .inl (by cases hk; exact HB.out))) (gb_set (g := g) rfl) (fun k hk => .inl (by cases hk; exact HB.out))⟩
    · obtain rfl : i = n := by omega
      have hki : ¬ (i : Int) < (i : Int) := by omega
      have hst := HS.out
      rw [Nat.sub_self, decL] at hst
      simp only [Prod.mk.injEq] at hst
      obtain ⟨rfl, rfl, rfl⟩ := hst
      have HF1 : Hid (Full wr g acc) := by have h := HF.out; rw [Nat.sub_self] at h; show Full wr g acc; simpa using h
      have HLen : Hid (acc.length = i) := hN
      clear HS HF hN
      go_wp2
      go_ret3
      exact ⟨_, _, _, rfl, HF1.out.own HB.out HLen.out hn, HG.out⟩
theorem g_read (a : Option Addr) (zs : List Int) (L cap : Nat) (p : Int) (ls : List Lab) (r2 r3 : Int) (w : World) (hr : Rd w a zs) (hL : zs.length = L) (hcap : L ≤ cap) (hz : (L : Int) ≤ 140737488355000) (hR : readR zs p = (ls, r2, r3)) :
    Calls Try.prog 56 #[.slice a L cap, .int .i64 p] w fun e w' => ∃ v m c, e = .returned (.tuple #[.slice v m c, .int .i64 r2, .int .i64 r3]) ∧ LOut w w' v m c ls ∧ w.grownBy w' none := by
  obtain ⟨u1, u2, u3, hU⟩ : ∃ u1 u2 u3, uintR zs p = (u1, u2, u3) := ⟨_, _, _, rfl⟩
  unfold readR at hR
  rw [hU] at hR
  by_cases h3 : u3 = 0
  · rw [if_neg (by simpa using h3)] at hR
    by_cases h1 : 16 < u1
    · rw [if_pos h1] at hR
      simp only [Prod.mk.injEq] at hR
      obtain ⟨rfl, rfl, rfl⟩ := hR
      subst h3
      have HC := f_uint a zs L cap p u1 u2 0 w hr hL hcap hz hU
      have hub : 0 ≤ u1 ∧ u1 ≤ 18446744073709551615 := by have := uintR_ok hr.byte hU; omega
      have b1 : decide ((16 : Int) < u1) = true := by simpa using h1
      clear hr hL hU h1
      go_enter Try.func56, Try.ntmps56
      go_wp2_with fail
      refine HC.mono ?_
      rintro e w0 ⟨rfl, hg0⟩
      have HG0 : Hid (w.grownBy w0 none) := hg0
      clear hg0
      go_wp2
      go_ret3
      exact ⟨none, 0, 0, rfl, LOut.nil _ _, HG0.out⟩
    · rw [if_neg h1] at hR
      subst h3
      have hok := uintR_ok hr.byte hU
      obtain ⟨n, rfl⟩ := Int.eq_ofNat_of_zero_le (show 0 ≤ u1 by omega)
      simp only [Int.toNat_natCast] at hR
      exact read_late a zs L cap p u2 n ls r2 r3 w hr hL hcap hz hU (by omega) hR
  · rw [if_pos (by simpa using h3)] at hR
    simp only [Prod.mk.injEq] at hR
    obtain ⟨rfl, rfl, rfl⟩ := hR
    have HC := f_uint a zs L cap p u1 u2 u3 w hr hL hcap hz hU
    have b1 : (u3 != 0) = true := by simpa using h3
    clear hr hL hU h3
    go_enter Try.func56, Try.ntmps56
    go_wp2_with fail
    refine HC.mono ?_
    rintro e w0 ⟨rfl, hg0⟩
    have HG0 : Hid (w.grownBy w0 none) := hg0
    clear hg0
    go_wp2
    go_ret3
    exact ⟨none, 0, 0, rfl, LOut.nil _ _, HG0.out⟩

theorem decL_bd (zs : List Int) : ∀ (m : Nat) (p : Int) (acc : List Lab), (decL zs m p acc).1.length ≤ m + acc.length := by
  intro m
  induction m with
  | zero => intro p acc; simp [decL]
  | succ m ih =>
    intro p acc
    rw [decL_one]
    split
    · simp
    · have := ih (oneR zs p).2.1 (acc ++ [(oneR zs p).1])
      rw [List.length_append] at this
      simp at this
      omega
theorem f_decode (a : Option Addr) (zs : List Int) (L cap : Nat) (p : Int) (ls : List Lab) (r2 r3 : Int) (w : World) (hr : Rd w a zs) (hL : zs.length = L) (hcap : L ≤ cap) (hz : (L : Int) ≤ 140737488355000) (hR : decodeR zs p = (ls, r2, r3)) :
    Calls Try.prog 23 #[.slice a L cap, .int .i64 p] w fun e w' => ∃ v m c, e = .returned (.tuple #[.slice v m c, .int .i64 r2, .int .i64 r3]) ∧ LOut w w' v m c ls ∧ w.grownBy w' none := by
  rw [decodeR_read] at hR
  obtain ⟨ms, q2, q3, hM⟩ : ∃ ms q2 q3, readR zs p = (ms, q2, q3) := ⟨_, _, _, rfl⟩
  have HC := g_read a zs L cap p ms q2 q3 w hr hL hcap hz hM
  rw [hM] at hR
  have hml : ms.length ≤ 18446744073709551615 := by
    have e : (readR zs p).1.length ≤ (uintR zs p).1.toNat := by
      unfold readR
      split
      · simp
      · split
        · simp
        · have := decL_bd zs (uintR zs p).1.toNat (uintR zs p).2.1 []
          simpa using this
    rw [hM] at e
    simp only at e
    have hub : (uintR zs p).1 ≤ 18446744073709551615 := by
      obtain ⟨u1, u2, u3, hU⟩ : ∃ u1 u2 u3, uintR zs p = (u1, u2, u3) := ⟨_, _, _, rfl⟩
      rw [hU]
      by_cases h3 : u3 = 0
      · subst h3; have := uintR_ok hr.byte hU; show u1 ≤ _; omega
      · have := uintR_err hU h3; show u1 ≤ _; omega
    omega
  have hml : ms.length ≤ 16 := by
    have e : (readR zs p).1.length ≤ 16 := by
      unfold readR
      split
      · simp
      · split
        · simp
        · have := decL_bd zs (uintR zs p).1.toNat (uintR zs p).2.1 []
          simp only [List.length_nil] at this
          omega
    rw [hM] at e
    exact e
  unfold shut at hR
  simp only at hR
  by_cases h3 : q3 = 0
  · have b3 : (q3 == 0) = true := by simpa using h3
    rw [if_neg (by simpa using h3)] at hR
    have HK : Hid (∀ v m c w1, LOut w w1 v m c ms → Calls Try.prog 10 #[.slice v m c] w1 fun e w' => e = .returned (.int .i64 (checkR ms)) ∧ w1.grownBy w' none) := fun v m c w1 ho => f_check v ms m c _ w1 (SOwn.rd ho) (SOwn.len ho) (by have := SOwn.len ho; omega) rfl
    generalize checkR ms = k at hR HK
    by_cases hk : k = 0
    · have bk : (k != 0) = false := by simpa using hk
      rw [if_neg (by simpa using hk)] at hR
      simp only [Prod.mk.injEq] at hR
      obtain ⟨rfl, rfl, rfl⟩ := hR
      clear h3 hk hr hL hM hml
      go_enter Try.func23, Try.ntmps23
      go_wp2_with fail
      refine HC.mono ?_
      rintro e w0 ⟨v, m, c, rfl, ho, hg0⟩
      have HO : Hid (LOut w w0 v m c ms) := ho
      have HG0 : Hid (w.grownBy w0 none) := hg0
      clear hg0 ho
      go_wp2_with fail
      refine (HK.out v m c w0 HO.out).mono ?_
      rintro e w1 ⟨rfl, hg1⟩
      have HO1 : Hid (LOut w w1 v m c ms) := SOwn.kept HO.out hg1 (Classical.em _)
      have HG1 : Hid (w.grownBy w1 none) := HG0.out.trans hg1
      clear hg1
      go_wp2
      go_ret3
      exact ⟨v, m, c, rfl, HO1.out, HG1.out⟩
    · have bk : (k != 0) = true := by simpa using hk
      rw [if_pos (by simpa using hk)] at hR
      simp only [Prod.mk.injEq] at hR
      obtain ⟨rfl, rfl, rfl⟩ := hR
      clear h3 hk hr hL hM hml
      go_enter Try.func23, Try.ntmps23
      go_wp2_with fail
      refine HC.mono ?_
      rintro e w0 ⟨v, m, c, rfl, ho, hg0⟩
      have HO : Hid (LOut w w0 v m c ms) := ho
      have HG0 : Hid (w.grownBy w0 none) := hg0
      clear hg0 ho
      go_wp2_with fail
      refine (HK.out v m c w0 HO.out).mono ?_
      rintro e w1 ⟨rfl, hg1⟩
      have HG1 : Hid (w.grownBy w1 none) := HG0.out.trans hg1
      clear hg1
      go_wp2
      go_ret3
      exact ⟨none, 0, 0, rfl, LOut.nil _ _, HG1.out⟩
  · have b3 : (q3 == 0) = false := by simpa using h3
    have c3 : (q3 != 0) = true := by simpa using h3
    rw [if_pos (by simpa using h3)] at hR
    simp only [Prod.mk.injEq] at hR
    obtain ⟨rfl, rfl, rfl⟩ := hR
    clear h3 hr hL hM hml
    go_enter Try.func23, Try.ntmps23
    go_wp2_with fail
    refine HC.mono ?_
    rintro e w0 ⟨v, m, c, rfl, ho, hg0⟩
    have HG0 : Hid (w.grownBy w0 none) := hg0
    clear hg0 ho
    go_wp2
    go_ret3
    exact ⟨none, 0, 0, rfl, LOut.nil _ _, HG0.out⟩
end Go.Proofs.Ytailaehpgmpaaaa
