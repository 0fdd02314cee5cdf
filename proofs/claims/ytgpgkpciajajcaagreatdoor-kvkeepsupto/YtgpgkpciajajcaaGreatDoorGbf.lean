/- Several texts in one: Kj, Kk, Lj. -/
import Derived.Test.YtgpgkpciajajcaaGreatDoorGbe
import Derived.Test.YtgpgkpciajajcaaGreatDoorGbb
import Derived.Test.YtgpgkpciajajcaaGreatDoorGbc
/- Package kv: Set. -/
namespace Go.Proofs.YtgpgkpciajajcaaGreatDoor
open Go.RowKit Go.Maps Go.Sort
set_option linter.unusedVariables false
set_option maxRecDepth 20000

/-- All registers, by key, say the registers. -/
theorem regs_out (F : ByteArray → Option Reg) : ∀ (l : List ByteArray) (G : ByteArray → Option Reg) (s : ByteArray), s ∉ l → (allR F l).foldl (fun H q => setR H q.1 (some q.2)) G s = G s
  | [], G, s, _ => rfl
  | t :: l, G, s, h => by
    show (allR F l).foldl _ (setR G t (some ((F t).getD reg0))) s = _
    rw [regs_out F l _ s (fun hm => h (List.mem_cons_of_mem _ hm)), setR_other _ _ (fun e => h (by rw [e]; exact List.mem_cons_self))]
theorem regs_in (F : ByteArray → Option Reg) : ∀ (l : List ByteArray) (G : ByteArray → Option Reg) (s : ByteArray), s ∈ l → (allR F l).foldl (fun H q => setR H q.1 (some q.2)) G s = some ((F s).getD reg0)
  | t :: l, G, s, h => by
    show (allR F l).foldl _ (setR G t (some ((F t).getD reg0))) s = _
    by_cases h1 : s ∈ l
    · exact regs_in F l _ s h1
    · rw [regs_out F l _ s h1]
      rcases List.mem_cons.1 h with rfl | h2
      · rw [setR_same]
      · exact absurd h2 h1
theorem regs_all {F : ByteArray → Option Reg} {l : List ByteArray} (h : KeysOf F ⟨#[]⟩ l) : regs (allR F l) = F := by
  funext s
  unfold regs
  by_cases hs : (F s).isSome = true
  · rw [regs_in F l _ s ((h.2.2 s).2 ⟨hs, by simp [Lib.hasPrefix]⟩)]
    obtain ⟨r, hr⟩ := Option.isSome_iff_exists.1 hs
    rw [hr]
    rfl
  · rw [regs_out F l _ s (fun hm => hs ((h.2.2 s).1 hm).1)]
    cases hF : F s with
    | none => rfl
    | some r => rw [hF] at hs; exact absurd rfl hs
theorem allR_len (F : ByteArray → Option Reg) (l : List ByteArray) : (allR F l).length = l.length := by
  unfold allR
  simp
theorem allR_ok {F : ByteArray → Option Reg} {l : List ByteArray} (h : KeysOf F ⟨#[]⟩ l) (hF : ∀ s r, F s = some r → RegOk s r ∧ (recL s r).length ≤ 65536) : AllOk (allR F l) := by
  intro q hq
  unfold allR at hq
  obtain ⟨s, hs, rfl⟩ := List.mem_map.1 hq
  obtain ⟨r, hr⟩ := Option.isSome_iff_exists.1 ((h.2.2 s).1 hs).1
  dsimp only
  rw [hr]
  exact hF s r hr
/-- The room that a cut needs. -/
def CutRoom (F : ByteArray → Option Reg) : Prop := ∀ l, KeysOf F ⟨#[]⟩ l → (logB frameR (recsL (allR F l))).length ≤ 4194304
theorem openN_nil (K : Kp) : openN K [] = lastN K + 1 := rfl
/-- shorten. -/
theorem k_shortenAny {W w : World} {d mb n : Nat} {x : DSt} {sb p mr m : Nat} {K : Kp} {Ls : Sg} {A B : Nat → Prop} {F : ByteArray → Option Reg} {rs : List (ByteArray × Reg)} (h : KvAt W w d mb n x sb p mr m K Ls A B F rs) (hne : ∃ s, (F s).isSome = true) (hln : Ls.length ≤ 4194304) (hw : x.wn + Ls.length ≤ 999999900) (hop : openN K Ls < 99999998) (hn : n < 1048574) (hm4 : m ≤ 4194304) (hsz : 64 < Ls.length → CutRoom F) :
    Calls Tryz.prog 46 #[.pointer (some ⟨sb, 0, none⟩)] w fun e w' => e = .returned (.int .i64 0) ∧ ∃ n' x' K' Ls' B' rs', n' ≤ n + 2 ∧ x'.wn ≤ x.wn + 4 + Ls.length ∧ KvAt W w' d mb n' x' sb p mr m K' Ls' A B' F rs' ∧ (Ls'.length ≤ 64 ∧ Ls'.length ≤ Ls.length) ∧ openN K' Ls' ≤ openN K Ls + 1 ∧ rs'.length ≤ max rs.length m ∧ Step2 w w' A B A B' := by
  by_cases hl : Ls.length ≤ 64
  · refine (k_short h.se.at_.wal sb _ _ h.row (by rw [List.length_map]; exact hl)).mono ?_
    rintro e w' ⟨rfl, rfl⟩
    exact ⟨rfl, n, x, K, Ls, B, rs, by omega, by omega, h, ⟨hl, Nat.le_refl _⟩, by omega, by omega, Step2.grown A B (World.grownBy.refl _ _)⟩
  · have hF : ∀ s r, F s = some r → RegOk s r ∧ (recL s r).length ≤ 65536 := by
      rw [← h.says]
      exact regs_ok h.ok
    refine (k_shorten h.se sb mr _ h.row h.map hF hne (by omega) hln hw hop hn hm4 (hsz (by omega))).mono ?_
    rintro e w' ⟨rfl, n', x', B', l, k1, k2, k3, k4, k5, k6⟩
    have hsl := h.row.lt
    have hml := h.map.lt
    refine ⟨rfl, n', x', _, [], B', allR F l, k1, k2, ⟨k5, h.row.stay (k6.kept.block sb hsl h.sb_.1), h.map.stay (k6.kept.block mr hml h.mr_.1), regs_all k3, ?_, allR_ok k3 hF, ⟨fun hx => h.sb_.1 (hx.imp id (fun hb => k6.oldB sb hsl hb)), h.sb_.2⟩, ⟨fun hx => h.mr_.1 (hx.imp id (fun hb => k6.oldB mr hml hb)), h.mr_.2⟩⟩, ⟨by simp, by simp⟩, by rw [openN_nil]; exact Nat.le_refl _, by rw [allR_len]; omega, k6⟩
    show recsL (allR F l) ++ recsOf [] = _
    simp [recsOf]
/-- The blocks of a store. -/
def Blk (A B : Nat → Prop) (mr : Nat) : Nat → Prop := fun k => A k ∨ B k ∨ k = mr
/-- What Set answers where it is done. -/
def SetOut (W w : World) (d mb n : Nat) (x : DSt) (sb p mr m : Nat) (K : Kp) (Ls : Sg) (A B : Nat → Prop) (F : ByteArray → Option Reg) (rs : List (ByteArray × Reg)) (w' : World) : Prop := ∃ n' x' K' Ls' A' B' rs', n' ≤ n + 3 ∧ x'.wn ≤ x.wn + 8 + Ls.length ∧ KvAt W w' d mb n' x' sb p mr (m + 1) K' Ls' A' B' F rs' ∧ (Ls'.length ≤ 64 ∧ Ls'.length ≤ Ls.length + 1) ∧ openN K' Ls' ≤ openN K Ls + 2 ∧ rs'.length ≤ max rs.length m + 1 ∧ Step w w' (Blk A B mr) (Blk A' B' mr)
theorem step2_blk {w w' : World} {A B A' B' : Nat → Prop} (h : Step2 w w' A B A' B') (mr : Nat) : Step w w' (Blk A B mr) (Blk A' B' mr) :=
  ⟨h.kept.mono (fun k _ hx => hx.elim .inl (fun hb => .inr (.inl hb))), fun k hk hx => by
    rcases hx with ha | hb | e
    · exact .inl (h.oldA k hk ha)
    · exact .inr (.inl (h.oldB k hk hb))
    · exact .inr (.inr e)⟩
/-- Behind keep, and with the register in the map. -/
theorem k_mid {W w w4 w5 w6 : World} {d mb n n1 : Nat} {x x1 : DSt} {sb p mr m : Nat} {K : Kp} {Ls : Sg} {A B A1 B1 : Nat → Prop} {F : ByteArray → Option Reg} {rs : List (ByteArray × Reg)} {k : ByteArray} {r : Reg} (h : KvAt W w d mb n x sb p mr m K Ls A B F rs) (hg4 : w.grownBy w4 none) (hs5 : Step2 w4 w5 A B A1 B1) (hse5 : Se W w5 d mb n1 x1 p dirK K (addL K Ls (recL k r)) A1 B1) (hm6 : RegIs w6 mr (m + 1) (setR F k (some r))) (hg6 : w5.grownBy w6 (some mr)) (hr1 : RegOk k r) (hr2 : (recL k r).length ≤ 65536) :
    KvAt W w6 d mb n1 x1 sb p mr (m + 1) K (addL K Ls (recL k r)) A1 B1 (setR F k (some r)) (rs ++ [(k, r)]) ∧ Step w w6 (Blk A B mr) (Blk A1 B1 mr) := by
  have hsl := h.row.lt
  have hml := h.map.lt
  have hne := h.row.ne_map h.map
  have hsl4 : sb < w4.heap.size := Nat.lt_of_lt_of_le hsl hg4.size
  have hml4 : mr < w4.heap.size := Nat.lt_of_lt_of_le hml hg4.size
  have hsb1 : ¬ (A1 sb ∨ B1 sb) := fun hx => h.sb_.1 (hx.imp (hs5.oldA sb hsl4) (hs5.oldB sb hsl4))
  have hmr1 : ¬ (A1 mr ∨ B1 mr) := fun hx => h.mr_.1 (hx.imp (hs5.oldA mr hml4) (hs5.oldB mr hml4))
  have hk6 : Kept w5 w6 (fun j => j = mr) := Kept.of hg6 (fun j hj => by cases hj; rfl)
  have hrow5 := (h.row.grown hg4).stay (hs5.kept.block sb hsl4 h.sb_.1)
  refine ⟨⟨hse5.others hk6 (fun j hj e => by subst e; exact hmr1 hj) (fun j e => by subst e; exact h.mr_.2), hrow5.stay (hk6.block sb hrow5.lt hne), hm6, ?_, ?_, h.ok.snoc hr1 hr2, ⟨hsb1, h.sb_.2⟩, ⟨hmr1, h.mr_.2⟩⟩, ?_⟩
  · rw [regs_snoc, h.says]
  · rw [recsOf_add, recsL_snoc, ← h.recs, List.append_assoc]
  · have st1 : Step w w5 (Blk A B mr) (Blk A1 B1 mr) := (Step.grown (Blk A B mr) hg4).trans (step2_blk hs5 mr)
    refine st1.trans ⟨hk6.mono (fun j _ e => .inr (.inr e)), fun j _ hx => hx⟩
set_option maxHeartbeats 8000000 in
theorem k_setOk {W w : World} {d mb n : Nat} {x : DSt} {sb p mr m : Nat} {K : Kp} {Ls : Sg} {A B : Nat → Prop} {F : ByteArray → Option Reg} {rs : List (ByteArray × Reg)} (h : KvAt W w d mb n x sb p mr m K Ls A B F rs) (k : ByteArray) (a : Option Addr) (dd : List Int) (M c : Nat) (hk : kB k = true) (hr : Rd w a dd) (hM : dd.length = M) (hv : ((F k).getD reg0).1 < 18446744073709551600) (hrl : (recL k (((F k).getD reg0).1 + 1, strOfNums dd)).length ≤ 65536) (hw : x.wn + Ls.length ≤ 999999800) (hop : openN K Ls < 99999990) (hn : n < 1048570) (hsg : Ls.length < 4194300) (hm4 : m < 4194304) (hsz : 64 < (addL K Ls (recL k (((F k).getD reg0).1 + 1, strOfNums dd))).length → CutRoom (setR F k (some (((F k).getD reg0).1 + 1, strOfNums dd)))) :
    Calls Tryz.prog 19 #[.pointer (some ⟨sb, 0, none⟩), .string k, .slice a M c, .int .u64 (((F k).getD reg0).1 : Int)] w fun e w' => e = .returned (.tuple #[.int .u64 ((((F k).getD reg0).1 : Int) + 1), .int .i64 0]) ∧ SetOut W w d mb n x sb p mr m K Ls A B (setR F k (some (((F k).getD reg0).1 + 1, strOfNums dd))) rs w' := by
  have hks := kB_size hk
  have HFD := k_find sb mr _ k h.se.at_.disk h.se.calm.on h.row h.map hk
  unfold regV regV0 at HFD
  generalize ((F k).getD reg0).2 = s0 at HFD
  generalize ((F k).getD reg0).1 = v at HFD hv hrl hsz ⊢
  have hds : dd.length ≤ 65536 := by
    have h1 := recL_len k (v + 1, strOfNums dd)
    have h2 : (strOfNums dd).size = dd.length := by unfold strOfNums; simp [ByteArray.size]
    rw [h2] at h1
    omega
  have hss : (strOfNums dd).size ≤ 65536 := by
    have h2 : (strOfNums dd).size = dd.length := by unfold strOfNums; simp [ByteArray.size]
    omega
  obtain ⟨s, es⟩ : ∃ s, s = strOfNums dd := ⟨_, rfl⟩
  have HNX : Hid (∀ w1, w.grownBy w1 none → Calls Tryz.prog 42 #[.agg #[.int .u64 (v : Int), .string s0], .slice a M c] w1 fun e w' => e = .returned (.agg #[.int .u64 ((v : Int) + 1), .string s]) ∧ w1.grownBy w' none) := fun w1 hg => by
    rw [es]
    exact k_next v s0 a dd M c w1 (hr.grown hg (by simp)) hM (by omega)
  rw [← es] at hrl hsz hss ⊢
  have HLY : Hid (∀ w1, Calls Tryz.prog 43 #[.agg #[.int .u64 ((v : Int) + 1), .string s], .string k] w1 fun e w' => ∃ g c N, e = .returned (.slice (some ⟨g, 0, none⟩) N c) ∧ Own w' w1.heap.size g N c (recL k (v + 1, s)) ∧ w1.grownBy w' none) := fun w1 => by
    have := k_lay k (v + 1) s w1 hks.2 (by omega) (by omega)
    rw [show ((v + 1 : Nat) : Int) = (v : Int) + 1 by omega] at this
    exact this
  have hrok : RegOk k (v + 1, s) := ⟨hks, ⟨by dsimp only; omega, by dsimp only; omega⟩, hss⟩
  have HKP : Hid (∀ w1 g N c, w.grownBy w1 none → Own w1 w.heap.size g N c (recL k (v + 1, s)) → Calls Tryz.prog 44 #[.pointer (some ⟨sb, 0, none⟩), .slice (some ⟨g, 0, none⟩) N c] w1 fun e w' => e = .returned (.int .i64 0) ∧ ∃ n' x' A' B', n' ≤ n + 1 ∧ x'.wn ≤ x.wn + 3 ∧ Se W w' d mb n' x' p dirK K (addL K Ls (recL k (v + 1, s))) A' B' ∧ Step2 w1 w' A B A' B') := fun w1 g N c hg ho =>
    k_keep (h.se.grown hg) sb _ _ (h.row.grown hg) h.sb_.1 (some ⟨g, 0, none⟩) (recL k (v + 1, s)) N c (by omega) (by omega) (by omega) (by omega) ho.rd ho.len (by simp) (by rw [← ho.len]; exact hrl)
  have hopA : ∀ x1 : DSt, openN K (addL K Ls (recL k (v + 1, s))) ≤ openN K Ls + 1 := fun _ => by
    have hadd := log_add (rec := recL k (v + 1, s)) h.se.log h.se.calm (by omega) hrl (by omega)
    rw [← hadd.op]
    exact rollX_le x dirK (openN K Ls)
  have hlnA := addL_len K Ls (recL k (v + 1, s))
  have HSH : Hid (∀ (w5 : World) (n1 : Nat) (x1 : DSt) (A1 B1 : Nat → Prop), n1 ≤ n + 1 → x1.wn ≤ x.wn + 3 → KvAt W w5 d mb n1 x1 sb p mr (m + 1) K (addL K Ls (recL k (v + 1, s))) A1 B1 (setR F k (some (v + 1, s))) (rs ++ [(k, v + 1, s)]) → Step w w5 (Blk A B mr) (Blk A1 B1 mr) → Calls Tryz.prog 46 #[.pointer (some ⟨sb, 0, none⟩)] w5 fun e w' => e = .returned (.int .i64 0) ∧ SetOut W w d mb n x sb p mr m K Ls A B (setR F k (some (v + 1, s))) rs w' ∧ ∀ g, g < w5.heap.size → w.heap.size ≤ g → ¬ Blk A1 B1 mr g → w'.heap[g]? = w5.heap[g]?) := by
    intro w5 n1 x1 A1 B1 b1 b2 hk5 hst
    have h8 := hopA x1
    refine (k_shortenAny hk5 ⟨k, by rw [setR_same]; rfl⟩ (by omega) (by omega) (by omega) (by omega) (by omega) hsz).mono ?_
    rintro e w' ⟨rfl, n', x', K', Ls', B', rs', k1, k2, k3, k4, k5, k6, k7⟩
    rw [List.length_append, List.length_singleton] at k6
    refine ⟨rfl, ⟨n', x', K', Ls', A1, B', rs', by omega, by omega, k3, ⟨k4.1, by omega⟩, by omega, by omega, hst.trans (step2_blk k7 mr)⟩, fun g h1 h2 h3 => k7.kept.block g h1 (fun hx => h3 (hx.elim .inl (fun hb => .inr (.inl hb))))⟩
  have HKV : Hid (KvAt W w d mb n x sb p mr m K Ls A B F rs) := h
  have HROK : Hid (RegOk k (v + 1, s) ∧ (recL k (v + 1, s)).length ≤ 65536) := ⟨hrok, hrl⟩
  have HK64 : Hid (k.size ≤ 64 ∧ m ≤ 4194304) := ⟨hks.2, by omega⟩
  have HFD' : Hid (Calls Tryz.prog 41 #[.pointer (some ⟨sb, 0, none⟩), .string k] w fun e w' => e = .returned (.tuple #[.agg #[.int .u64 (v : Int), .string s0], .int .i64 0]) ∧ w.grownBy w' none) := HFD
  have q1 : ((v : Int) != (v : Int)) = false := by simp
  clear h hk hr hM hv hrl hw hop hn hsg hm4 hsz hks HFD hds hss es hrok hopA hlnA
  go_enter Tryz.func19, Tryz.ntmps19
  go_wp2_with fail
  refine HFD'.out.mono ?_
  rintro e w1 ⟨rfl, hg1⟩
  obtain ⟨W1, eW1⟩ : ∃ W1, W1 = w1.alloc (.cells #[.int .u64 (v : Int), .string s0] 90) := ⟨_, rfl⟩
  have HB1 : RgAt W1 w1.heap.size (.int .u64 (v : Int)) (.string s0) := by rw [eW1]; exact RgAt.new w1 _ _
  have HG1 : Hid (w.grownBy W1 none) := by show w.grownBy W1 none; rw [eW1]; exact hg1.trans (World.grownBy_alloc w1 _ none)
  have c0 := HB1.c0
  have c1 := HB1.c1
  clear hg1 HFD'
  go_upto_region 2 with fail
  rw [← eW1]
  clear eW1 HB1
  go_wp2_with fail
  refine (HNX.out _ HG1.out).mono ?_
  rintro e w2 ⟨rfl, hg2⟩
  obtain ⟨W2, eW2⟩ : ∃ W2, W2 = w2.alloc (.cells #[.int .u64 ((v : Int) + 1), .string s] 90) := ⟨_, rfl⟩
  have HB2 : RgAt W2 w2.heap.size (.int .u64 ((v : Int) + 1)) (.string s) := by rw [eW2]; exact RgAt.new w2 _ _
  have HG2 : Hid (w.grownBy W2 none) := by show w.grownBy W2 none; rw [eW2]; exact (HG1.out.trans hg2).trans (World.grownBy_alloc w2 _ none)
  have HW2 : Hid (w.heap.size ≤ w2.heap.size) := (HG1.out.trans hg2).size
  have HBH : Hid (RgAt W2 w2.heap.size (.int .u64 ((v : Int) + 1)) (.string s)) := HB2
  have d0 := HB2.c0
  have d1 := HB2.c1
  clear hg2 HNX HG1 c0 c1
  go_upto_region 7 with fail
  rw [← eW2]
  clear eW2 HB2
  go_wp2_with fail
  refine (HLY.out _).mono ?_
  rintro e w3 ⟨g, c3, RN, rfl, hown, hg3⟩
  have HG3 : Hid (w.grownBy w3 none) := HG2.out.trans hg3
  have HOW : Hid (Own w3 w.heap.size g RN c3 (recL k (v + 1, s))) := hown.base HG2.out.size
  have HB3 : Hid (RgAt w3 w2.heap.size (.int .u64 ((v : Int) + 1)) (.string s)) := HBH.out.grown hg3
  have hRN : (RN : Int) ≤ 65536 := by have h1 := hown.len; have h2 := HROK.out.2; omega
  have HC := HKP.out w3 g RN c3 HG3.out HOW.out
  clear hown hg3 HLY HKP HG2 HBH d0 d1
  go_wp2_with fail
  refine HC.mono ?_
  rintro e w5 ⟨rfl, n1, x1, A1, B1, b1, b2, b3, b4⟩
  have hgl := HB3.out.lt
  have hgA : ¬ (A w2.heap.size ∨ B w2.heap.size) := fun hx => hx.elim (fun ha => by have := HKV.out.se.at_.ltA _ ha; have := HW2.out; omega) (fun hb => by have := HKV.out.se.at_.ltB _ hb; have := HW2.out; omega)
  have hgm : w2.heap.size ≠ mr := fun e => by have := HKV.out.map.lt; have := HW2.out; omega
  have HB5 : RgAt w5 w2.heap.size (.int .u64 ((v : Int) + 1)) (.string s) := HB3.out.stay (b4.kept.block _ hgl hgA)
  have hgA1 : ¬ (A1 w2.heap.size ∨ B1 w2.heap.size) := fun hx => hgA (hx.imp (b4.oldA _ hgl) (b4.oldB _ hgl))
  have hrow5 := (HKV.out.row.grown HG3.out).stay (b4.kept.block sb (Nat.lt_of_lt_of_le HKV.out.row.lt HG3.out.size) HKV.out.sb_.1)
  have hmap5 := (HKV.out.map.kept HG3.out (by simp)).stay (b4.kept.block mr (Nat.lt_of_lt_of_le HKV.out.map.lt HG3.out.size) HKV.out.mr_.1)
  have r2 := hrow5.c2
  have d0 := HB5.c0
  have d1 := HB5.c1
  obtain ⟨w6, hrun, hm6, hg6⟩ := RegIs.put (w := w5.drew) (hmap5.kept (gb_drew (World.grownBy.refl w5 none)) (by simp)) k HK64.out.1 HK64.out.2 (v + 1, s)
  have hput : (Instr.mapUpdate 66 (.map (some mr)) (.string k) (.agg #[.int .u64 ((v : Int) + 1), .string s])).run Tryz.prog w5.drew = .ok () w6 := hrun
  have hg56 : w5.grownBy w6 (some mr) := gb_trans (gb_any (gb_drew (World.grownBy.refl w5 none)) _) hg6 (fun j hj => .inr hj)
  obtain ⟨hk6, hst6⟩ := k_mid HKV.out HG3.out b4 b3 hm6 hg56 HROK.out.1 HROK.out.2
  have HC6 := HSH.out w6 n1 x1 A1 B1 b1 b2 hk6 hst6
  have HB6 : RgAt w6 w2.heap.size (.int .u64 ((v : Int) + 1)) (.string s) := HB5.stay (hg56.block _ HB5.lt (fun e => hgm (Option.some.inj e)))
  have HBL : Hid (¬ Blk A1 B1 mr w2.heap.size) := fun hx => hx.elim (fun ha => hgA1 (.inl ha)) (fun hx => hx.elim (fun hb => hgA1 (.inr hb)) hgm)
  have HB6H : Hid (RgAt w6 w2.heap.size (.int .u64 ((v : Int) + 1)) (.string s)) := HB6
  clear hgl hgA hgm hgA1 hrow5 hmap5 hrun hm6 hg6 hg56 hk6 hst6 HB5 HB6 b1 b2 b3 b4 HC HB3 HOW HG3 HKV HROK HSH
  go_upto_region 13 with fail
  go_region
  all_goals go_wp2_with fail
  all_goals refine HC6.mono ?_
  all_goals rintro e w7 ⟨rfl, hso, hbk⟩
  all_goals have e0 := (HB6H.out.stay (hbk _ HB6H.out.lt HW2.out HBL.out)).c0
  all_goals have HSO : Hid (SetOut W w d mb n x sb p mr m K Ls A B (setR F k (some (v + 1, s))) rs w7) := hso
  all_goals clear hso hbk HC6
  all_goals go_wp2
  all_goals go_ret2
  all_goals exact ⟨rfl, HSO.out⟩
end Go.Proofs.YtgpgkpciajajcaaGreatDoor

/- Package kv: a store, call by call, as a caller's walk uses it. -/
namespace Go.Proofs.YtgpgkpciajajcaaGreatDoor
open Go.RowKit Go.Maps Go.Sort
set_option linter.unusedVariables false
set_option maxRecDepth 20000

set_option maxHeartbeats 4000000 in
theorem k_setVer {w : World} {base d mb n m : Nat} {x : DSt} {B : Nat → Prop} {F : ByteArray → Option Reg} (sb mr : Nat) (x0 : Value) (k : ByteArray) (a : Option Addr) (M c : Nat) (v : Nat) (h : DS w base d mb n x B) (hon : x.off = false) (hs : TriAt w sb x0 (.pointer (some ⟨d, 0, none⟩)) (.map (some mr))) (hm : RegIs w mr m F) (hk : kB k = true) (hne : ((F k).getD reg0).1 ≠ v) :
    Calls Tryz.prog 19 #[.pointer (some ⟨sb, 0, none⟩), .string k, .slice a M c, .int .u64 (v : Int)] w fun e w' => e = .returned (.tuple #[.int .u64 (((F k).getD reg0).1 : Int), .int .i64 121]) ∧ w.grownBy w' none := by
  have HFD := k_find sb mr _ k h hon hs hm hk
  unfold regV regV0 at HFD
  generalize ((F k).getD reg0).2 = s0 at HFD
  generalize ((F k).getD reg0).1 = v0 at HFD hne ⊢
  have HFD' : Hid (Calls Tryz.prog 41 #[.pointer (some ⟨sb, 0, none⟩), .string k] w fun e w' => e = .returned (.tuple #[.agg #[.int .u64 (v0 : Int), .string s0], .int .i64 0]) ∧ w.grownBy w' none) := HFD
  have q1 : ((v0 : Int) != (v : Int)) = true := by simp; omega
  clear h hon hs hm hk HFD hne
  go_enter Tryz.func19, Tryz.ntmps19
  go_wp2_with fail
  refine HFD'.out.mono ?_
  rintro e w1 ⟨rfl, hg1⟩
  obtain ⟨W1, eW1⟩ : ∃ W1, W1 = w1.alloc (.cells #[.int .u64 (v0 : Int), .string s0] 90) := ⟨_, rfl⟩
  have HB1 : RgAt W1 w1.heap.size (.int .u64 (v0 : Int)) (.string s0) := by rw [eW1]; exact RgAt.new w1 _ _
  have HG1 : Hid (w.grownBy W1 none) := by show w.grownBy W1 none; rw [eW1]; exact hg1.trans (World.grownBy_alloc w1 _ none)
  have c0 := HB1.c0
  clear hg1 HFD'
  go_upto_region 2 with fail
  rw [← eW1]
  clear eW1 HB1
  go_wp2
  go_ret2
  exact ⟨rfl, HG1.out⟩
/-- Keys. -/
theorem k_keysF {w : World} {base d mb n m : Nat} {x : DSt} {B : Nat → Prop} {F : ByteArray → Option Reg} (sb mr : Nat) (x0 : Value) (p : ByteArray) (h : DS w base d mb n x B) (hon : x.off = false) (hs : TriAt w sb x0 (.pointer (some ⟨d, 0, none⟩)) (.map (some mr))) (hm : RegIs w mr m F) (hm4 : m ≤ 4194304) :
    Calls Tryz.prog 38 #[.pointer (some ⟨sb, 0, none⟩), .string p] w fun e w' => ∃ a c l, e = .returned (.slice a l.length c) ∧ SOwn strE 9 w' w.heap.size (.slice a l.length c) l.length l ∧ w.grownBy w' none ∧ KeysOf F p l ∧ l.length ≤ m := by
  have HR : Hid (Calls Tryz.prog 25 #[.pointer (some ⟨sb, 0, none⟩)] w fun e w' => e = .returned (.int .i64 0) ∧ w = w') := k_reach sb mr x0 h hon hs
  have HK : Hid (Calls Tryz.prog 68 #[.pointer (some ⟨sb, 0, none⟩), .string p] w fun e w' => ∃ a c l, e = .returned (.slice a l.length c) ∧ SOwn strE 9 w' w.heap.size (.slice a l.length c) l.length l ∧ w.grownBy w' none ∧ KeysOf F p l ∧ l.length ≤ m) := k_keys sb mr m _ _ F p w hs hm hm4
  clear h hon hs hm hm4
  go_enter Tryz.func38, Tryz.ntmps38
  go_wp2_with fail
  refine HR.out.mono ?_
  rintro e w1 ⟨rfl, rfl⟩
  go_wp2_with fail
  refine HK.out.mono ?_
  rintro e w1 ⟨a, c, l, rfl, hx⟩
  have HX : Hid (SOwn strE 9 w1 w.heap.size (.slice a l.length c) l.length l ∧ w.grownBy w1 none ∧ KeysOf F p l ∧ l.length ≤ m) := hx
  generalize e0 : l.length = L at HX ⊢
  clear hx HK HR
  go_wp2
  go_ret
  exact ⟨a, c, l, by rw [e0]; rfl, by rw [e0]; exact HX.out.1, HX.out.2.1, HX.out.2.2.1, by rw [e0]; exact HX.out.2.2.2⟩
/-- A store behind i changes. -/
def KvS (W w : World) (d mb sb i : Nat) (F : ByteArray → Option Reg) : Prop := ∃ n x p mr m K Ls A B rs, KvAt W w d mb n x sb p mr m K Ls A B F rs ∧ n ≤ 3 * i ∧ x.wn ≤ 80 * i ∧ openN K Ls ≤ 2 * i + 1 ∧ (Ls.length ≤ 64 ∧ Ls.length ≤ i) ∧ rs.length ≤ i ∧ m ≤ i
theorem KvS.grown {W w w' : World} {d mb sb i : Nat} {F : ByteArray → Option Reg} (h : KvS W w d mb sb i F) (hg : w.grownBy w' none) : KvS W w' d mb sb i F := by
  obtain ⟨n, x, p, mr, m, K, Ls, A, B, rs, h1, h2⟩ := h
  exact ⟨n, x, p, mr, m, K, Ls, A, B, rs, h1.grown hg, h2⟩
theorem KvS.from_ {W w : World} {d mb sb i : Nat} {F : ByteArray → Option Reg} (h : KvS W w d mb sb i F) : W.grownBy w none := by
  obtain ⟨n, x, p, mr, m, K, Ls, A, B, rs, h1, h2⟩ := h
  exact h1.se.from_
/-- A new disk. -/
theorem kv_disk (w : World) (ht : Tab w) : Calls Tryz.prog 7 #[] w fun e w' => ∃ d mb B, e = .returned (.pointer (some ⟨d, 0, none⟩)) ∧ De w w' d mb 0 x0 dirK none [] B ∧ w.grownBy w' none := by
  refine (v_new w).mono ?_
  rintro e w' ⟨d, mb, B, rfl, h1, h2, h3⟩
  have h1' : DS w' w.heap.size d mb 0 x0 B := h1
  exact ⟨d, mb, _, rfl, ⟨h1'.bound, log0 dirK, x0_calm, h2, fun k hk => h3 k hk.1, fun k hk => hk.2, ht⟩, h2⟩
/-- Open, of a new disk. -/
theorem kv_open0 {W w : World} {d mb : Nat} {B : Nat → Prop} (h : De W w d mb 0 x0 dirK none [] B) : Calls Tryz.prog 8 #[.pointer (some ⟨d, 0, none⟩)] w fun e w' => ∃ sb, e = .returned (.tuple #[.pointer (some ⟨sb, 0, none⟩), .int .i64 0]) ∧ KvS W w' d mb sb 0 (fun _ => none) ∧ w.grownBy w' none := by
  refine (k_open [] h rfl (fun q hq => by cases hq) (by omega) (by simp) (by simp)).mono ?_
  rintro e w' ⟨sb, p, mr, A, rfl, h1, h2, _⟩
  exact ⟨sb, rfl, ⟨0, x0, p, mr, 0, none, [], A, B, [], h1, by omega, by decide, by decide, ⟨by simp, by simp⟩, by simp, by omega⟩, h2⟩
theorem kv_get {W w : World} {d mb sb i : Nat} {F : ByteArray → Option Reg} (h : KvS W w d mb sb i F) (k : ByteArray) (hk : kB k = true) : Calls Tryz.prog 20 #[.pointer (some ⟨sb, 0, none⟩), .string k] w fun e w' => ∃ a C, e = .returned (.tuple #[.slice (some a) ((F k).getD reg0).2.size C, .int .u64 (((F k).getD reg0).1 : Int), .int .i64 0]) ∧ Rd w' (some a) (sInts ((F k).getD reg0).2) ∧ w.grownBy w' none := by
  obtain ⟨n, x, p, mr, m, K, Ls, A, B, rs, h1, h2⟩ := h
  refine (k_get sb mr _ k h1.se.at_.disk h1.se.calm.on h1.row h1.map hk).mono ?_
  rintro e w' ⟨a, C, rfl, k1, k2, k3, k4⟩
  exact ⟨a, C, rfl, k1, k4⟩
theorem kv_setVer {W w : World} {d mb sb i : Nat} {F : ByteArray → Option Reg} (h : KvS W w d mb sb i F) (k : ByteArray) (a : Option Addr) (M c v : Nat) (hk : kB k = true) (hne : ((F k).getD reg0).1 ≠ v) : Calls Tryz.prog 19 #[.pointer (some ⟨sb, 0, none⟩), .string k, .slice a M c, .int .u64 (v : Int)] w fun e w' => e = .returned (.tuple #[.int .u64 (((F k).getD reg0).1 : Int), .int .i64 121]) ∧ w.grownBy w' none := by
  obtain ⟨n, x, p, mr, m, K, Ls, A, B, rs, h1, h2⟩ := h
  exact k_setVer sb mr _ k a M c v h1.se.at_.disk h1.se.calm.on h1.row h1.map hk hne
theorem str_size (dd : List Int) : (strOfNums dd).size = dd.length := by unfold strOfNums; simp [ByteArray.size]
theorem rec_small (k : ByteArray) (v : Nat) (dd : List Int) (hk : kB k = true) (hv : v < 18446744073709551616) (hM : dd.length ≤ 65400) : (recL k (v, strOfNums dd)).length ≤ dd.length + 78 := by
  have h1 := recL_len k (v, strOfNums dd)
  have h2 := kB_size hk
  have h3 : (enc k.size).length = 1 := by rw [enc_small (by omega)]; rfl
  have h4 := enc_len v hv
  have h5 := enc_len_le 2 (strOfNums dd).size (by rw [str_size]; omega)
  have h6 := str_size dd
  dsimp only at h1
  omega
theorem kv_set {W w : World} {d mb sb i : Nat} {F : ByteArray → Option Reg} (h : KvS W w d mb sb i F) (k : ByteArray) (a : Option Addr) (dd : List Int) (M c : Nat) (hk : kB k = true) (hr : Rd w a dd) (hM : dd.length = M) (hv : ((F k).getD reg0).1 < 18446744073709551600) (hM2 : M ≤ 65400) (hi : i ≤ 10000) (hsz : i < 64 ∨ CutRoom (setR F k (some (((F k).getD reg0).1 + 1, strOfNums dd)))) :
    Calls Tryz.prog 19 #[.pointer (some ⟨sb, 0, none⟩), .string k, .slice a M c, .int .u64 (((F k).getD reg0).1 : Int)] w fun e w' => e = .returned (.tuple #[.int .u64 ((((F k).getD reg0).1 : Int) + 1), .int .i64 0]) ∧ KvS W w' d mb sb (i + 1) (setR F k (some (((F k).getD reg0).1 + 1, strOfNums dd))) := by
  obtain ⟨n, x, p, mr, m, K, Ls, A, B, rs, h1, h2, h3, h4, h5, h6, h7⟩ := h
  have hrs := rec_small k (((F k).getD reg0).1 + 1) dd hk (by omega) (by omega)
  have hln := addL_len K Ls (recL k (((F k).getD reg0).1 + 1, strOfNums dd))
  refine (k_setOk h1 k a dd M c hk hr hM hv (by omega) (by omega) (by omega) (by omega) (by omega) (by omega) (fun h => hsz.resolve_left (by omega))).mono ?_
  rintro e w' ⟨rfl, n', x', K', Ls', A', B', rs', k1, k2, k3, k4, k5, k6, k7⟩
  exact ⟨rfl, n', x', p, mr, m + 1, K', Ls', A', B', rs', k3, by omega, by omega, by omega, ⟨k4.1, by omega⟩, by omega, by omega⟩
theorem kv_keys {W w : World} {d mb sb i : Nat} {F : ByteArray → Option Reg} (h : KvS W w d mb sb i F) (p : ByteArray) (hi : i ≤ 100000) :
    Calls Tryz.prog 38 #[.pointer (some ⟨sb, 0, none⟩), .string p] w fun e w' => ∃ a c l, e = .returned (.slice a l.length c) ∧ SOwn strE 9 w' w.heap.size (.slice a l.length c) l.length l ∧ w.grownBy w' none ∧ KeysOf F p l := by
  obtain ⟨n, x, p', mr, m, K, Ls, A, B, rs, h1, h2, h3, h4, h5, h6, h7⟩ := h
  refine (k_keysF sb mr _ p h1.se.at_.disk h1.se.calm.on h1.row h1.map (by omega)).mono ?_
  rintro e w' ⟨a, c, l, rfl, k1, k2, k3, k4⟩
  exact ⟨a, c, l, rfl, k1, k2, k3⟩
end Go.Proofs.YtgpgkpciajajcaaGreatDoor

/- Open, of whatever a power cut has left of a log; a store opened over it. -/
namespace Go.Proofs.YtgpgkpciajajcaaGreatDoor
open Go.RowKit Go.Maps Go.Sort
set_option linter.unusedVariables false
set_option maxRecDepth 20000

/-- A folder that tells these records once it is mended. -/
inductive Tells (V : Cont) (dir : ByteArray) (recs : List (List Int)) : Prop
  | whole (K : Kp) (Ls : Sg) (h : Log V dir K Ls) (e : cpRecs K ++ recsOf Ls = recs) (hl : Ls.length ≤ 100) : Tells V dir recs
  | torn (K : Kp) (Ls LL : Sg) (kl : Nat) (rl : List (List Int)) (tl : List Int) (sl : Nat) (h : TornLog V dir K Ls LL kl rl tl sl) (htl : tl ≠ []) (hb : (logB frameR rl).length ≤ 69639) (e : cpRecs K ++ recsOf LL = recs) (hl : LL.length ≤ 100) : Tells V dir recs
  | draft (K : Kp) (Ls : Sg) (h : DraftK V dir K Ls) (e : cpRecs K ++ recsOf Ls = recs) (hl : Ls.length ≤ 100) : Tells V dir recs
  | old (q : Nat × List (List Int)) (segs : List Nat) (h : OldLog V dir q segs) (e : q.2 = recs) (hl : segs.length ≤ 100) : Tells V dir recs
  | two (c0 : Nat) (q : Nat × List (List Int)) (segs : List Nat) (h : OldTwo V dir c0 q segs) (e : q.2 = recs) (hl : segs.length ≤ 100) : Tells V dir recs
theorem tells_power {V : Cont} {dir : ByteArray} {K : Kp} {rs : List (List Int)} {M : Nat} (h : PowerK V dir K rs M) (hM : M ≤ 100) : Tells V dir (cpRecs K ++ rs) := by
  rcases h with ⟨LL, h1, rfl, h3⟩ | ⟨Ls0, LL, kl, rl, tl, sl, h1, h2, h3, rfl, h5⟩
  · exact .whole K LL h1 rfl (by omega)
  · exact .torn K Ls0 LL kl rl tl sl h1 h2 h3 rfl (by omega)
theorem tells_cut {V : Cont} {dir : ByteArray} {K : Kp} {Ls : Sg} {recs : List (List Int)} (h : CutVK V dir K Ls recs) (hM : Ls.length ≤ 100) : Tells V dir (cpRecs K ++ recsOf Ls) ∨ Tells V dir recs := by
  rcases h with h | ⟨segs, h, hl⟩ | ⟨c0, h⟩
  · exact .inl (.draft K Ls h rfl hM)
  · exact .inr (.old _ segs h rfl (by omega))
  · exact .inr (.two c0 _ _ h rfl (by rw [List.length_map]; exact hM))
/-- Open. -/
theorem o_any {W w : World} {d mb n : Nat} {x : DSt} {dir : ByteArray} {recs : List (List Int)} {B : Nat → Prop} (hd : DS w W.heap.size d mb n x B) (hL : Tells x.V dir recs) (hc : x.Calm) (hfrom : W.grownBy w none) (hlow : ∀ k, B k → W.heap.size ≤ k) (hltB : ∀ k, B k → k < w.heap.size) (ht : Tab W) (hdir : dirB dir = true) (hw : x.wn ≤ 999999800) (hn : n < 1048576) (hsz : recs.length ≤ 4194304) :
    Calls Tryz.prog 80 #[.pointer (some ⟨d, 0, none⟩), .string dir] w (Opened W w d mb B recs) := by
  cases hL with
  | whole K Ls h e hl =>
    subst e
    refine (s_open ⟨hd, h, hc, hfrom, hlow, hltB, ht⟩ hdir (by omega) hsz (by omega)).mono ?_
    rintro e w' ⟨p, v, m, lo, A, rfl, h1, h2, h3, h4, h5⟩
    exact ⟨p, v, m, lo, n, x, B, rfl, h1.at_.disk, hc.on, h2, Kept.of h3 (fun k hk => by cases hk), fun k _ hb => hb, h5⟩
  | torn K Ls LL kl rl tl sl h htl hb e hl =>
    subst e
    by_cases hrl : rl = []
    · refine (s_openD2 hd h hc hfrom hlow hltB ht hdir (by omega) hn htl hrl hsz (by omega)).mono ?_
      rintro e w' ⟨p, v, m, lo, n', x', B', rfl, h1, h2, h3, h4, h5, h6, h7⟩
      have e2 : recsOf LL = recsOf Ls := by
        rw [h.all, hrl]
        unfold recsOf
        rw [List.flatMap_append]
        simp
      rw [← e2] at h2
      exact ⟨p, v, m, lo, n', x', B', rfl, h1.disk, h1.calm.on, h2, h5, h6, h7⟩
    · refine (s_openT2 hd h hc hfrom hlow hltB ht hdir (by omega) hn htl hrl (by omega) hsz (by omega)).mono ?_
      rintro e w' ⟨p, v, m, lo, n', x', B', rfl, h1, h2, h3, h4, h5, h6, h7⟩
      exact ⟨p, v, m, lo, n', x', B', rfl, h1.disk, h1.calm.on, h2, h5, h6, h7⟩
  | draft K Ls h e hl =>
    subst e
    refine (s_openAK hd h hc hfrom hlow hltB ht hdir (by omega) hn hsz (by omega)).mono ?_
    rintro e w' ⟨p, v, m, lo, n', x', A, B', rfl, h1, h2, h3, h4, h5, h6, h7, h8⟩
    exact ⟨p, v, m, lo, n', x', B', rfl, h1.at_.disk, h1.calm.on, h2, h5, h6, h7⟩
  | old q segs h e hl =>
    subst e
    exact o_old hd h hc hfrom hlow hltB ht hdir (by omega) hn hsz (by omega)
  | two c0 q segs h e hl =>
    subst e
    exact o_two hd h hc hfrom hlow hltB ht hdir (by omega) hn hsz (by omega)
/-- What replay leaves. -/
def RepOut (W w : World) (d mb : Nat) (B : Nat → Prop) (sb : Nat) (rs : List (ByteArray × Reg)) (w' : World) : Prop := ∃ p mr n' x' B', TriAt w' sb (.pointer (some ⟨p, 0, none⟩)) (.pointer (some ⟨d, 0, none⟩)) (.map (some mr)) ∧ RegIs w' mr rs.length (regs rs) ∧ DS w' W.heap.size d mb n' x' B' ∧ x'.off = false ∧ Kept w w' (fun k => k = sb ∨ B k)
set_option maxHeartbeats 8000000 in
theorem k_replayG {W w : World} {d mb : Nat} {B : Nat → Prop} (sb : Nat) (x0 z0 : Value) (rs : List (ByteArray × Reg)) (h : Calls Tryz.prog 80 #[.pointer (some ⟨d, 0, none⟩), .string dirK] w (Opened W w d mb B (recsL rs))) (hs : TriAt w sb x0 (.pointer (some ⟨d, 0, none⟩)) z0) (hsB : ¬ B sb) (hok : AllOk rs) (hlen : rs.length ≤ 4194304) :
    Calls Tryz.prog 49 #[.pointer (some ⟨sb, 0, none⟩)] w fun e w' => e = .returned (.int .i64 0) ∧ RepOut W w d mb B sb rs w' := by
  have HO : Hid (Calls Tryz.prog 80 #[.pointer (some ⟨d, 0, none⟩), .string ⟨#[107, 118]⟩] w (Opened W w d mb B (recsL rs))) := h
  have c1 := hs.c1
  have HS : Hid (TriAt w sb x0 (.pointer (some ⟨d, 0, none⟩)) z0) := hs
  have HOK : Hid (AllOk rs) := hok
  have HSB : Hid (¬ B sb) := hsB
  obtain ⟨N, eN⟩ : ∃ N, N = rs.length := ⟨_, rfl⟩
  have EN : Hid (N = rs.length) := eN
  rw [← eN] at hlen
  clear h hs hok hsB eN
  have hmm := @run_makeMap Tryz.prog
  go_enter Tryz.func49, Tryz.ntmps49
  go_wp2_with fail
  refine HO.out.mono ?_
  rintro e w1 ⟨p, v, m, lo, n', x', B', rfl, hse, hon', hrl, hg1, hA, hlo⟩
  have HSE : Hid (DS w1 W.heap.size d mb n' x' B' ∧ x'.off = false) := ⟨hse, hon'⟩
  have HRL : Hid (RecsLo lo w1 (slV v) m (recsL rs)) := hrl
  have HG1 : Hid (Kept w w1 B) := hg1
  have HA : Hid (∀ k, k < w.heap.size → B' k → B k) := hA
  obtain ⟨va, vn, vc⟩ := v
  have hvn : vn = N := by
    obtain ⟨ts, h1, h2, h3, h4⟩ := hrl
    obtain ⟨_, _, e⟩ := sownSl h1
    unfold slV at e
    injection e with _ e2 _
    have e3 : vn = m := e2
    rw [e3, h3, recsL_len, EN.out]
  subst hvn
  unfold slV
  have HM0 : Hid (RegIs (w1.alloc (.map #[] 0)) w1.heap.size 0 (regs (rs.take 0))) := RegIs.made w1
  clear hse hon' hrl hg1 hA hlo HO
  go_wp2_with fail
  go_loopw [27] (fun t27 wr => ∃ i : Nat, i ≤ vn ∧ t27 = .int .i64 i ∧ w1.grownBy wr none ∧ RegIs wr w1.heap.size i (regs (rs.take i))) (fun t27 _ => vn - (intOf t27).toNat)
  case atStart => exact ⟨0, Nat.zero_le _, rfl, World.grownBy_alloc w1 _ none, HM0.out⟩
  case round =>
    obtain ⟨i, hi, rfl, hg, hm⟩ := hrel
    have HG : Hid (w1.grownBy wr none) := hg
    have HM : Hid (RegIs wr w1.heap.size i (regs (rs.take i))) := hm
    by_cases hlt : i < vn
    · have hii : (i : Int) < (vn : Int) := by omega
      obtain ⟨q, hq⟩ : ∃ q, rs[i]? = some q := ⟨_, List.getElem?_eq_getElem (by rw [← EN.out]; exact hlt)⟩
      obtain ⟨k, rv, rd⟩ := q
      obtain ⟨b, off, t, e1, hcell, ht1, ht2, ht3⟩ := (HRL.out.grown hg).at (recsL_get hq)
      dsimp only at e1
      subst e1
      obtain ⟨ta, tn, tc⟩ := t
      dsimp only at hcell ht1 ht2 ht3
      have hkok := (HOK.out _ (List.mem_of_getElem? hq)).1
      have HRD : Hid (Calls Tryz.prog 81 #[.slice ta tn tc] wr fun e w' => e = .returned (.tuple #[.string k, .agg #[.int .u64 (rv : Int), .string rd], .bool true]) ∧ wr.grownBy w' none) := k_read k rv rd ta tn tc wr ht2 ht1.symm (by omega) hkok
      have HQ : Hid (rs[i]? = some (k, rv, rd)) := hq
      have HK64 : Hid (k.size ≤ 64) := hkok.key.2
      clear ht1 ht2 ht3 hq hkok hg hm
      go_wp2_with fail
      refine HRD.out.mono ?_
      rintro e w2 ⟨rfl, hg2⟩
      obtain ⟨W3, eW3⟩ : ∃ W3, W3 = w2.alloc (.cells #[.int .u64 (rv : Int), .string rd] 90) := ⟨_, rfl⟩
      have hg23 : w2.grownBy W3 none := by rw [eW3]; exact World.grownBy_alloc w2 _ none
      have HB3 : RgAt W3 w2.heap.size (.int .u64 (rv : Int)) (.string rd) := by rw [eW3]; exact RgAt.new w2 _ _
      have hload : (loadVar 90 ⟨w2.heap.size, 0, none⟩).run Tryz.prog W3 = .ok (.agg #[.int .u64 (rv : Int), .string rd]) W3 := HB3.var
      have HG3 : Hid (w1.grownBy W3 none) := (HG.out.trans hg2).trans hg23
      have hm3 := (HM.out.kept hg2 (by simp)).kept hg23 (by simp)
      obtain ⟨w4, hrun, hm4, hg4⟩ := hm3.put k HK64.out (by omega) (rv, rd)
      have hput : (Instr.mapUpdate 66 (.map (some w1.heap.size)) (.string k) (.agg #[.int .u64 (rv : Int), .string rd])).run Tryz.prog W3 = .ok () w4 := hrun
      have HG4 : Hid (w1.grownBy w4 none) := gb_trans HG3.out hg4 (fun k hk => .inl (by cases hk; exact Nat.le_refl _))
      have HM4 : Hid (RegIs w4 w1.heap.size (i + 1) (regs (rs.take (i + 1)))) := by
        show RegIs _ _ _ _
        rw [regs_take HQ.out]
        exact hm4
      rw [eW3] at hput
      clear hg2 hm3 hm4 hg4 hrun hg23 HRD HG HM HB3 hload HG3
      clear eW3
      go_wp2
      go_roundw
      case rel => exact ⟨i + 1, by omega, by go_num, HG4.out, HM4.out⟩
      case measure => simp [intOf]; omega
    · have hii : ¬ (i : Int) < (vn : Int) := by omega
      have hiN : i = rs.length := by rw [← EN.out]; omega
      have hmf : RegIs wr w1.heap.size rs.length (regs rs) := by
        have h5 := hm
        rw [hiN, List.take_length] at h5
        exact h5
      have hsr : TriAt wr sb x0 (.pointer (some ⟨d, 0, none⟩)) z0 := (HS.out.stay (HG1.out.block sb HS.out.lt HSB.out)).grown hg
      have s0 := hsr.c0
      have f0 := hsr.f 0
      have hsr1 := hsr.set0 (.pointer (some ⟨p, 0, none⟩))
      have s2 := hsr1.c2
      have f2 := hsr1.f 2
      have hsr2 := hsr1.set2 (.map (some w1.heap.size))
      have HFIN : Hid (TriAt ((wr.setCell ⟨sb, 0, none⟩ (.pointer (some ⟨p, 0, none⟩))).setCell ⟨sb, 2, none⟩ (.map (some w1.heap.size))) sb (.pointer (some ⟨p, 0, none⟩)) (.pointer (some ⟨d, 0, none⟩)) (.map (some w1.heap.size)) ∧ RegIs ((wr.setCell ⟨sb, 0, none⟩ (.pointer (some ⟨p, 0, none⟩))).setCell ⟨sb, 2, none⟩ (.map (some w1.heap.size))) w1.heap.size rs.length (regs rs) ∧ DS ((wr.setCell ⟨sb, 0, none⟩ (.pointer (some ⟨p, 0, none⟩))).setCell ⟨sb, 2, none⟩ (.map (some w1.heap.size))) W.heap.size d mb n' x' B' ∧ x'.off = false ∧ Kept w ((wr.setCell ⟨sb, 0, none⟩ (.pointer (some ⟨p, 0, none⟩))).setCell ⟨sb, 2, none⟩ (.map (some w1.heap.size))) (fun k => k = sb ∨ B k)) := by
        have hlt := HS.out.lt
        have hw1 := HG1.out.size
        have hsbB : ¬ B' sb := fun hb => HSB.out (HA.out sb hlt hb)
        have hg2 : wr.grownBy ((wr.setCell ⟨sb, 0, none⟩ (.pointer (some ⟨p, 0, none⟩))).setCell ⟨sb, 2, none⟩ (.map (some w1.heap.size))) (some sb) := gb_trans (gb_set rfl) (gb_set rfl) (fun j hj => .inr hj)
        have hk2 := Kept.of hg2 (X := fun k => k = sb) (fun k hk => by cases hk; rfl)
        refine ⟨hsr2, hmf.kept hg2 (fun e => by have := Option.some.inj e; omega), (show DS wr W.heap.size d mb n' x' B' from DV.kept HSE.out.1 hg).others hk2 (fun k hb e => by subst e; exact hsbB hb), HSE.out.2, ?_⟩
        exact ((HG1.out.mono (fun k _ hb => .inr hb)).trans (Kept.of hg (X := fun k => k = sb ∨ B k) (fun k hk => by cases hk)) (fun k _ hX => hX)).trans hk2 (fun k _ e => .inl e)
      clear hmf hsr hsr1 hsr2 hg hm hiN
      go_wp2
      go_ret
      exact ⟨rfl, p, _, n', x', B', HFIN.out⟩
/-- What Open leaves: a store, its registers known, over a disk that is on. -/
structure KvR (W w : World) (d mb sb mr m : Nat) (F : ByteArray → Option Reg) : Prop where
  row : ∃ p, TriAt w sb (.pointer (some ⟨p, 0, none⟩)) (.pointer (some ⟨d, 0, none⟩)) (.map (some mr))
  map : RegIs w mr m F
  disk : ∃ n x B, DS w W.heap.size d mb n x B ∧ x.off = false
theorem k_openG {W w : World} {d mb n : Nat} {x : DSt} {B : Nat → Prop} (rs : List (ByteArray × Reg)) (hd : DS w W.heap.size d mb n x B) (hL : Tells x.V dirK (recsL rs)) (hc : x.Calm) (hfrom : W.grownBy w none) (hlow : ∀ k, B k → W.heap.size ≤ k) (hltB : ∀ k, B k → k < w.heap.size) (ht : Tab W) (hw : x.wn ≤ 999999800) (hn : n < 1048576) (hok : AllOk rs) (hlen : rs.length ≤ 4194304) :
    Calls Tryz.prog 8 #[.pointer (some ⟨d, 0, none⟩)] w fun e w' => ∃ sb mr, e = .returned (.tuple #[.pointer (some ⟨sb, 0, none⟩), .int .i64 0]) ∧ KvR W w' d mb sb mr rs.length (regs rs) ∧ Kept w w' B := by
  obtain ⟨W1, eW1⟩ : ∃ W1, W1 = w.alloc (.cells #[.pointer none, .pointer (some ⟨d, 0, none⟩), .map none] 68) := ⟨_, rfl⟩
  have hg1 : w.grownBy W1 none := by rw [eW1]; exact World.grownBy_alloc w _ none
  have hz1 : W1.heap.size = w.heap.size + 1 := by rw [eW1]; exact Array.size_push _
  have hT : TriAt W1 w.heap.size (.pointer none) (.pointer (some ⟨d, 0, none⟩)) (.map none) := by rw [eW1]; exact TriAt.new w _ _ _
  have hD : DS W1 W.heap.size d mb n x B := DV.kept hd hg1
  have HRP : Hid (Calls Tryz.prog 49 #[.pointer (some ⟨w.heap.size, 0, none⟩)] W1 fun e w' => e = .returned (.int .i64 0) ∧ RepOut W W1 d mb B w.heap.size rs w') :=
    k_replayG w.heap.size _ _ rs (o_any hD hL hc (hfrom.trans hg1) hlow (fun k hb => by have := hltB k hb; omega) ht dirK_ok hw hn (by rw [recsL_len]; exact hlen)) hT (fun hb => by have := hltB _ hb; omega) hok hlen
  have HU0 := x_upK hD
  rw [hc.on] at HU0
  have HU : Hid (Calls Tryz.prog 10 #[.pointer (some ⟨d, 0, none⟩)] W1 fun e w' => e = .returned (.bool true) ∧ W1 = w') := HU0
  have HR : Hid (Calls Tryz.prog 25 #[.pointer (some ⟨w.heap.size, 0, none⟩)] W1 fun e w' => e = .returned (.int .i64 0) ∧ RepOut W W1 d mb B w.heap.size rs w') := by
    have c1 := hT.c1
    have c2 := hT.c2
    have hne := neq_map66n
    clear hT hD hd hL hc hfrom hlow hltB ht hw hn HU0 hok hlen eW1
    go_enter Tryz.func25, Tryz.ntmps25
    go_wp2_with fail
    refine HU.out.mono ?_
    rintro e w1 ⟨rfl, rfl⟩
    go_wp2_with fail
    refine HRP.out.mono ?_
    rintro e w1 ⟨rfl, hx⟩
    have HX : Hid (RepOut W W1 d mb B w.heap.size rs w1) := hx
    clear hx
    go_wp2
    go_ret
    exact ⟨rfl, HX.out⟩
  have HG1 : Hid (w.grownBy W1 none) := hg1
  clear hT hD hd hL hc hfrom hlow hltB ht hw hn HU0 hok hlen HRP HU hg1 hz1
  go_enter Tryz.func8, Tryz.ntmps8
  go_upto_region 2 with fail
  rw [← eW1]
  clear eW1
  go_wp2_with fail
  refine HR.out.mono ?_
  rintro e w1 ⟨rfl, p, mr, n', x', B', hx1, hx2, hx3, hx4, hx5⟩
  have HX : Hid (KvR W w1 d mb w.heap.size mr rs.length (regs rs) ∧ Kept w w1 B) := ⟨⟨⟨p, hx1⟩, hx2, ⟨n', x', B', hx3, hx4⟩⟩, ((Kept.of HG1.out (X := fun k => k = w.heap.size ∨ B k) (fun k hk => by cases hk)).trans hx5 (fun k _ hX => hX)).mono (fun k hk hX => hX.elim (fun e => by omega) id)⟩
  clear hx1 hx2 hx3 hx4 hx5
  go_wp2
  go_ret2
  exact ⟨_, mr, rfl, HX.out.1, HX.out.2⟩
theorem KvR.grown {W w w' : World} {d mb sb mr m : Nat} {F : ByteArray → Option Reg} (h : KvR W w d mb sb mr m F) (hg : w.grownBy w' none) : KvR W w' d mb sb mr m F := by
  obtain ⟨⟨p, h1⟩, h2, n, x, B, h3, h4⟩ := h
  exact ⟨⟨p, h1.grown hg⟩, h2.kept hg (by simp), n, x, B, DV.kept h3 hg, h4⟩
theorem KvR.get {W w : World} {d mb sb mr m : Nat} {F : ByteArray → Option Reg} (h : KvR W w d mb sb mr m F) (k : ByteArray) (hk : kB k = true) : Calls Tryz.prog 20 #[.pointer (some ⟨sb, 0, none⟩), .string k] w fun e w' => ∃ a C, e = .returned (.tuple #[.slice (some a) ((F k).getD reg0).2.size C, .int .u64 (((F k).getD reg0).1 : Int), .int .i64 0]) ∧ Rd w' (some a) (sInts ((F k).getD reg0).2) ∧ w.grownBy w' none := by
  obtain ⟨⟨p, h1⟩, h2, n, x, B, h3, h4⟩ := h
  refine (k_get sb mr _ k h3 h4 h1 h2 hk).mono ?_
  rintro e w' ⟨a, C, rfl, k1, k2, k3, k4⟩
  exact ⟨a, C, rfl, k1, k4⟩
end Go.Proofs.YtgpgkpciajajcaaGreatDoor

