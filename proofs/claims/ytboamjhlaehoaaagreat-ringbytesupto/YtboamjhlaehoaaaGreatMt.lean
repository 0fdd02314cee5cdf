/- Several texts in one: Sq. -/
import Derived.Test.YtboamjhlaehoaaaGreatMs
/- Rings: what every program answers: awake, walked. -/
namespace Go.Proofs.YtboamjhlaehoaaaGreat
open Go.RowKit
set_option linter.unusedVariables false
set_option maxRecDepth 20000

set_option maxHeartbeats 8000000 in
theorem r_awake (w : World) : Calls Tryz.prog 24 #[] w fun e w' => e = .returned (.bool true) ∧ w.grownBy w' none := by
  have l1 := life [] 0 1 rfl rfl rfl rfl
  have l2 := life [] 0 2 rfl rfl rfl rfl
  have l3 := life [] 0 3 rfl rfl rfl rfl
  have hE1 : (0 : Int) ≤ 1 ∧ (1 : Int) ≤ 18446744073709551615 := by decide
  have hE2 : (0 : Int) ≤ 2 ∧ (2 : Int) ≤ 18446744073709551615 := by decide
  have hE3 : (0 : Int) ≤ 3 ∧ (3 : Int) ≤ 18446744073709551615 := by decide
  have htn : tokL 0 ≠ [] := by have := (tokL_len 0).1; intro e; rw [e] at this; simp at this
  have hw2 : wfT (withM [] 0 2) := by
    intro s hs t ht
    have hs : s ∈ [((0 : Int), (2 : Int), tokL 0)] := hs
    simp at hs; subst hs
    have := tokL_range 0 t ht; omega
  have hrep : repM (withM [] 0 2) 7 = [0] := repM_one 0 (tokL 0) 7 htn
  have k1 := life_chg l1 1 (by decide) rfl
  have k2 := life_chg l2 2 (by decide) rfl
  have k3 := life_chg l3 3 (by decide) rfl
  have J : Hid (∀ u, Calls Tryz.prog 10 #[.agg #[.int .u64 0, .slice none 0 0], .int .i64 0] u fun e w' => YesOut 1 (withM [] 0 1) 1 u e w') := fun u =>
    (ch0 (MsRd.nil u none) rfl (fun _ => rfl) (by decide) rfl).mono fun e w' h => rg_yes (by decide) (by decide) rfl l1.len h
  have A : Hid (∀ u a c raw, MsRd u a (withM [] 0 1) raw → (a = none → c = 0) → Calls Tryz.prog 11 #[.agg #[.int .u64 1, .slice a 1 c], .int .i64 0] u fun e w' => YesOut 2 (withM [] 0 2) 1 u e w') := fun u a c raw h hn =>
    (ch1 h l1.len hn hE1 l1.ok).mono fun e w' h => rg_yes (by rw [k1.2.1]; rfl) (by decide) k1.2.2.2.2.1 l2.len h
  have P1 : Hid (∀ u a c raw, MsRd u a (withM [] 0 2) raw → Calls Tryz.prog 26 #[.agg #[.int .u64 2, .slice a 1 c], .int .u32 7, .int .i64 1] u fun e w' => ∃ a' c', e = .returned (.tuple #[.slice a' 1 c', .int .i64 0]) ∧ SRd intE w' a' [0] ∧ u.grownBy w' none) := fun u a c raw h => by
    have hc : repC (withM [] 0 2) 7 1 = 0 := by unfold repC; rw [hrep, l2.ok]; decide
    have hl : repL (withM [] 0 2) 7 1 = [0] := by unfold repL; rw [hc, hrep]; rfl
    refine (rp_ok h l2.len l2.ok).mono ?_
    rintro e w' ⟨a', c', rfl, h1, h2⟩
    rw [hl] at h1 ⊢
    rw [hc]
    exact ⟨a', c', rfl, SOwn.rd h1, h2⟩
  have P2 : Hid (∀ u a c raw, MsRd u a (withM [] 0 2) raw → Calls Tryz.prog 26 #[.agg #[.int .u64 2, .slice a 1 c], .int .u32 7, .int .i64 2] u fun e w' => ∃ a' c', e = .returned (.tuple #[.slice a' 0 c', .int .i64 133]) ∧ u.grownBy w' none) := fun u a c raw h => by
    have hc : repC (withM [] 0 2) 7 2 = 133 := by unfold repC; rw [hrep, l2.ok]; decide
    have hl : repL (withM [] 0 2) 7 2 = [] := by unfold repL; rw [hc]; rfl
    refine (rp_ok h l2.len l2.ok).mono ?_
    rintro e w' ⟨a', c', rfl, h1, h2⟩
    rw [hl, hc]
    exact ⟨a', c', rfl, h2⟩
  have EN : Hid (∀ u a c raw, MsRd u a (withM [] 0 2) raw → Calls Tryz.prog 32 #[.agg #[.int .u64 2, .slice a 1 c]] u fun e w' => ∃ a' L c', e = .returned (.tuple #[.slice a' L c', .int .i64 0]) ∧ Rd w' a' (encAll (nrs 2 1 (withM [] 0 2))) ∧ (encAll (nrs 2 1 (withM [] 0 2))).length = L ∧ L ≤ c' ∧ (∀ x, a' = some x → Typed w' x.block 5 ∧ u.heap.size ≤ x.block) ∧ (L : Int) ≤ 140737488355000 ∧ u.grownBy w' none) := fun u a c raw h => enc_ok h l2.len hE2 l2.ok hw2
  have DE : Hid (∀ u a L c, Rd u a (encAll (nrs 2 1 (withM [] 0 2))) → (encAll (nrs 2 1 (withM [] 0 2))).length = L → L ≤ c → (L : Int) ≤ 140737488355000 → (∀ x, a = some x → Typed u x.block 5) → Calls Tryz.prog 33 #[.slice a L c] u fun e w' => YesOut 2 (withM [] 0 2) 1 u e w') := fun u a L c h1 h2 h3 h4 h5 => dec_ok h1 h2 h3 h4 h5 l2.len hE2 l2.ok hw2
  have LV : Hid (∀ u a c raw, MsRd u a (withM [] 0 2) raw → (a = none → c = 0) → Calls Tryz.prog 12 #[.agg #[.int .u64 2, .slice a 1 c], .int .i64 0] u fun e w' => YesOut 3 (withM [] 0 3) 1 u e w') := fun u a c raw h hn =>
    (ch2 h l2.len hn hE2 l2.ok).mono fun e w' h => rg_yes (by rw [k2.2.2.1]; rfl) (by decide) k2.2.2.2.2.2.1 l3.len h
  have GO : Hid (∀ u a c raw, MsRd u a (withM [] 0 3) raw → (a = none → c = 0) → Calls Tryz.prog 13 #[.agg #[.int .u64 3, .slice a 1 c], .int .i64 0] u fun e w' => YesOut 4 [] 0 u e w') := fun u a c raw h hn =>
    (ch3 h l3.len hn hE3 l3.ok).mono fun e w' h => rg_yes (by rw [k3.2.2.2.1]; rfl) (by decide) k3.2.2.2.2.2.2 rfl h
  have SI : Hid (∀ u a b c d, SRd intE u a [0] → SRd intE u b [0] → Calls Tryz.prog 27 #[.slice a 1 c, .slice b 1 d] u fun e w' => e = .returned (.bool true) ∧ u.grownBy w' none) := fun u a b c d h1 h2 => by
    refine (isameQ a b [0] [0] 1 1 c d u h1 h2 rfl rfl (by decide)).mono ?_
    rintro e w' ⟨rfl, n, rfl⟩
    exact ⟨by simp, gb_drewN _ _⟩
  have SR : Hid (∀ u a b c d ra rb, MsRd u a (withM [] 0 2) ra → MsRd u b (withM [] 0 2) rb → Calls Tryz.prog 14 #[.agg #[.int .u64 2, .slice a 1 c], .agg #[.int .u64 2, .slice b 1 d]] u fun e w' => e = .returned (.bool true) ∧ u.grownBy w' none) := fun u a b c d ra rb h1 h2 => by
    refine (rsame 2 2 a b ra rb _ _ 1 1 c d u h1 h2 l2.len l2.len (by decide) (fun s hs => by have := (ok_small l2.ok).2 s hs; omega)).mono ?_
    rintro e w' ⟨rfl, h⟩
    exact ⟨by simp, h⟩
  have ST : Hid (∀ u a c raw, MsRd u a (withM [] 0 2) raw → Calls Tryz.prog 17 #[.agg #[.int .u64 2, .slice a 1 c], .int .i64 0] u fun e w' => e = .returned (.int .i64 2) ∧ u.grownBy w' none) := fun u a c raw h => st_ok h l2.len l2.ok (by unfold stOf; rw [l2.ok, l2.has, l2.st]; rfl)
  have TK : Hid (∀ u, Calls Tryz.prog 20 #[.int .i64 0] u fun e w' => ∃ a n c, e = .returned (.slice a n c) ∧ 0 < n ∧ u.grownBy w' none) := fun u => by
    refine (g_tokens 0 u).mono ?_
    rintro e w' ⟨a, c, rfl, h1, h2⟩
    exact ⟨a, _, c, rfl, (tokL_len 0).1, h2⟩
  have CK : Hid (∀ u : World, Calls Tryz.prog 15 #[.agg #[.int .u64 0, .slice (some ⟨u.heap.size, 0, none⟩) 1 1]] (u.alloc (.cells #[.int .i64 0, .int .i64 0, .slice none 0 0] 61)) fun e w' => e = .returned (.int .i64 130) ∧ u.grownBy w' none) := fun u => by
    have hr : MsRd (u.alloc (.cells #[.int .i64 0, .int .i64 0, .slice none 0 0] 61)) (some ⟨u.heap.size, 0, none⟩) [(0, 0, [])] [(0, 0, (none, 0, 0))] := ⟨srd_lit memE 61 u [(0, 0, (none, 0, 0))], rfl, fun i r m h1 h2 => by
      cases i with
      | zero => simp at h1 h2; subst h1; subst h2; exact ⟨rfl, rfl, rfl, .inl rfl, fun _ => rfl⟩
      | succ i => simp at h1⟩
    refine (f_check 0 [(0, 0, [])] _ (some ⟨u.heap.size, 0, none⟩) 1 1 _ hr rfl (by decide) (by simp)).mono ?_
    rintro e w' ⟨rfl, h⟩
    exact ⟨by rfl, (World.grownBy_alloc _ _ none).trans h⟩
  have L1 : Hid ((withM [] 0 1).length = 1) := l1.len
  have L2 : Hid ((withM [] 0 2).length = 1) := l2.len
  have L3 : Hid ((withM [] 0 3).length = 1) := l3.len
  generalize encAll (nrs 2 1 (withM [] 0 2)) = Z at EN DE
  clear k1 k2 k3 l1 l2 l3 hE1 hE2 hE3 htn hw2 hrep
  generalize withM [] 0 1 = M1 at *
  generalize withM [] 0 2 = M2 at *
  generalize withM [] 0 3 = M3 at *
  have HG : Hid (w.grownBy w none) := World.grownBy.refl _ _
  go_enter Tryz.func24, Tryz.ntmps24
  have C0 := J.out w
  go_wp2_with fail
  refine C0.mono ?_
  clear C0
  rintro e u1 ⟨aa, ca, rawa, rfl, m9, nl9, g9⟩
  obtain ⟨Ba, eBa⟩ : ∃ B, u1.heap.size = B := ⟨_, rfl⟩
  have EBa : Hid (u1.heap.size = Ba) := eBa
  have hx := RgBox.made (E := 1) m9 nl9 L1.out
  rw [eBa] at hx
  have gA := g9.trans (World.grownBy_alloc u1 (.cells #[.int .u64 (1), .slice aa 1 ca] 25) none)
  replace HG : Hid (w.grownBy (u1.alloc (.cells #[.int .u64 (1), .slice aa 1 ca] 25)) none) := HG.out.trans gA
  have HBa : Hid (RgBox (u1.alloc (.cells #[.int .u64 (1), .slice aa 1 ca] 25)) Ba (1) aa 1 ca M1 rawa) := hx
  clear hx gA m9 nl9 g9 eBa
  obtain ⟨x0a, x1a⟩ := HBa.out.cells
  have C1 := A.out _ _ _ _ HBa.out.rd HBa.out.nil
  go_wp2_with fail
  try rw [EBa.out]
  generalize u1.alloc (.cells #[.int .u64 (1), .slice aa 1 ca] 25) = W1 at *
  clear x0a x1a
  refine C1.mono ?_
  clear C1
  rintro e u2 ⟨ab, cb, rawb, rfl, m9, nl9, g9⟩
  obtain ⟨Bb, eBb⟩ : ∃ B, u2.heap.size = B := ⟨_, rfl⟩
  have EBb : Hid (u2.heap.size = Bb) := eBb
  have hx := RgBox.made (E := 2) m9 nl9 L2.out
  rw [eBb] at hx
  have gA := g9.trans (World.grownBy_alloc u2 (.cells #[.int .u64 (2), .slice ab 1 cb] 25) none)
  replace HG : Hid (w.grownBy (u2.alloc (.cells #[.int .u64 (2), .slice ab 1 cb] 25)) none) := HG.out.trans gA
  replace HBa : Hid (RgBox (u2.alloc (.cells #[.int .u64 (2), .slice ab 1 cb] 25)) Ba (1) aa 1 ca M1 rawa) := HBa.out.grown gA
  have HBb : Hid (RgBox (u2.alloc (.cells #[.int .u64 (2), .slice ab 1 cb] 25)) Bb (2) ab 1 cb M2 rawb) := hx
  clear hx gA m9 nl9 g9 eBb
  obtain ⟨x0b, x1b⟩ := HBb.out.cells
  have C2 := P1.out _ ab cb _ HBb.out.rd
  go_wp2_with fail
  try rw [EBb.out]
  generalize u2.alloc (.cells #[.int .u64 (2), .slice ab 1 cb] 25) = W2 at *
  clear x0b x1b
  refine C2.mono ?_
  clear C2
  rintro e u3 ⟨ra, rc, rfl, s9, g9⟩
  replace HG : Hid (w.grownBy (u3) none) := HG.out.trans g9
  replace HBb : Hid (RgBox (u3) Bb (2) ab 1 cb M2 rawb) := HBb.out.grown g9
  have HFr : Hid (SRd intE u3 ra [0]) := s9
  clear g9 s9
  obtain ⟨x0b, x1b⟩ := HBb.out.cells
  have C3 := P2.out _ ab cb _ HBb.out.rd
  go_wp2_with fail
  clear x0b x1b
  refine C3.mono ?_
  clear C3
  rintro e u4 ⟨qa, qc, rfl, g9⟩
  replace HG : Hid (w.grownBy (u4) none) := HG.out.trans g9
  replace HBb : Hid (RgBox (u4) Bb (2) ab 1 cb M2 rawb) := HBb.out.grown g9
  replace HFr : Hid (SRd intE (u4) ra [0]) := HFr.out.grown g9 (by simp)
  clear g9 
  obtain ⟨x0b, x1b⟩ := HBb.out.cells
  have C4 := EN.out _ ab cb _ HBb.out.rd
  go_wp2_with fail
  clear x0b x1b
  refine C4.mono ?_
  clear C4
  rintro e u5 ⟨xa, xL, xc, rfl, r9, l9, k9, t9, z9, g9⟩
  replace HG : Hid (w.grownBy (u5) none) := HG.out.trans g9
  replace HBb : Hid (RgBox (u5) Bb (2) ab 1 cb M2 rawb) := HBb.out.grown g9
  replace HFr : Hid (SRd intE (u5) ra [0]) := HFr.out.grown g9 (by simp)
  have DD := DE.out _ xa xL xc r9 l9 k9 z9 (fun x hx => (t9 x hx).1)
  clear g9 r9 l9 k9 t9 z9
  have C5 := DD
  go_wp2_with fail
  refine C5.mono ?_
  clear C5
  rintro e u6 ⟨ac, cc, rawc, rfl, m9, nl9, g9⟩
  obtain ⟨Bc, eBc⟩ : ∃ B, u6.heap.size = B := ⟨_, rfl⟩
  have EBc : Hid (u6.heap.size = Bc) := eBc
  have hx := RgBox.made (E := 2) m9 nl9 L2.out
  rw [eBc] at hx
  have gA := g9.trans (World.grownBy_alloc u6 (.cells #[.int .u64 (2), .slice ac 1 cc] 25) none)
  replace HG : Hid (w.grownBy (u6.alloc (.cells #[.int .u64 (2), .slice ac 1 cc] 25)) none) := HG.out.trans gA
  replace HBb : Hid (RgBox (u6.alloc (.cells #[.int .u64 (2), .slice ac 1 cc] 25)) Bb (2) ab 1 cb M2 rawb) := HBb.out.grown gA
  replace HFr : Hid (SRd intE (u6.alloc (.cells #[.int .u64 (2), .slice ac 1 cc] 25)) ra [0]) := HFr.out.grown gA (by simp)
  have HBc : Hid (RgBox (u6.alloc (.cells #[.int .u64 (2), .slice ac 1 cc] 25)) Bc (2) ac 1 cc M2 rawc) := hx
  clear hx gA m9 nl9 g9 eBc
  obtain ⟨x0b, x1b⟩ := HBb.out.cells
  have C6 := LV.out _ _ _ _ HBb.out.rd HBb.out.nil
  go_wp2_with fail
  try rw [EBc.out]
  generalize u6.alloc (.cells #[.int .u64 (2), .slice ac 1 cc] 25) = W6 at *
  clear x0b x1b
  refine C6.mono ?_
  clear C6
  rintro e u7 ⟨ad, cd, rawd, rfl, m9, nl9, g9⟩
  obtain ⟨Bd, eBd⟩ : ∃ B, u7.heap.size = B := ⟨_, rfl⟩
  have EBd : Hid (u7.heap.size = Bd) := eBd
  have hx := RgBox.made (E := 3) m9 nl9 L3.out
  rw [eBd] at hx
  have gA := g9.trans (World.grownBy_alloc u7 (.cells #[.int .u64 (3), .slice ad 1 cd] 25) none)
  replace HG : Hid (w.grownBy (u7.alloc (.cells #[.int .u64 (3), .slice ad 1 cd] 25)) none) := HG.out.trans gA
  replace HBb : Hid (RgBox (u7.alloc (.cells #[.int .u64 (3), .slice ad 1 cd] 25)) Bb (2) ab 1 cb M2 rawb) := HBb.out.grown gA
  replace HBc : Hid (RgBox (u7.alloc (.cells #[.int .u64 (3), .slice ad 1 cd] 25)) Bc (2) ac 1 cc M2 rawc) := HBc.out.grown gA
  replace HFr : Hid (SRd intE (u7.alloc (.cells #[.int .u64 (3), .slice ad 1 cd] 25)) ra [0]) := HFr.out.grown gA (by simp)
  have HBd : Hid (RgBox (u7.alloc (.cells #[.int .u64 (3), .slice ad 1 cd] 25)) Bd (3) ad 1 cd M3 rawd) := hx
  clear hx gA m9 nl9 g9 eBd
  obtain ⟨x0d, x1d⟩ := HBd.out.cells
  have C7 := GO.out _ _ _ _ HBd.out.rd HBd.out.nil
  go_wp2_with fail
  try rw [EBd.out]
  generalize u7.alloc (.cells #[.int .u64 (3), .slice ad 1 cd] 25) = W7 at *
  clear x0d x1d
  refine C7.mono ?_
  clear C7
  rintro e u8 ⟨am, cm, rawm, rfl, m9, nl9, g9⟩
  obtain ⟨Bm, eBm⟩ : ∃ B, u8.heap.size = B := ⟨_, rfl⟩
  have EBm : Hid (u8.heap.size = Bm) := eBm
  have hx := RgBox.made (E := 4) m9 nl9 rfl
  rw [eBm] at hx
  have gA := g9.trans (World.grownBy_alloc u8 (.cells #[.int .u64 (4), .slice am 0 cm] 25) none)
  replace HG : Hid (w.grownBy (u8.alloc (.cells #[.int .u64 (4), .slice am 0 cm] 25)) none) := HG.out.trans gA
  replace HBb : Hid (RgBox (u8.alloc (.cells #[.int .u64 (4), .slice am 0 cm] 25)) Bb (2) ab 1 cb M2 rawb) := HBb.out.grown gA
  replace HBc : Hid (RgBox (u8.alloc (.cells #[.int .u64 (4), .slice am 0 cm] 25)) Bc (2) ac 1 cc M2 rawc) := HBc.out.grown gA
  replace HFr : Hid (SRd intE (u8.alloc (.cells #[.int .u64 (4), .slice am 0 cm] 25)) ra [0]) := HFr.out.grown gA (by simp)
  have HBm : Hid (RgBox (u8.alloc (.cells #[.int .u64 (4), .slice am 0 cm] 25)) Bm (4) am 0 cm [] rawm) := hx
  clear hx gA m9 nl9 g9 eBm
  have gL := World.grownBy_alloc (u8.alloc (.cells #[.int .u64 (4), .slice am 0 cm] 25)) (.cells #[.int .i64 0] 3) none
  have SS := SI.out _ ra (some ⟨(u8.alloc (.cells #[.int .u64 (4), .slice am 0 cm] 25)).heap.size, 0, none⟩) rc 1 (HFr.out.grown gL (by simp)) (srd_lit intE 3 _ [0])
  have hsz9 : (u8.alloc (.cells #[.int .u64 (4), .slice am 0 cm] 25)).heap.size = Bm + 1 := by rw [size_alloc, EBm.out]
  rw [hsz9] at SS
  clear hsz9
  go_wp2_with fail
  try rw [EBm.out]
  generalize u8.alloc (.cells #[.int .u64 (4), .slice am 0 cm] 25) = W8 at *
  refine SS.mono ?_
  rintro e u30 ⟨rfl, h9⟩
  have g9 := gL.trans h9
  replace HG : Hid (w.grownBy (u30) none) := HG.out.trans g9
  replace HBb : Hid (RgBox (u30) Bb (2) ab 1 cb M2 rawb) := HBb.out.grown g9
  replace HBc : Hid (RgBox (u30) Bc (2) ac 1 cc M2 rawc) := HBc.out.grown g9
  replace HBm : Hid (RgBox (u30) Bm (4) am 0 cm [] rawm) := HBm.out.grown g9
  replace HFr : Hid (SRd intE (u30) ra [0]) := HFr.out.grown g9 (by simp)
  clear g9 h9 gL SS HFr
  obtain ⟨x0c, x1c⟩ := HBc.out.cells
  obtain ⟨x0b, x1b⟩ := HBb.out.cells
  have C31 := SR.out _ ac ab cc cb _ _ HBc.out.rd HBb.out.rd
  go_wp2_with fail
  clear x0c x1c
  clear x0b x1b
  refine C31.mono ?_
  clear C31
  rintro e u32 ⟨rfl, g9⟩
  replace HG : Hid (w.grownBy (u32) none) := HG.out.trans g9
  replace HBb : Hid (RgBox (u32) Bb (2) ab 1 cb M2 rawb) := HBb.out.grown g9
  replace HBc : Hid (RgBox (u32) Bc (2) ac 1 cc M2 rawc) := HBc.out.grown g9
  replace HBm : Hid (RgBox (u32) Bm (4) am 0 cm [] rawm) := HBm.out.grown g9
  clear g9 
  obtain ⟨x0c, x1c⟩ := HBc.out.cells
  obtain ⟨x0b, x1b⟩ := HBb.out.cells
  obtain ⟨x0m, x1m⟩ := HBm.out.cells
  have C32 := ST.out _ ab cb _ HBb.out.rd
  go_wp2_with fail
  clear x0c x1c
  clear x0b x1b
  clear x0m x1m
  refine C32.mono ?_
  clear C32
  rintro e u33 ⟨rfl, g9⟩
  replace HG : Hid (w.grownBy (u33) none) := HG.out.trans g9
  replace HBb : Hid (RgBox (u33) Bb (2) ab 1 cb M2 rawb) := HBb.out.grown g9
  replace HBc : Hid (RgBox (u33) Bc (2) ac 1 cc M2 rawc) := HBc.out.grown g9
  replace HBm : Hid (RgBox (u33) Bm (4) am 0 cm [] rawm) := HBm.out.grown g9
  clear g9 
  have C33 := TK.out u33
  go_wp2_with fail
  refine C33.mono ?_
  clear C33
  rintro e u34 ⟨ta, tn, tc, rfl, n9, g9⟩
  replace HG : Hid (w.grownBy (u34) none) := HG.out.trans g9
  replace HBb : Hid (RgBox (u34) Bb (2) ab 1 cb M2 rawb) := HBb.out.grown g9
  replace HBc : Hid (RgBox (u34) Bc (2) ac 1 cc M2 rawc) := HBc.out.grown g9
  replace HBm : Hid (RgBox (u34) Bm (4) am 0 cm [] rawm) := HBm.out.grown g9
  clear g9 
  have n8 : (0 : Int) < (tn : Int) := by omega
  have C34 := CK.out u34
  go_wp2_with fail
  refine C34.mono ?_
  clear C34
  rintro e u35 ⟨rfl, g9⟩
  replace HG : Hid (w.grownBy (u35) none) := HG.out.trans g9
  replace HBb : Hid (RgBox (u35) Bb (2) ab 1 cb M2 rawb) := HBb.out.grown g9
  replace HBc : Hid (RgBox (u35) Bc (2) ac 1 cc M2 rawc) := HBc.out.grown g9
  replace HBm : Hid (RgBox (u35) Bm (4) am 0 cm [] rawm) := HBm.out.grown g9
  clear g9 
  go_wp2
  go_ret
  exact ⟨rfl, HG.out⟩
end Go.Proofs.YtboamjhlaehoaaaGreat

