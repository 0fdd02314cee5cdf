/- Several texts in one: Kf, Kg, Kh, Ki. -/
import Derived.Test.YtgpgkpciajajcaaGreatDoorGbd
import Derived.Test.YtgpgkpciajajcaaGreatDoorGaq
/- Package kv: a store over its log: replay, reach, Open. -/
namespace Go.Proofs.YtgpgkpciajajcaaGreatDoor
open Go.RowKit Go.Maps Go.Sort
set_option linter.unusedVariables false
set_option maxRecDepth 20000

def dirK : ByteArray := ⟨#[107, 118]⟩
theorem dirK_ok : dirB dirK = true := by decide
theorem Se.others {W w w' : World} {d mb n : Nat} {x : DSt} {p : Nat} {dir : ByteArray} {K : Kp} {Ls : Sg} {A B X : Nat → Prop} (h : Se W w d mb n x p dir K Ls A B) (hk : Kept w w' X) (hX : ∀ k, A k ∨ B k → ¬ X k) (hW : ∀ k, X k → W.heap.size ≤ k) : Se W w' d mb n x p dir K Ls A B :=
  ⟨⟨h.at_.disk.others hk (fun k hb => hX k (.inr hb)), h.at_.wal.kept hk (fun k ha => hX k (.inl ha)), h.at_.apart, fun k hb => Nat.lt_of_lt_of_le (h.at_.ltB k hb) hk.size, fun k ha => Nat.lt_of_lt_of_le (h.at_.ltA k ha) hk.size⟩, h.log, h.calm,
    ⟨hk.os.trans h.from_.os, hk.tape.trans h.from_.tape, hk.output.trans h.from_.output, Nat.le_trans h.from_.size hk.size, fun k hk1 _ => (hk.block k (Nat.lt_of_lt_of_le hk1 h.from_.size) (fun hx => by have := hW k hx; omega)).trans (h.from_.block k hk1 (by simp))⟩, h.low, h.tab⟩
/-- A store over its log. -/
structure KvAt (W w : World) (d mb n : Nat) (x : DSt) (sb p mr m : Nat) (K : Kp) (Ls : Sg) (A B : Nat → Prop) (F : ByteArray → Option Reg) (rs : List (ByteArray × Reg)) : Prop where
  se : Se W w d mb n x p dirK K Ls A B
  row : TriAt w sb (.pointer (some ⟨p, 0, none⟩)) (.pointer (some ⟨d, 0, none⟩)) (.map (some mr))
  map : RegIs w mr m F
  says : regs rs = F
  recs : cpRecs K ++ recsOf Ls = recsL rs
  ok : AllOk rs
  sb_ : ¬ (A sb ∨ B sb) ∧ W.heap.size ≤ sb
  mr_ : ¬ (A mr ∨ B mr) ∧ W.heap.size ≤ mr
theorem TriAt.ne_map {w : World} {sb mr m : Nat} {x y z : Value} {F : ByteArray → Option Reg} (h : TriAt w sb x y z) (hm : RegIs w mr m F) : sb ≠ mr := by
  rintro rfl
  obtain ⟨D, ⟨es, clock, h1, h2⟩, _⟩ := hm
  unfold TriAt at h
  rw [h1] at h
  cases h
theorem KvAt.grown {W w w' : World} {d mb n : Nat} {x : DSt} {sb p mr m : Nat} {K : Kp} {Ls : Sg} {A B : Nat → Prop} {F : ByteArray → Option Reg} {rs : List (ByteArray × Reg)} (h : KvAt W w d mb n x sb p mr m K Ls A B F rs) (hg : w.grownBy w' none) : KvAt W w' d mb n x sb p mr m K Ls A B F rs :=
  ⟨h.se.grown hg, h.row.grown hg, h.map.kept hg (by simp), h.says, h.recs, h.ok, h.sb_, h.mr_⟩
theorem RecsLo.grown {lo n : Nat} {w w' : World} {v : Sl} {recs : List (List Int)} (h : RecsLo lo w (slV v) n recs) (hg : w.grownBy w' none) : RecsLo lo w' (slV v) n recs := by
  obtain ⟨ts, h1, h2, h3, h4⟩ := h
  refine ⟨ts, SOwn.kept h1 hg (by cases h : (slV v).ownBlock <;> simp), ?_, h3, h4⟩
  clear h1 h3 h4
  induction ts generalizing recs with
  | nil => cases recs with
    | nil => exact trivial
    | cons r rs => exact h2.elim
  | cons t ts ih => cases recs with
    | nil => exact h2.elim
    | cons r rs => exact ⟨⟨h2.1.1, h2.1.2.1, h2.1.2.2.1, h2.1.2.2.2.1.grown hg (by simp), h2.1.2.2.2.2⟩, ih h2.2⟩
/-- One of them. -/
theorem RecsLo.at {lo n : Nat} {w : World} {v : Sl} {recs : List (List Int)} (h : RecsLo lo w (slV v) n recs) {i : Nat} {r : List Int} (hr : recs[i]? = some r) : ∃ (b off : Nat) (t : Sl), v.1 = some ⟨b, off, none⟩ ∧ w.cell? ⟨b, off + i, none⟩ = some (.slice t.1 t.2.1 t.2.2) ∧ t.2.1 = r.length ∧ Rd w t.1 r ∧ r.length ≤ t.2.2 := by
  obtain ⟨ts, h1, h2, h3, h4⟩ := h
  have hl := h2.len
  have hi := (List.getElem?_eq_some_iff.1 hr).1
  obtain ⟨t, ht⟩ : ∃ t, ts[i]? = some t := ⟨_, List.getElem?_eq_getElem (by omega)⟩
  obtain ⟨va, vn, vc⟩ := v
  obtain ⟨_, _, e⟩ := sownSl h1
  have hvn : vn = n := by unfold slV at e; injection e
  subst hvn
  obtain ⟨b, off, e1, hc⟩ := (SOwn.rd h1).at (by omega)
  have hR := recsAt_get h2 i t r ht hr
  refine ⟨b, off, t, e1, ?_, hR.1, hR.2.2.2.1, hR.2.1⟩
  have := hc i t 0 _ ht rfl
  simpa [slE, slV] using this
theorem recsL_get {rs : List (ByteArray × Reg)} {i : Nat} {q : ByteArray × Reg} (h : rs[i]? = some q) : (recsL rs)[i]? = some (recL q.1 q.2) := by
  unfold recsL
  rw [List.getElem?_map, h]
  rfl
theorem regs_take {rs : List (ByteArray × Reg)} {i : Nat} {k : ByteArray} {r : Reg} (h : rs[i]? = some (k, r)) : regs (rs.take (i + 1)) = setR (regs (rs.take i)) k (some r) := by
  rw [List.take_add_one, h]
  exact regs_snoc _ _ _
set_option maxHeartbeats 8000000 in
theorem k_replay {W w : World} {d mb n : Nat} {x : DSt} {K : Kp} {Ls : Sg} {B : Nat → Prop} (sb : Nat) (x0 z0 : Value) (rs : List (ByteArray × Reg)) (h : De W w d mb n x dirK K Ls B) (hs : TriAt w sb x0 (.pointer (some ⟨d, 0, none⟩)) z0) (hsB : ¬ B sb) (hsW : W.heap.size ≤ sb) (hrs : cpRecs K ++ recsOf Ls = recsL rs) (hok : AllOk rs) (hn : n ≤ 4194304) (hlen : rs.length ≤ 4194304) (hln : Ls.length ≤ 4194304) :
    Calls Tryz.prog 49 #[.pointer (some ⟨sb, 0, none⟩)] w fun e w' => e = .returned (.int .i64 0) ∧ ∃ p mr A, KvAt W w' d mb n x sb p mr rs.length K Ls A B (regs rs) rs ∧ w.grownBy w' (some sb) ∧ (∀ k, A k → w.heap.size ≤ k) ∧ w.heap.size ≤ mr := by
  have hl2 := recsL_len rs
  have HO : Hid (Calls Tryz.prog 80 #[.pointer (some ⟨d, 0, none⟩), .string ⟨#[107, 118]⟩] w fun e w' => ∃ (p : Nat) (v : Sl) (m lo : Nat) (A : Nat → Prop), e = .returned (.tuple #[.pointer (some ⟨p, 0, none⟩), slV v, .int .i64 0]) ∧ Se W w' d mb n x p dirK K Ls A B ∧ RecsLo lo w' (slV v) m (recsL rs) ∧ w.grownBy w' none ∧ (∀ k, A k → w.heap.size ≤ k ∧ k < lo) ∧ w.heap.size ≤ lo) := by
    have := s_open h dirK_ok hn (by rw [hrs, hl2]; exact hlen) hln
    rw [hrs] at this
    exact this
  have c1 := hs.c1
  have HS : Hid (TriAt w sb x0 (.pointer (some ⟨d, 0, none⟩)) z0) := hs
  have HRS : Hid (cpRecs K ++ recsOf Ls = recsL rs) := hrs
  have HOK : Hid (AllOk rs) := hok
  have HSB : Hid (¬ B sb ∧ W.heap.size ≤ sb) := ⟨hsB, hsW⟩
  obtain ⟨N, eN⟩ : ∃ N, N = rs.length := ⟨_, rfl⟩
  have EN : Hid (N = rs.length) := eN
  rw [← eN] at hlen
  clear h hs hrs hok hsB hsW hl2 hln hn eN
  have hmm := @run_makeMap Tryz.prog
  go_enter Tryz.func49, Tryz.ntmps49
  go_wp2_with fail
  refine HO.out.mono ?_
  rintro e w1 ⟨p, v, m, lo, A, rfl, hse, hrl, hg1, hA, hlo⟩
  have HSE : Hid (Se W w1 d mb n x p dirK K Ls A B) := hse
  have HRL : Hid (RecsLo lo w1 (slV v) m (recsL rs)) := hrl
  have HG1 : Hid (w.grownBy w1 none) := hg1
  have HA : Hid (∀ k, A k → w.heap.size ≤ k ∧ k < lo) := hA
  obtain ⟨va, vn, vc⟩ := v
  have hvn : vn = N := by
    obtain ⟨ts, h1, h2, h3, h4⟩ := hrl
    obtain ⟨_, _, e⟩ := sownSl h1
    unfold slV at e
    injection e with _ e2 _
    have e3 : vn = m := e2
    rw [e3, h3, recsL_len, EN.out]
  subst hvn
  unfold slV
  have HM0 : Hid (RegIs (w1.alloc (.map #[] 0)) w1.heap.size 0 (regs (rs.take 0))) := RegIs.made w1
  clear hse hrl hg1 hA hlo HO
  go_wp2_with fail
  go_loopw [27] (fun t27 wr => ∃ i : Nat, i ≤ vn ∧ t27 = .int .i64 i ∧ w1.grownBy wr none ∧ RegIs wr w1.heap.size i (regs (rs.take i))) (fun t27 _ => vn - (intOf t27).toNat)
  case atStart => exact ⟨0, Nat.zero_le _, rfl, World.grownBy_alloc w1 _ none, HM0.out⟩
  case round =>
    obtain ⟨i, hi, rfl, hg, hm⟩ := hrel
    have HG : Hid (w1.grownBy wr none) := hg
    have HM : Hid (RegIs wr w1.heap.size i (regs (rs.take i))) := hm
    by_cases hlt : i < vn
    · have hii : (i : Int) < (vn : Int) := by omega
      obtain ⟨q, hq⟩ : ∃ q, rs[i]? = some q := ⟨_, List.getElem?_eq_getElem (by rw [← EN.out]; exact hlt)⟩
      obtain ⟨k, rv, rd⟩ := q
      obtain ⟨b, off, t, e1, hcell, ht1, ht2, ht3⟩ := (HRL.out.grown hg).at (recsL_get hq)
      dsimp only at e1
      subst e1
      obtain ⟨ta, tn, tc⟩ := t
      dsimp only at hcell ht1 ht2 ht3
      have hkok := (HOK.out _ (List.mem_of_getElem? hq)).1
      have HRD : Hid (Calls Tryz.prog 81 #[.slice ta tn tc] wr fun e w' => e = .returned (.tuple #[.string k, .agg #[.int .u64 (rv : Int), .string rd], .bool true]) ∧ wr.grownBy w' none) := k_read k rv rd ta tn tc wr ht2 ht1.symm (by omega) hkok
      have HQ : Hid (rs[i]? = some (k, rv, rd)) := hq
      have HK64 : Hid (k.size ≤ 64) := hkok.key.2
      clear ht1 ht2 ht3 hq hkok hg hm
      go_wp2_with fail
      refine HRD.out.mono ?_
      rintro e w2 ⟨rfl, hg2⟩
      obtain ⟨W3, eW3⟩ : ∃ W3, W3 = w2.alloc (.cells #[.int .u64 (rv : Int), .string rd] 90) := ⟨_, rfl⟩
      have hg23 : w2.grownBy W3 none := by rw [eW3]; exact World.grownBy_alloc w2 _ none
      have HB3 : RgAt W3 w2.heap.size (.int .u64 (rv : Int)) (.string rd) := by rw [eW3]; exact RgAt.new w2 _ _
      have hload : (loadVar 90 ⟨w2.heap.size, 0, none⟩).run Tryz.prog W3 = .ok (.agg #[.int .u64 (rv : Int), .string rd]) W3 := HB3.var
      have HG3 : Hid (w1.grownBy W3 none) := (HG.out.trans hg2).trans hg23
      have hm3 := (HM.out.kept hg2 (by simp)).kept hg23 (by simp)
      obtain ⟨w4, hrun, hm4, hg4⟩ := hm3.put k HK64.out (by omega) (rv, rd)
      have hput : (Instr.mapUpdate 66 (.map (some w1.heap.size)) (.string k) (.agg #[.int .u64 (rv : Int), .string rd])).run Tryz.prog W3 = .ok () w4 := hrun
      have HG4 : Hid (w1.grownBy w4 none) := gb_trans HG3.out hg4 (fun k hk => .inl (by cases hk; exact Nat.le_refl _))
      have HM4 : Hid (RegIs w4 w1.heap.size (i + 1) (regs (rs.take (i + 1)))) := by
        show RegIs _ _ _ _
        rw [regs_take HQ.out]
        exact hm4
      rw [eW3] at hput
      clear hg2 hm3 hm4 hg4 hrun hg23 HRD HG HM HB3 hload HG3
      clear eW3
      go_wp2
      go_roundw
      case rel => exact ⟨i + 1, by omega, by go_num, HG4.out, HM4.out⟩
      case measure => simp [intOf]; omega
    · have hii : ¬ (i : Int) < (vn : Int) := by omega
      have hiN : i = rs.length := by rw [← EN.out]; omega
      have hmf : RegIs wr w1.heap.size rs.length (regs rs) := by
        have h5 := hm
        rw [hiN, List.take_length] at h5
        exact h5
      have hsr : TriAt wr sb x0 (.pointer (some ⟨d, 0, none⟩)) z0 := (HS.out.grown HG1.out).grown hg
      have s0 := hsr.c0
      have f0 := hsr.f 0
      have hsr1 := hsr.set0 (.pointer (some ⟨p, 0, none⟩))
      have s2 := hsr1.c2
      have f2 := hsr1.f 2
      have hsr2 := hsr1.set2 (.map (some w1.heap.size))
      have HFIN : Hid (KvAt W ((wr.setCell ⟨sb, 0, none⟩ (.pointer (some ⟨p, 0, none⟩))).setCell ⟨sb, 2, none⟩ (.map (some w1.heap.size))) d mb n x sb p w1.heap.size rs.length K Ls A B (regs rs) rs ∧ w.grownBy ((wr.setCell ⟨sb, 0, none⟩ (.pointer (some ⟨p, 0, none⟩))).setCell ⟨sb, 2, none⟩ (.map (some w1.heap.size))) (some sb) ∧ (∀ k, A k → w.heap.size ≤ k) ∧ w.heap.size ≤ w1.heap.size) := by
        have hlt := HS.out.lt
        have hw1 := HG1.out.size
        have hsbA : ¬ (A sb ∨ B sb) := fun hx => hx.elim (fun ha => by have := (HA.out sb ha).1; omega) HSB.out.1
        have hmrA : ¬ (A w1.heap.size ∨ B w1.heap.size) := fun hx => hx.elim (fun ha => by have := HSE.out.at_.ltA _ ha; omega) (fun hb => by have := HSE.out.at_.ltB _ hb; omega)
        have hg2 : wr.grownBy ((wr.setCell ⟨sb, 0, none⟩ (.pointer (some ⟨p, 0, none⟩))).setCell ⟨sb, 2, none⟩ (.map (some w1.heap.size))) (some sb) := gb_trans (gb_set rfl) (gb_set rfl) (fun j hj => .inr hj)
        have hk2 := Kept.of hg2 (X := fun k => k = sb) (fun k hk => by cases hk; rfl)
        refine ⟨⟨(HSE.out.grown hg).others hk2 (fun k hk e => by subst e; exact hsbA hk) (fun k e => by subst e; exact HSB.out.2), hsr2, hmf.kept hg2 (fun e => by have := Option.some.inj e; omega), rfl, HRS.out, HOK.out, ⟨hsbA, HSB.out.2⟩, ⟨hmrA, HSE.out.from_.size⟩⟩, gb_trans (gb_any (HG1.out.trans hg) _) hg2 (fun j hj => .inr hj), fun k hk => (HA.out k hk).1, hw1⟩
      clear hmf hsr hsr1 hsr2 hg hm hiN
      go_wp2
      go_ret
      exact ⟨rfl, p, _, A, HFIN.out⟩
end Go.Proofs.YtgpgkpciajajcaaGreatDoor

/- Package kv: Open, reach, find, Get, Keys; keep, forget. -/
namespace Go.Proofs.YtgpgkpciajajcaaGreatDoor
open Go.RowKit Go.Maps Go.Sort
set_option linter.unusedVariables false
set_option maxRecDepth 20000

theorem x_upK {w : World} {base d mb n : Nat} {x : DSt} {B : Nat → Prop} (h : DS w base d mb n x B) : Calls Tryz.prog 10 #[.pointer (some ⟨d, 0, none⟩)] w fun e w' => e = .returned (.bool !x.off) ∧ w = w' := by
  obtain ⟨F, G, hd, _⟩ := h
  exact d_up d mb _ _ _ _ _ w hd.row
theorem neq_map66 (mr : Nat) (w : World) : (binOp .neq 66 (.map (some mr)) (.map none)).run Tryz.prog w = .ok (.bool true) w := by kernel_rfl
theorem neq_map66n (w : World) : (binOp .neq 66 (.map none) (.map none)).run Tryz.prog w = .ok (.bool false) w := by kernel_rfl
/-- reach, where the registers are known. -/
theorem k_reach {w : World} {base d mb n : Nat} {x : DSt} {B : Nat → Prop} (sb mr : Nat) (x0 : Value) (h : DS w base d mb n x B) (hon : x.off = false) (hs : TriAt w sb x0 (.pointer (some ⟨d, 0, none⟩)) (.map (some mr))) :
    Calls Tryz.prog 25 #[.pointer (some ⟨sb, 0, none⟩)] w fun e w' => e = .returned (.int .i64 0) ∧ w = w' := by
  have HU := x_upK h
  rw [hon] at HU
  have HU' : Hid (Calls Tryz.prog 10 #[.pointer (some ⟨d, 0, none⟩)] w fun e w' => e = .returned (.bool true) ∧ w = w') := HU
  have c1 := hs.c1
  have c2 := hs.c2
  have hne := neq_map66 mr
  clear h hon hs HU
  go_enter Tryz.func25, Tryz.ntmps25
  go_wp2_with fail
  refine HU'.out.mono ?_
  rintro e w1 ⟨rfl, rfl⟩
  go_wp2
  go_ret
  exact ⟨rfl, rfl⟩
/-- What Open answers of a log that says these registers. -/
theorem k_open {W w : World} {d mb n : Nat} {x : DSt} {K : Kp} {Ls : Sg} {B : Nat → Prop} (rs : List (ByteArray × Reg)) (h : De W w d mb n x dirK K Ls B) (hrs : cpRecs K ++ recsOf Ls = recsL rs) (hok : AllOk rs) (hn : n ≤ 4194304) (hlen : rs.length ≤ 4194304) (hln : Ls.length ≤ 4194304) :
    Calls Tryz.prog 8 #[.pointer (some ⟨d, 0, none⟩)] w fun e w' => ∃ sb p mr A, e = .returned (.tuple #[.pointer (some ⟨sb, 0, none⟩), .int .i64 0]) ∧ KvAt W w' d mb n x sb p mr rs.length K Ls A B (regs rs) rs ∧ w.grownBy w' none ∧ (∀ k, A k → w.heap.size ≤ k) ∧ w.heap.size ≤ sb ∧ w.heap.size ≤ mr := by
  obtain ⟨W1, eW1⟩ : ∃ W1, W1 = w.alloc (.cells #[.pointer none, .pointer (some ⟨d, 0, none⟩), .map none] 68) := ⟨_, rfl⟩
  have hg1 : w.grownBy W1 none := by rw [eW1]; exact World.grownBy_alloc w _ none
  have hz1 : W1.heap.size = w.heap.size + 1 := by rw [eW1]; exact Array.size_push _
  have hT : TriAt W1 w.heap.size (.pointer none) (.pointer (some ⟨d, 0, none⟩)) (.map none) := by rw [eW1]; exact TriAt.new w _ _ _
  have hD := h.grown hg1
  have HRP : Hid (Calls Tryz.prog 49 #[.pointer (some ⟨w.heap.size, 0, none⟩)] W1 fun e w' => e = .returned (.int .i64 0) ∧ ∃ p mr A, KvAt W w' d mb n x w.heap.size p mr rs.length K Ls A B (regs rs) rs ∧ W1.grownBy w' (some w.heap.size) ∧ (∀ k, A k → W1.heap.size ≤ k) ∧ W1.heap.size ≤ mr) :=
    k_replay w.heap.size _ _ rs hD hT (fun hb => by have := h.ltB _ hb; omega) h.from_.size hrs hok hn hlen hln
  have HU0 := x_upK hD.disk
  rw [h.calm.on] at HU0
  have HU : Hid (Calls Tryz.prog 10 #[.pointer (some ⟨d, 0, none⟩)] W1 fun e w' => e = .returned (.bool true) ∧ W1 = w') := HU0
  have HR : Hid (Calls Tryz.prog 25 #[.pointer (some ⟨w.heap.size, 0, none⟩)] W1 fun e w' => e = .returned (.int .i64 0) ∧ ∃ p mr A, KvAt W w' d mb n x w.heap.size p mr rs.length K Ls A B (regs rs) rs ∧ W1.grownBy w' (some w.heap.size) ∧ (∀ k, A k → W1.heap.size ≤ k) ∧ W1.heap.size ≤ mr) := by
    have c1 := hT.c1
    have c2 := hT.c2
    have hne := neq_map66n
    clear hT hD h HU0 hrs hok hn hlen hln eW1
    go_enter Tryz.func25, Tryz.ntmps25
    go_wp2_with fail
    refine HU.out.mono ?_
    rintro e w1 ⟨rfl, rfl⟩
    go_wp2_with fail
    refine HRP.out.mono ?_
    rintro e w1 ⟨rfl, hx⟩
    have HX : Hid (∃ p mr A, KvAt W w1 d mb n x w.heap.size p mr rs.length K Ls A B (regs rs) rs ∧ W1.grownBy w1 (some w.heap.size) ∧ (∀ k, A k → W1.heap.size ≤ k) ∧ W1.heap.size ≤ mr) := hx
    clear hx
    go_wp2
    go_ret
    exact ⟨rfl, HX.out⟩
  have HG1 : Hid (w.grownBy W1 none) := hg1
  have HZ1 : Hid (W1.heap.size = w.heap.size + 1) := hz1
  clear hT hD h HU0 hrs hok hn hlen hln HRP HU hg1 hz1
  go_enter Tryz.func8, Tryz.ntmps8
  go_upto_region 2 with fail
  rw [← eW1]
  clear eW1
  go_wp2_with fail
  refine HR.out.mono ?_
  rintro e w1 ⟨rfl, p, mr, A, hx, hg, hA, hm⟩
  have HX : Hid (KvAt W w1 d mb n x w.heap.size p mr rs.length K Ls A B (regs rs) rs ∧ W1.grownBy w1 (some w.heap.size) ∧ (∀ k, A k → W1.heap.size ≤ k) ∧ W1.heap.size ≤ mr) := ⟨hx, hg, hA, hm⟩
  clear hx hg hA hm
  go_wp2
  go_ret2
  have hz := HZ1.out
  exact ⟨_, p, mr, A, rfl, HX.out.1, gb_trans HG1.out HX.out.2.1 (fun k hk => .inl (by cases hk; exact Nat.le_refl _)), fun k hk => by have := HX.out.2.2.1 k hk; omega, Nat.le_refl _, by have := HX.out.2.2.2; omega⟩
/-- find. -/
theorem k_find {w : World} {base d mb n m : Nat} {x : DSt} {B : Nat → Prop} {F : ByteArray → Option Reg} (sb mr : Nat) (x0 : Value) (k : ByteArray) (h : DS w base d mb n x B) (hon : x.off = false) (hs : TriAt w sb x0 (.pointer (some ⟨d, 0, none⟩)) (.map (some mr))) (hm : RegIs w mr m F) (hk : kB k = true) :
    Calls Tryz.prog 41 #[.pointer (some ⟨sb, 0, none⟩), .string k] w fun e w' => e = .returned (.tuple #[regV (F k), .int .i64 0]) ∧ w.grownBy w' none := by
  have hks := kB_size hk
  obtain ⟨W1, eW1⟩ : ∃ W1, W1 = w.alloc (.cells #[.int .u64 0, .string ⟨#[]⟩] 90) := ⟨_, rfl⟩
  have hg1 : w.grownBy W1 none := by rw [eW1]; exact World.grownBy_alloc w _ none
  have HB : Hid (RgAt W1 w.heap.size (.int .u64 0) (.string ⟨#[]⟩)) := by show RgAt _ _ _ _; rw [eW1]; exact RgAt.new w _ _
  have HG1 : Hid (w.grownBy W1 none) := hg1
  have HK : Hid (Calls Tryz.prog 69 #[.string k] W1 fun e w' => e = .returned (.bool true) ∧ W1 = w') := by
    have := k_isKey k (by omega) W1
    rw [hk] at this
    exact this
  have HR : Hid (Calls Tryz.prog 25 #[.pointer (some ⟨sb, 0, none⟩)] W1 fun e w' => e = .returned (.int .i64 0) ∧ W1 = w') := k_reach sb mr x0 (DV.kept h hg1) hon (hs.grown hg1)
  have hlook := (hm.kept hg1 (by simp)).look k (by omega)
  have s2 := (hs.grown hg1).c2
  have hV : ∃ rv rd, regV (F k) = .agg #[.int .u64 (rv : Int), .string rd] := ⟨_, _, rfl⟩
  obtain ⟨rv', rd', hV⟩ := hV
  rw [hV] at hlook ⊢
  have c0 := HB.out.c0
  have c1 := HB.out.c1
  have f0 := HB.out.f0
  have f1 := HB.out.f1
  clear h hon hs hm hk hks hg1 hV
  go_enter Tryz.func41, Tryz.ntmps41
  go_upto_region 1 with fail
  rw [← eW1]
  clear eW1
  go_wp2_with fail
  refine HK.out.mono ?_
  rintro e w1 ⟨rfl, rfl⟩
  go_wp2_with fail
  refine HR.out.mono ?_
  rintro e w1 ⟨rfl, rfl⟩
  go_wp2
  exact bodyPost_ret (results_cell2 Tryz.results41 _ _ _ _ _ rfl (HB.out.set _ _).var) rfl ⟨rfl, gb_pair HG1.out (Nat.le_refl _) _ _⟩
end Go.Proofs.YtgpgkpciajajcaaGreatDoor

/- Package kv: keep, shorten. -/
namespace Go.Proofs.YtgpgkpciajajcaaGreatDoor
open Go.RowKit Go.Maps Go.Sort
set_option linter.unusedVariables false
set_option maxRecDepth 20000

/-- keep. -/
theorem k_keep {W w : World} {d mb n : Nat} {x : DSt} {p : Nat} {K : Kp} {Ls : Sg} {A B : Nat → Prop} (h : Se W w d mb n x p dirK K Ls A B) (sb : Nat) (y0 z0 : Value) (hs : TriAt w sb (.pointer (some ⟨p, 0, none⟩)) y0 z0) (hsb : ¬ (A sb ∨ B sb)) (a : Option Addr) (zs : List Int) (L cap : Nat) (hw : x.wn ≤ 999999890) (hop : openN K Ls < 99999997) (hn : n < 1048576) (hsg : Ls.length < 4194304) (hr : Rd w a zs) (hL : zs.length = L) (hnil : a = none → cap = 0) (hz : L ≤ 65536) :
    Calls Tryz.prog 44 #[.pointer (some ⟨sb, 0, none⟩), .slice a L cap] w fun e w' => e = .returned (.int .i64 0) ∧ ∃ n' x' A' B', n' ≤ n + 1 ∧ x'.wn ≤ x.wn + 3 ∧ Se W w' d mb n' x' p dirK K (addL K Ls zs) A' B' ∧ Step2 w w' A B A' B' := by
  have hadd := log_add (rec := zs) h.log h.calm (by omega) (by omega) (by omega)
  have hop2 : openN K (addL K Ls zs) ≤ openN K Ls + 1 := by
    rw [← hadd.op]
    exact rollX_le x dirK (openN K Ls)
  have hln := addL_len K Ls zs
  have HA := s_append h dirK_ok a zs L cap (by omega) (by omega) hn (by omega) hr hL hnil hz
  have HX : Hid (Calls Tryz.prog 73 #[.pointer (some ⟨p, 0, none⟩), .slice a L cap] w fun e w' => e = .returned (.int .i64 0) ∧ TriAt w' sb (.pointer (some ⟨p, 0, none⟩)) y0 z0 ∧ (Calls Tryz.prog 74 #[.pointer (some ⟨p, 0, none⟩)] w' fun e w'' => e = .returned (.int .i64 0) ∧ ∃ n' x' A' B', n' ≤ n + 1 ∧ x'.wn ≤ x.wn + 3 ∧ Se W w'' d mb n' x' p dirK K (addL K Ls zs) A' B' ∧ Step2 w w'' A B A' B')) := by
    refine HA.mono ?_
    rintro e w1 ⟨rfl, n1, A1, B1, k1, k2, k3, k4⟩
    refine ⟨rfl, hs.stay (k4.kept.block sb hs.lt hsb), ?_⟩
    refine (s_sync k3 dirK_ok (by omega) (by omega) (by omega)).mono ?_
    rintro e w2 ⟨rfl, n2, B2, q1, q2, q3, q4⟩
    exact ⟨rfl, n2, _, A1, B2, by omega, by omega, q3, k4.trans q4⟩
  have c0 := hs.c0
  clear h hs hsb hr hadd hop2 hln HA hnil
  go_enter Tryz.func44, Tryz.ntmps44
  go_wp2_with fail
  refine HX.out.mono ?_
  rintro e w1 ⟨rfl, ht, hc⟩
  have c0' := ht.c0
  have HC : Hid (Calls Tryz.prog 74 #[.pointer (some ⟨p, 0, none⟩)] w1 fun e w'' => e = .returned (.int .i64 0) ∧ ∃ n' x' A' B', n' ≤ n + 1 ∧ x'.wn ≤ x.wn + 3 ∧ Se W w'' d mb n' x' p dirK K (addL K Ls zs) A' B' ∧ Step2 w w'' A B A' B') := hc
  clear ht hc HX
  go_wp2_with fail
  refine HC.out.mono ?_
  rintro e w2 ⟨rfl, hx⟩
  have HE : Hid (∃ n' x' A' B', n' ≤ n + 1 ∧ x'.wn ≤ x.wn + 3 ∧ Se W w2 d mb n' x' p dirK K (addL K Ls zs) A' B' ∧ Step2 w w2 A B A' B') := hx
  clear hx HC
  go_wp2
  go_ret
  exact ⟨rfl, HE.out⟩
/-- shorten, of a log that is short enough. -/
theorem k_short {w : World} {p d : Nat} {dir cp : ByteArray} {segs : List Nat} {op : Nat} {A : Nat → Prop} (h : WalA w p d dir cp segs op A) (sb : Nat) (y0 z0 : Value) (hs : TriAt w sb (.pointer (some ⟨p, 0, none⟩)) y0 z0) (hl : segs.length ≤ 64) :
    Calls Tryz.prog 46 #[.pointer (some ⟨sb, 0, none⟩)] w fun e w' => e = .returned (.int .i64 0) ∧ w = w' := by
  have HS := w_segments w p d dir cp segs op A h
  obtain ⟨L, eL⟩ : ∃ L, L = segs.length := ⟨_, rfl⟩
  rw [← eL] at HS hl
  have HS' : Hid (Calls Tryz.prog 75 #[.pointer (some ⟨p, 0, none⟩)] w fun e w' => e = .returned (.int .i64 (L : Int)) ∧ w = w') := HS
  have q1 : decide ((L : Int) ≤ 64) = true := by simp; omega
  have c0 := hs.c0
  clear h hs hl HS eL
  go_enter Tryz.func46, Tryz.ntmps46
  go_wp2_with fail
  refine HS'.out.mono ?_
  rintro e w1 ⟨rfl, rfl⟩
  go_wp2
  go_ret
  exact ⟨rfl, rfl⟩
/-- The records of all registers, by key. -/
def allR (F : ByteArray → Option Reg) (l : List ByteArray) : List (ByteArray × Reg) := l.map fun s => (s, (F s).getD reg0)
theorem allR_get {F : ByteArray → Option Reg} {l : List ByteArray} {i : Nat} {s : ByteArray} (h : l[i]? = some s) : (recsL (allR F l))[i]? = some (recL s ((F s).getD reg0)) := by
  unfold recsL allR
  rw [List.map_map, List.getElem?_map, h]
  rfl
theorem recsAt_keep {w : World} {lo : Nat} {o : Option Nat} {a : Option Addr} {n c : Nat} {ts : List Sl} {recs : List (List Int)} (h1 : SOwn slE 37 w lo (.slice a n c) n ts) (h2 : RecsAt w lo o ts recs) (hr : ∀ r ∈ recs, r.length ≤ 65536) : KeepIs w a ts recs :=
  ⟨SOwn.rd h1, h2.len, fun i t r ht hr' => by
    have := recsAt_get h2 i t r ht hr'
    exact ⟨this.1, this.2.2.2.1, this.2.2.1, hr r (List.mem_of_getElem? hr')⟩⟩
set_option maxHeartbeats 8000000 in
theorem k_shorten {W w : World} {d mb n : Nat} {x : DSt} {p m : Nat} {K : Kp} {Ls : Sg} {A B : Nat → Prop} {F : ByteArray → Option Reg} (h : Se W w d mb n x p dirK K Ls A B) (sb mr : Nat) (y0 : Value) (hs : TriAt w sb (.pointer (some ⟨p, 0, none⟩)) y0 (.map (some mr))) (hm : RegIs w mr m F) (hF : ∀ s r, F s = some r → RegOk s r ∧ (recL s r).length ≤ 65536) (hne : ∃ s, (F s).isSome = true) (hseg : 64 < Ls.length) (hln : Ls.length ≤ 4194304) (hw : x.wn + Ls.length ≤ 999999900) (hop : openN K Ls < 99999998) (hn : n < 1048574) (hm4 : m ≤ 4194304) (hsz : ∀ l, KeysOf F ⟨#[]⟩ l → (logB frameR (recsL (allR F l))).length ≤ 4194304) :
    Calls Tryz.prog 46 #[.pointer (some ⟨sb, 0, none⟩)] w fun e w' => e = .returned (.int .i64 0) ∧ ∃ n' x' B' l, n' ≤ n + 2 ∧ x'.wn ≤ x.wn + 4 + Ls.length ∧ KeysOf F ⟨#[]⟩ l ∧ l.length ≤ m ∧ Se W w' d mb n' x' p dirK (some (openN K Ls, recsL (allR F l))) [] A B' ∧ Step2 w w' A B A B' := by
  have HS := w_segments w p d dirK _ _ _ A h.at_.wal
  rw [List.length_map] at HS
  obtain ⟨L, eL⟩ : ∃ L, L = Ls.length := ⟨_, rfl⟩
  have EL : Hid (L = Ls.length) := eL
  rw [← eL] at HS hseg
  have HS' : Hid (Calls Tryz.prog 75 #[.pointer (some ⟨p, 0, none⟩)] w fun e w' => e = .returned (.int .i64 (L : Int)) ∧ w = w') := HS
  have q1 : decide ((L : Int) ≤ 64) = false := by simp; omega
  have HK : Hid (Calls Tryz.prog 68 #[.pointer (some ⟨sb, 0, none⟩), .string ⟨#[]⟩] w fun e w' => ∃ a c l, e = .returned (.slice a l.length c) ∧ SOwn strE 9 w' w.heap.size (.slice a l.length c) l.length l ∧ w.grownBy w' none ∧ KeysOf F ⟨#[]⟩ l ∧ l.length ≤ m) := k_keys sb mr m _ _ F ⟨#[]⟩ w hs hm hm4
  have c0 := hs.c0
  have HSE : Hid (Se W w d mb n x p dirK K Ls A B) := h
  have HT : Hid (TriAt w sb (.pointer (some ⟨p, 0, none⟩)) y0 (.map (some mr))) := hs
  have HM : Hid (RegIs w mr m F) := hm
  have HF : Hid (∀ s r, F s = some r → RegOk s r ∧ (recL s r).length ≤ 65536) := hF
  have HNE : Hid (∃ s, (F s).isSome = true) := hne
  have HSZ : Hid (∀ l, KeysOf F ⟨#[]⟩ l → (logB frameR (recsL (allR F l))).length ≤ 4194304) := hsz
  have HBD : Hid (Ls.length ≤ 4194304 ∧ x.wn + Ls.length ≤ 999999900 ∧ openN K Ls < 99999998 ∧ n < 1048574) := ⟨hln, hw, hop, hn⟩
  clear h hs hm hF hne hsz hln hw hop hn HS eL
  go_enter Tryz.func46, Tryz.ntmps46
  go_wp2_with fail
  refine HS'.out.mono ?_
  rintro e w1 ⟨rfl, rfl⟩
  go_wp2_with fail
  refine HK.out.mono ?_
  rintro e w1 ⟨ka, kc, l, rfl, hso, hg1, hko, hlm⟩
  obtain ⟨Nk, eN⟩ : ∃ N, N = l.length := ⟨_, rfl⟩
  rw [← eN] at hso hlm ⊢
  have EN : Hid (Nk = l.length) := eN
  have HSO : Hid (SOwn strE 9 w1 w.heap.size (.slice ka Nk kc) Nk l) := hso
  have HG1 : Hid (w.grownBy w1 none) := hg1
  have HKO : Hid (KeysOf F ⟨#[]⟩ l) := hko
  clear hso hg1 hko HK HS' eN
  go_wp2_with fail
  go_loopw [3, 15] (fun t3 t15 wr => ∃ (i : Nat) (ts : List Sl) (va : Option Addr) (vc : Nat), i ≤ Nk ∧ t3 = .slice va i vc ∧ t15 = .int .i64 i ∧ SOwn slE 37 wr w1.heap.size (.slice va i vc) i ts ∧ RecsAt wr w1.heap.size (Value.ownBlock (.slice va i vc)) ts ((recsL (allR F l)).take i) ∧ w1.grownBy wr none) (fun _ t15 _ => Nk - (intOf t15).toNat)
  case atStart => exact ⟨0, [], none, 0, Nat.zero_le _, rfl, rfl, SOwn.nil 37 _ _, trivial, World.grownBy.refl _ _⟩
  case round =>
    obtain ⟨i, ts, va, vc, hi, rfl, rfl, hso, hre, hg⟩ := hrel
    have HSR : Hid (SOwn slE 37 wr w1.heap.size (.slice va i vc) i ts) := hso
    have HRE : Hid (RecsAt wr w1.heap.size (Value.ownBlock (.slice va i vc)) ts ((recsL (allR F l)).take i)) := hre
    have HG : Hid (w1.grownBy wr none) := hg
    have hT := (HT.out.grown HG1.out).grown hg
    have hM := (HM.out.kept HG1.out (by simp)).kept hg (by simp)
    have HLW : Hid (w1.heap.size ≤ wr.heap.size) := hg.size
    by_cases hlt : i < Nk
    · have hii : (i : Int) < (Nk : Int) := by omega
      obtain ⟨s, hs⟩ : ∃ s, l[i]? = some s := ⟨_, List.getElem?_eq_getElem (by rw [← EN.out]; exact hlt)⟩
      obtain ⟨b, off, e1, hc⟩ := (SOwn.rd HSO.out).at (by rw [← EN.out]; omega)
      have hcell : wr.cell? ⟨b, off + i, none⟩ = some (.string s) := by
        have := hc i s 0 _ hs rfl
        exact hg.cell (by simpa [strE] using this) (by simp)
      subst e1
      have hFs : (F s).isSome = true := ((HKO.out.2.2 s).1 (List.mem_of_getElem? hs)).1
      obtain ⟨r, hr⟩ := Option.isSome_iff_exists.1 hFs
      obtain ⟨rv, rd⟩ := r
      obtain ⟨hok, hrl⟩ := HF.out s _ hr
      have hlook : (Instr.lookup 66 (.map (some mr)) (.string s) false).run Tryz.prog wr = .ok (.agg #[.int .u64 (rv : Int), .string rd]) wr := by
        have := hM.look s hok.key.2
        rw [hr] at this
        exact this
      have c2 := hT.c2
      have HLY : Hid (Calls Tryz.prog 43 #[.agg #[.int .u64 (rv : Int), .string rd], .string s] wr fun e w' => ∃ g c N, e = .returned (.slice (some ⟨g, 0, none⟩) N c) ∧ Own w' wr.heap.size g N c (recL s (rv, rd)) ∧ wr.grownBy w' none) := k_lay s rv rd wr hok.key.2 hok.ver.2 (by have := hok.size; dsimp only at this; omega)
      have HTK : Hid ((recsL (allR F l)).take (i + 1) = (recsL (allR F l)).take i ++ [recL s (rv, rd)]) := by
        show _ = _
        rw [List.take_add_one, allR_get hs, hr]
        rfl
      clear hT hM hok hrl hr hFs hc hs hso hre hg
      go_wp2_with fail
      refine HLY.out.mono ?_
      rintro e w2 ⟨g, c, RN, rfl, hown, hg2⟩
      have HOW : Hid (Own w2 wr.heap.size g RN c (recL s (rv, rd))) := hown
      have HG2 : Hid (wr.grownBy w2 none) := hg2
      have hsz : w1.heap.size ≤ w2.heap.size + 1 := by have := hg2.size; have := HLW.out; omega
      have HSO2 : Hid (SOwn slE 37 (w2.alloc (.cells #[.slice (some ⟨g, 0, none⟩) RN c] 37)) w1.heap.size (.slice va i vc) i ts) := SOwn.kept HSR.out (hg2.trans (World.grownBy_alloc w2 _ none)) (by cases va <;> simp [Value.ownBlock])
      clear hown hg2 HLY
      go_wp2_with (at_builtin; refine wpList_append_t slET rfl (.tmp 19) (.tmp 28) rfl w1.heap.size (.slice va i vc) i ts rfl HSO2.out ⟨w2.heap.size, 0, none⟩ [(some ⟨g, 0, none⟩, RN, c)] 1 1 rfl rfl (sllit w2 [(some ⟨g, 0, none⟩, RN, c)]) (by omega) (by omega) (by unfold maxLen; omega) (by rw [show ((w2.alloc (.cells #[.slice (some ⟨g, 0, none⟩) RN c] 37)).heap.size) = w2.heap.size + 1 from Array.size_push _]; exact hsz) ?_; intro g3 k3 w3 ho3 hg3 hgg; have HO3 : Hid (SOwn slE 37 w3 w1.heap.size (.slice (some ⟨g3, 0, none⟩) (i + 1) k3) (i + 1) (ts ++ [(some ⟨g, 0, none⟩, RN, c)])) := ho3; have HG3 : Hid ((w2.alloc (.cells #[.slice (some ⟨g, 0, none⟩) RN c] 37)).grownBy w3 (Value.ownBlock (.slice va i vc))) := hg3; have HGG : Hid (Value.ownBlock (.slice va i vc) = some g3 ∨ g3 = (w2.alloc (.cells #[.slice (some ⟨g, 0, none⟩) RN c] 37)).heap.size) := hgg; clear ho3 hg3 hgg)
      go_roundw
      case rel =>
        refine ⟨i + 1, ts ++ [(some ⟨g, 0, none⟩, RN, c)], some ⟨g3, 0, none⟩, k3, by omega, by go_num, by go_num, HO3.out, ?_, ?_⟩
        · rw [HTK.out]
          have hal := World.grownBy_alloc w2 (.cells #[.slice (some ⟨g, 0, none⟩) RN c] 37) none
          have hbl := HSR.out.block
          have hsa : (w2.alloc (.cells #[.slice (some ⟨g, 0, none⟩) RN c] 37)).heap.size = w2.heap.size + 1 := Array.size_push _
          have ho : ∀ k', Value.ownBlock (.slice (some ⟨g3, 0, none⟩) (i + 1) k3) = some k' → (w2.alloc (.cells #[.slice (some ⟨g, 0, none⟩) RN c] 37)).heap.size ≤ k' ∨ Value.ownBlock (.slice va i vc) = some k' := fun k' hk => by
            have e : g3 = k' := Option.some.inj hk
            subst e
            rcases HGG.out with h | h
            · exact .inr h
            · exact .inl (Nat.le_of_eq h.symm)
          refine RecsAt.app ((HRE.out.kept (HG2.out.trans hal) (fun k hk => by cases hk)).step HG3.out ho) ⟨?_, trivial⟩
          have hge := HOW.out.ge
          refine ⟨HOW.out.len.symm, by rw [HOW.out.len]; exact HOW.out.cap.1, (fun e => by cases e), ?_, ?_⟩
          · refine rd_block HOW.out.rd (fun hr x hx => ?_)
            cases hx
            rw [HG3.out.block g (by omega) (fun e => by have h1 := (hbl _ e.symm).2; omega)]
            exact hal.block g hge.2 (by simp)
          · intro hr x hx
            cases hx
            refine ⟨Nat.le_trans HLW.out hge.1, fun e => ?_⟩
            have e' : g = g3 := Option.some.inj e
            rcases HGG.out with h | h
            · have h1 := (hbl _ h).2
              omega
            · omega
        · exact gb_trans (gb_trans (HG.out.trans HG2.out) (World.grownBy_alloc w2 _ none) (fun k hk => by cases hk)) HG3.out (fun k hk => .inl (HSR.out.block k hk).1)
      case measure => simp [intOf]; omega
    · have hii : ¬ (i : Int) < (Nk : Int) := by omega
      have hiN : i = Nk := by omega
      subst hiN
      have hlen : (recsL (allR F l)).length = i := by rw [recsL_len, EN.out]; unfold allR; simp
      have hall : ∀ r ∈ recsL (allR F l), r.length ≤ 65536 := by
        intro r hr
        unfold recsL allR at hr
        rw [List.map_map, List.mem_map] at hr
        obtain ⟨s, hs, rfl⟩ := hr
        obtain ⟨q, hq⟩ := Option.isSome_iff_exists.1 ((HKO.out.2.2 s).1 hs).1
        show (recL s ((F s).getD reg0)).length ≤ 65536
        rw [hq]
        exact (HF.out s q hq).2
      have hne : recsL (allR F l) ≠ [] := by
        intro e
        obtain ⟨s, hs⟩ := HNE.out
        have hmem := (HKO.out.2.2 s).2 ⟨hs, by simp [Lib.hasPrefix]⟩
        have : l = [] := List.eq_nil_of_length_eq_zero (by rw [← EN.out, ← hlen, e]; rfl)
        rw [this] at hmem
        cases hmem
      have hre2 : RecsAt wr w1.heap.size (Value.ownBlock (.slice va i vc)) ts (recsL (allR F l)) := by
        have h5 := hre
        rw [List.take_of_length_le (by omega)] at h5
        exact h5
      have hgw := HG1.out.trans hg
      obtain ⟨b1, b2, b3, b4⟩ := HBD.out
      have HCUT : Hid (Calls Tryz.prog 76 #[.pointer (some ⟨p, 0, none⟩), .slice va i vc] wr fun e w' => e = .returned (.int .i64 0) ∧ ∃ n' x' B', n' ≤ n + 2 ∧ x'.wn ≤ x.wn + 4 + Ls.length ∧ Se W w' d mb n' x' p dirK (some (openN K Ls, recsL (allR F l))) [] A B' ∧ Step2 wr w' A B A B') :=
        s_cut (HSE.out.grown hgw) dirK_ok va i vc ts (recsL (allR F l)) b2 b3 b4 b1 (recsAt_keep hso hre2 hall) hlen (by omega) hne (HSZ.out l HKO.out) hall
      have HGW : Hid (w.grownBy wr none) := hgw
      have c0' := hT.c0
      clear hso hre hre2 hall hne hlen hgw hT hM hg b1 b2 b3 b4
      go_wp2_with fail
      refine HCUT.out.mono ?_
      rintro e w3 ⟨rfl, n', x', B', k1, k2, k3, k4⟩
      have HE : Hid (∃ n' x' B' l, n' ≤ n + 2 ∧ x'.wn ≤ x.wn + 4 + Ls.length ∧ KeysOf F ⟨#[]⟩ l ∧ l.length ≤ m ∧ Se W w3 d mb n' x' p dirK (some (openN K Ls, recsL (allR F l))) [] A B' ∧ Step2 w w3 A B A B') := ⟨n', x', B', l, k1, k2, HKO.out, by rw [← EN.out]; exact hlm, k3, (Step2.grown A B HGW.out).trans k4⟩
      clear k1 k2 k3 k4 HCUT
      go_wp2
      go_ret
      exact ⟨rfl, HE.out⟩
end Go.Proofs.YtgpgkpciajajcaaGreatDoor

/- Package kv: Get. -/
namespace Go.Proofs.YtgpgkpciajajcaaGreatDoor
open Go.RowKit Go.Maps Go.Sort
set_option linter.unusedVariables false
set_option maxRecDepth 20000

theorem conv_textC (w : World) (s : ByteArray) : ∃ C w2, (convert 9 37 (.string s)).run Tryz.prog w = .ok (.slice (some ⟨w.heap.size, 0, none⟩) s.size C) w2 ∧ Rd w2 (some ⟨w.heap.size, 0, none⟩) (sInts s) ∧ s.size ≤ C ∧ w.grownBy w2 none := by
  refine ⟨_, _, Go.Lib.run_convert_string_bytes w 9 37 5 s Tryz.underlying9 Tryz.underlying37 Tryz.underlying5, ⟨.inr ⟨w.heap.size, 0, rfl, fun i hi => ?_⟩, sInts_byte s⟩, grownCap_ge w s.size 0 5, ?_⟩
  · rw [sInts_len] at hi
    rw [Nat.zero_add, Go.Lib.bytesWorld_cell w 5 s i hi]
    simp [sInts, List.getD_eq_getElem?_getD, hi]
  · exact ⟨rfl, rfl, rfl, by rw [Go.Lib.bytesWorld_size]; omega, fun k hk _ => Go.Lib.bytesWorld_at_old w 5 s k hk⟩
set_option maxHeartbeats 4000000 in
theorem k_get {w : World} {base d mb n m : Nat} {x : DSt} {B : Nat → Prop} {F : ByteArray → Option Reg} (sb mr : Nat) (x0 : Value) (k : ByteArray) (h : DS w base d mb n x B) (hon : x.off = false) (hs : TriAt w sb x0 (.pointer (some ⟨d, 0, none⟩)) (.map (some mr))) (hm : RegIs w mr m F) (hk : kB k = true) :
    Calls Tryz.prog 20 #[.pointer (some ⟨sb, 0, none⟩), .string k] w fun e w' => ∃ a C, e = .returned (.tuple #[.slice (some a) ((F k).getD reg0).2.size C, .int .u64 (((F k).getD reg0).1 : Int), .int .i64 0]) ∧ Rd w' (some a) (sInts ((F k).getD reg0).2) ∧ ((F k).getD reg0).2.size ≤ C ∧ w.heap.size ≤ a.block ∧ w.grownBy w' none := by
  have HF := k_find sb mr x0 k h hon hs hm hk
  unfold regV regV0 at HF
  generalize ((F k).getD reg0).1 = rv at HF ⊢
  generalize ((F k).getD reg0).2 = rd at HF ⊢
  have HF' : Hid (Calls Tryz.prog 41 #[.pointer (some ⟨sb, 0, none⟩), .string k] w fun e w' => e = .returned (.tuple #[.agg #[.int .u64 (rv : Int), .string rd], .int .i64 0]) ∧ w.grownBy w' none) := HF
  clear h hon hs hm hk HF
  go_enter Tryz.func20, Tryz.ntmps20
  go_wp2_with fail
  refine HF'.out.mono ?_
  rintro e w1 ⟨rfl, hg⟩
  obtain ⟨W1, eW1⟩ : ∃ W1, W1 = w1.alloc (.cells #[.int .u64 (rv : Int), .string rd] 90) := ⟨_, rfl⟩
  have HB : RgAt W1 w1.heap.size (.int .u64 (rv : Int)) (.string rd) := by rw [eW1]; exact RgAt.new w1 _ _
  have HG1 : Hid (w.grownBy W1 none) := by show w.grownBy W1 none; rw [eW1]; exact hg.trans (World.grownBy_alloc w1 _ none)
  have HBH : Hid (RgAt W1 w1.heap.size (.int .u64 (rv : Int)) (.string rd)) := HB
  clear hg HF'
  go_upto_region 4 with fail
  rw [← eW1]
  have c0 := HB.c0
  have c1 := HB.c1
  obtain ⟨C, w2, hcv, hrd, hC, hg2⟩ := conv_textC W1.drew rd
  have hgd2 : W1.grownBy w2 none := (gb_drew (World.grownBy.refl W1 none)).trans hg2
  have HR2 : Hid (Rd w2 (some ⟨W1.heap.size, 0, none⟩) (sInts rd) ∧ rd.size ≤ C) := ⟨hrd, hC⟩
  have HG2 : Hid (w.grownBy w2 none) := HG1.out.trans hgd2
  have c0' := (HBH.out.grown hgd2).c0
  have c1' := (HBH.out.grown hgd2).c1
  clear eW1 HB hrd hC hg2 hgd2
  go_region
  all_goals go_wp2
  all_goals go_ret3
  all_goals exact ⟨⟨W1.heap.size, 0, none⟩, C, rfl, HR2.out.1, HR2.out.2, HG1.out.size, HG2.out⟩
end Go.Proofs.YtgpgkpciajajcaaGreatDoor

