/- Several texts in one: Qb, Qc. -/
import Derived.Test.YtgpgkpciajajcaaGreatDoorGaw
/- Package wal: dropOld, where all segments are old. (Printed by mk_drop.py.) -/
namespace Go.Proofs.YtgpgkpciajajcaaGreatDoor
open Go.RowKit Go.Maps Go.Sort
set_option linter.unusedVariables false
set_option maxRecDepth 20000

set_option maxHeartbeats 4000000 in
theorem w_searchAll (base n c : Nat) (a : Option Addr) (segs : List Nat) (x : Nat) (w : World) (h : SOwn intE 3 w base (.slice a n c) n (nI segs)) (hs : segs.Pairwise (· < ·)) (hx : ∀ k ∈ segs, k < x) (hn : n ≤ 4194304) (h0 : n = 0 → a = none ∧ c = 0) :
    Calls Tryz.prog 171 #[.slice a n c, .int .i64 (x : Int)] w fun e w' => ∃ b, e = .returned (.tuple #[.int .i64 (n : Int), .bool b]) ∧ ∃ q, w' = w.drewN q := by
  have hlen := h.len
  rw [nI_len] at hlen
  rcases Nat.eq_zero_or_pos n with hz | hz
  · subst hz
    obtain ⟨rfl, rfl⟩ := h0 rfl
    exact w_searchNil x w
  · obtain ⟨b, off, rfl, hc⟩ := h.rd.at (by rw [nI_len]; omega)
    refine (Tryz.slices_BinarySearch_int b off n c (nI segs) (x : Int) w (by rw [nI_len]; omega) (by omega) (fun j hj => ?_) ?_).mono ?_
    · have := hc j _ 0 _ (List.getElem?_eq_getElem hj) rfl
      rw [show j * intE.size + 0 = j from Nat.mul_one j] at this
      rw [this, List.getD_eq_getElem?_getD, List.getElem?_eq_getElem hj]
      rfl
    · rw [List.take_of_length_le (by rw [nI_len]; omega)]
      unfold nI
      rw [List.pairwise_map]
      exact hs.imp (fun hab => by show (Int.ofNat _) ≤ Int.ofNat _; exact Int.ofNat_le.2 (Nat.le_of_lt hab))
    · rintro e w' ⟨rfl, q, rfl⟩
      refine ⟨(nI segs).contains (x : Int), ?_, q, rfl⟩
      rw [List.take_of_length_le (by rw [nI_len]; omega)]
      have : (nI segs).countP (fun z => decide (z < (x : Int))) = n := by
        rw [← hlen, ← nI_len segs, List.countP_eq_length]
        intro z hz
        obtain ⟨k, hk, rfl⟩ := List.mem_map.1 hz
        have := hx k hk
        simp
        omega
      rw [this]
theorem tail75e (w : World) (a : Option Addr) (M C : Nat) (h : M ≤ C) (hC : C ≤ 9223372036854775807) : ∃ a', (Instr.slice 44 (.slice a M C) (some (.int .i64 (M : Int))) none none).run Tryz.prog w = .ok (.slice a' 0 (C - M)) w ∧ (a' = a ∨ a' = a.map (·.add M)) := by
  rw [run_slice_l w 44 _ M C (by rw [elem75]; exact Tryz.underlying44) .i64 (M : Int) (by omega) (by omega), elem75, Tryz.sizeOf3]
  by_cases hC : C = M
  · subst hC
    exact ⟨a, by simp [sliced, Result.andThen], .inl rfl⟩
  · exact ⟨a.map (·.add M), by cases a <;> simp [sliced, Result.andThen, hC], .inr rfl⟩
set_option maxHeartbeats 8000000 in
theorem w_dropAll (base p d mb n : Nat) (dir : ByteArray) (v : Value) (op : Int) (x : DSt) (B : Nat → Prop) (q : Nat × List (List Int)) (segs : List Nat) (a0 a1 : Option Addr) (k0 k1 base0 b1 : Nat) (dr : Bool) (w : World) (hdir : dirB dir = true) (hds : dir.size ≤ 64) (ht : Tab w) (hk8 : lastN (some q) < 100000000) (h : WRow w p d dir ⟨#[]⟩ v op) (ho0 : SOwn intE 3 w base0 (.slice a0 (cpNums (some q)).length k0) (cpNums (some q)).length (nI (cpNums (some q)))) (ho1 : SOwn intE 3 w b1 (.slice a1 segs.length k1) segs.length (nI segs)) (hsg : segs.Pairwise (· < ·)) (hle : ∀ k ∈ segs, k ≤ q.1) (hn : segs.length ≤ 4194304) (h0 : segs = [] → a1 = none ∧ k1 = 0) (hpb : p < b1) (hd : DS w base d mb n x B) (hok : x.ok) (hdel : DelOk x (segs.map (segN dir))) (hBp : ¬ B p) (lb : Nat) (hBb : ∀ k, lb ≤ k → ¬ B k) (hlb : lb ≤ b1) (hbw : lb ≤ w.heap.size) (hfar : ∀ g, Tryz.prog.globalNamed "internal/strconv.uint64pow10" = some g → ¬ B g) :
    Calls Tryz.prog 151 #[.pointer (some ⟨p, 0, none⟩), FolderV (.slice a0 (cpNums (some q)).length k0) (.slice a1 segs.length k1) dr] w fun e w' => e = .returned (.int .i64 (lastN (some q) : Int)) ∧ ∃ a' n' B', WRow w' p d dir (cpName dir (some q)) (.slice a' 0 (k1 - segs.length)) op ∧ (a' = a1 ∨ a' = a1.map (·.add segs.length)) ∧ n' ≤ n ∧ DS w' base d mb n' (delAll x (segs.map (segN dir))) B' ∧ Kept w w' (fun k => k = p ∨ B k) ∧ (∀ k, k < w.heap.size → B' k → B k) := by
  obtain ⟨L, eL⟩ : ∃ L, L = segs.length := ⟨_, rfl⟩
  have EL : Hid (L = segs.length) := eL
  have hgB : w.grownBy (w.alloc (.cells #[.slice a0 (cpNums (some q)).length k0, .slice a1 L k1, .bool dr] 169)) none := World.grownBy_alloc w _ none
  have HGB : Hid (w.grownBy (w.alloc (.cells #[.slice a0 (cpNums (some q)).length k0, .slice a1 L k1, .bool dr] 169)) none) := hgB
  have hrow := World.rowIs_alloc w #[.slice a0 (cpNums (some q)).length k0, .slice a1 L k1, .bool dr] 169 (lookF (.slice a0 (cpNums (some q)).length k0) (.slice a1 L k1) dr) (three rfl rfl rfl)
  have HROW : Hid ((w.alloc (.cells #[.slice a0 (cpNums (some q)).length k0, .slice a1 L k1, .bool dr] 169)).rowIs w.heap.size 169 3 (lookF (.slice a0 (cpNums (some q)).length k0) (.slice a1 L k1) dr)) := hrow
  have f0 : (w.alloc (.cells #[.slice a0 (cpNums (some q)).length k0, .slice a1 L k1, .bool dr] 169)).cell? ⟨w.heap.size, 0, none⟩ = some (.slice a0 (cpNums (some q)).length k0) := HROW.out.cell (i := 0) (by omega)
  have f1 : (w.alloc (.cells #[.slice a0 (cpNums (some q)).length k0, .slice a1 L k1, .bool dr] 169)).cell? ⟨w.heap.size, 1, none⟩ = some (.slice a1 L k1) := HROW.out.cell (i := 1) (by omega)
  have HW : Hid (WRow (w.alloc (.cells #[.slice a0 (cpNums (some q)).length k0, .slice a1 L k1, .bool dr] 169)) p d dir ⟨#[]⟩ v op) := h.kept hgB (by simp)
  have HPW : Hid (p < w.heap.size) := h.lt
  rw [← eL] at ho1 hn
  have HO1 : Hid (SOwn intE 3 w b1 (.slice a1 L k1) L (nI segs)) := ho1
  have HLK : Hid (L ≤ k1) := (sown_cap ho1).1
  have HCM : Hid (k1 ≤ 9223372036854775807) := by
    show _ ≤ _
    rcases ho1.2 with ⟨h', _⟩ | ⟨g, cap, cur, h', _, _, _, k4, _⟩
    · injection h' with _ _ e
      omega
    · injection h' with _ _ e
      unfold maxLen at k4
      omega
  have HS : Hid (∀ W : World, w.grownBy W (some p) → Calls Tryz.prog 171 #[.slice a1 L k1, .int .i64 ((lastN (some q) : Int) + 1)] W fun e w' => ∃ b, e = .returned (.tuple #[.int .i64 (L : Int), .bool b]) ∧ ∃ q, w' = W.drewN q) := fun W hg => by
    have := w_searchAll b1 L k1 a1 segs (lastN (some q) + 1) W (SOwn.kept ho1 hg (.inr (fun e => by have := (ho1.block _ e).1; omega))) hsg (fun k hk => Nat.lt_succ_of_le (hle k hk)) hn (fun e => h0 (List.eq_nil_of_length_eq_zero (by rw [← eL]; exact e)))
    exact this
  have hsl0 : ∀ W : World, (Instr.slice 44 (.slice a1 L k1) none (some (.int .i64 (L : Int))) none).run Tryz.prog W = .ok (.slice a1 L k1) W := fun W => head75n W a1 L k1 L HLK.out HCM.out
  have HD : Hid (DS w base d mb n x B) := hd
  have HDEL : Hid (DelOk x (segs.map (segN dir))) := hdel
  have HBP : Hid (¬ B p) := hBp
  have HBB : Hid (∀ k, lb ≤ k → ¬ B k) := hBb
  have HFAR : Hid (∀ g, Tryz.prog.globalNamed "internal/strconv.uint64pow10" = some g → ¬ B g) := hfar
  have HT : Hid (Tab w) := ht
  have HWW : Hid (WRow w p d dir ⟨#[]⟩ v op) := h
  have HDIR : Hid (dirB dir = true) := hdir
  have HD0 := fun w => w_done0 w
  have HS8 : Hid (∀ k ∈ segs, k < 100000000) := fun k hk => Nat.lt_of_le_of_lt (hle k hk) hk8
  clear hd hdel hBp hBb hfar hdir
  rw [← eL]
  unfold FolderV
  clear h ho1 hsg hle h0 eL hgB hrow
  go_enter Tryz.func151, Tryz.ntmps151
  go_upto_if 17 with fail
  go_cut [5] from 6 (fun t5 wc => t5 = .int .i64 (lastN (some q) : Int) ∧ WRow wc p d dir (cpName dir (some q)) v op ∧ wc.cell? ⟨w.heap.size, 1, none⟩ = some (.slice a1 L k1) ∧ w.grownBy wc (some p))
  case first =>
    obtain ⟨b, off, rfl, hcell⟩ := nI_cell ho0.rd (l := cpNums (some q)) (i := 0) (k := q.1) rfl
    have hcell' := HGB.out.cell hcell (by simp)
    have hslc : ∀ W : World, (Instr.slice 44 (.slice (some ⟨b, off, none⟩) (cpNums (some q)).length k0) none (some (.int .i64 0)) none).run Tryz.prog W = .ok (.slice (some ⟨b, off, none⟩) 0 k0) W := fun W => head75 W _ _ k0
    rw [show (cpNums (some q)).length = 1 from rfl] at *
    rw [show decide (0 < 1) = true from rfl]
    have HCN : Hid (Calls Tryz.prog 139 #[.pointer (some ⟨p, 0, none⟩), .int .i64 (q.1 : Int)] (w.alloc (.cells #[.slice (some ⟨b, off, none⟩) 1 k0, .slice a1 L k1, .bool dr] 169)) fun e w' => e = .returned (.string (cpN dir q.1)) ∧ (w.alloc (.cells #[.slice (some ⟨b, off, none⟩) 1 k0, .slice a1 L k1, .bool dr] 169)).grownBy w' none) := w_cpoint p d dir ⟨#[]⟩ v op q.1 hk8 _ hds (ht.grown HGB.out) HW.out
    simp only [Nat.add_zero] at hcell'
    go_wp2_with fail
    refine HCN.out.mono ?_
    rintro e w2 ⟨rfl, hg2⟩
    have hW2 := HW.out.kept hg2 (by simp)
    have z2 := hW2.frozen 2
    have y2 : w2.cell? ⟨p, 2, none⟩ = some (.string ⟨#[]⟩) := hW2.cells.2.2.1
    have hr2 := HROW.out.of_block (hg2.block _ HROW.out.lt (by simp))
    have hr3 := hr2.setOther (a := ⟨p, 2, none⟩) (by have := HPW.out; show w.heap.size ≠ p; omega) (.string (cpN dir q.1))
    have g0 : (w2.setCell ⟨p, 2, none⟩ (.string (cpN dir q.1))).cell? ⟨w.heap.size, 0, none⟩ = some (.slice (some ⟨b, off, none⟩) 1 k0) := hr3.cell (i := 0) (by omega)
    have g1 : (w2.setCell ⟨p, 2, none⟩ (.string (cpN dir q.1))).cell? ⟨w.heap.size, 1, none⟩ = some (.slice a1 L k1) := hr3.cell (i := 1) (by omega)
    have HW3 : Hid (WRow (w2.setCell ⟨p, 2, none⟩ (.string (cpN dir q.1))) p d dir (cpN dir q.1) v op) := (hW2.set 2 (.string (cpN dir q.1))).congr (five rfl rfl rfl rfl rfl)
    have HG3 : Hid (w.grownBy (w2.setCell ⟨p, 2, none⟩ (.string (cpN dir q.1))) (some p)) := gb_trans (gb_any (HGB.out.trans hg2) _) (gb_set rfl) (fun k hk => .inr hk)
    clear hg2 hW2 hr2 hr3
    go_wp2_with fail
    go_loopw [36] (fun t36 wr => t36 = .int .i64 0 ∧ wr = w2.setCell ⟨p, 2, none⟩ (.string (cpN dir q.1))) (fun _ _ => 0)
    case atStart => exact ⟨rfl, rfl⟩
    case round =>
      obtain ⟨rfl, rfl⟩ := hrel
      go_wp2_with fail
      go_meet
      exact ⟨rfl, HW3.out, g1, HG3.out⟩
  case rest =>
    obtain ⟨rfl, hW, f1c, hgc⟩ := hcut
    have HS2 := HS.out wc hgc
    have HWc : Hid (WRow wc p d dir (cpName dir (some q)) v op) := hW
    have HGc : Hid (w.grownBy wc (some p)) := hgc
    clear hW hgc f0 f1
    go_wp2_with fail
    refine HS2.mono ?_
    rintro e w2 ⟨b, rfl, q2, rfl⟩
    obtain ⟨wd, ewd⟩ : ∃ wd, wd = wc.drewN q2 := ⟨_, rfl⟩
    have hgd : wc.grownBy wd none := by rw [ewd]; exact gb_drewN wc q2
    rw [← ewd]
    have f1d : wd.cell? ⟨w.heap.size, 1, none⟩ = some (.slice a1 L k1) := by rw [ewd]; exact f1c
    have hgwd : w.grownBy wd (some p) := gb_trans HGc.out (gb_any hgd _) (fun k hk => .inr hk)
    have HWD : Hid (WRow wd p d dir (cpName dir (some q)) v op) := HWc.out.kept hgd (by simp)
    have HKW : Hid (Kept w wd (fun k => k = p ∨ B k)) := Kept.of hgwd (fun k hk => by cases hk; exact .inl rfl)
    have HOD : Hid (SOwn intE 3 wd b1 (.slice a1 L k1) L (nI segs)) := SOwn.kept HO1.out hgwd (.inr (fun e => by have := (HO1.out.block _ e).1; omega))
    have HDD : Hid (DS wd base d mb n x B) := HD.out.others (Kept.of hgwd (X := fun k => k = p) (fun k hk => by cases hk; rfl)) (fun k hb e => HBP.out (e ▸ hb))
    have HTD : Hid (Tab wd) := HT.out.row HWW.out hgwd
    have HWZ : Hid (w.heap.size < wd.heap.size) := by
      rcases Nat.lt_or_ge w.heap.size wd.heap.size with h2 | h2
      · exact h2
      · exfalso
        unfold World.cell? at f1d
        simp only at f1d
        rw [Array.getElem?_eq_none h2] at f1d
        cases f1d
    clear ewd hgd hgwd
    go_wp2_with fail
    go_loopw [63] (fun t63 wr => ∃ (i n6 : Nat) (B6 : Nat → Prop), i ≤ L ∧ t63 = .int .i64 i ∧ n6 ≤ n ∧ DS wr base d mb n6 (delAll x ((segs.take i).map (segN dir))) B6 ∧ Kept wd wr B ∧ (∀ k, k < wd.heap.size → B6 k → B k)) (fun t63 _ => L - (intOf t63).toNat)
    case atStart => exact ⟨0, n, B, Nat.zero_le _, rfl, Nat.le_refl _, by simpa [delAll] using HDD.out, Kept.refl _ _, fun k _ hb => hb⟩
    case round =>
      obtain ⟨i, n6, B6, hi, rfl, hn6, hd6, hk6, hb6⟩ := hrel
      have HD6 : Hid (DS wr base d mb n6 (delAll x ((segs.take i).map (segN dir))) B6) := hd6
      have HK6 : Hid (Kept wd wr B) := hk6
      have HB6 : Hid (∀ k, k < wd.heap.size → B6 k → B k) := hb6
      have hW6 : WRow wr p d dir (cpName dir (some q)) v op := HWD.out.of_block (hk6.block p HWD.out.lt HBP.out)
      have HW6 : Hid (WRow wr p d dir (cpName dir (some q)) v op) := hW6
      have hO6 := sown_keptK HOD.out hk6 (fun k hk => HBB.out k (Nat.le_trans hlb (HOD.out.block k hk).1))
      have hT6 := HTD.out.keptK hk6 HFAR.out
      have f16 : wr.cell? ⟨w.heap.size, 1, none⟩ = some (.slice a1 L k1) := by
        unfold World.cell? at f1d ⊢
        simp only at f1d ⊢
        rw [hk6.block w.heap.size HWZ.out (HBB.out _ hbw)]
        exact f1d
      clear hd6 hk6 hb6
      by_cases hlt : i < L
      · have hii : (i : Int) < (L : Int) := by omega
        obtain ⟨k, hk⟩ : ∃ k, segs[i]? = some k := ⟨_, List.getElem?_eq_getElem (by rw [← EL.out]; exact hlt)⟩
        have hk8' := HS8.out k (List.mem_of_getElem? hk)
        have htk : (segs.take (i + 1)).map (segN dir) = (segs.take i).map (segN dir) ++ [segN dir k] := by rw [List.take_add_one, hk]; simp
        have HTK : Hid (delAll x ((segs.take (i + 1)).map (segN dir)) = ((delAll x ((segs.take i).map (segN dir))).delete (segN dir k)).2) := by show _ = _; rw [htk, delAll_snoc]
        have hdo : DelOk (delAll x ((segs.take i).map (segN dir))) ((segs.drop i).map (segN dir)) := by
          refine DelOk.app _ _ _ ?_
          rw [← List.map_append, List.take_append_drop]
          exact HDEL.out
        have hdrop : segs.drop i = k :: segs.drop (i + 1) := by
          have h1 : i < segs.length := by rw [← EL.out]; exact hlt
          rw [List.drop_eq_getElem_cons h1]
          congr 1
          rw [List.getElem?_eq_getElem h1] at hk
          exact Option.some.inj hk
        rw [hdrop] at hdo
        obtain ⟨d1, d2, d3, _⟩ := hdo
        obtain ⟨b7, off7, rfl, hcell⟩ := nI_cell hO6.rd (l := segs) (i := i) (k := k) hk
        have x0 := hW6.cells.1
        have HGD : Hid (wr.grownBy wr.drew none) := gb_drew (World.grownBy.refl _ _)
        have HSG : Hid (Calls Tryz.prog 105 #[.pointer (some ⟨p, 0, none⟩), .int .i64 (k : Int)] wr.drew fun e w' => e = .returned (.string (segN dir k)) ∧ wr.drew.grownBy w' none) := w_segment p d dir (cpName dir (some q)) _ _ k hk8' _ hds (hT6.grown HGD.out) (hW6.kept HGD.out (by simp))
        have HDL : Hid (∀ w1, wr.grownBy w1 none → Calls Tryz.prog 141 #[.pointer (some ⟨d, 0, none⟩), .string (segN dir k)] w1 fun e w' => e = .returned (.int .i64 0) ∧ ∃ n' B', n' ≤ n6 ∧ DS w' base d mb n' (delAll x ((segs.take (i + 1)).map (segN dir))) B' ∧ Step wr w' B6 B' ∧ w'.cell? ⟨p, 0, none⟩ = some (.pointer (some ⟨d, 0, none⟩))) := fun w1 hg => by
          rw [HTK.out]
          refine (x_deleteN base d mb n6 _ B6 (segN dir k) w1 (DV.kept HD6.out hg) d2 d3).mono ?_
          rintro e w' ⟨rfl, n', B', hn', hd', hst⟩
          have hst' : Step wr w' B6 B' := (Step.grown B6 hg).trans hst
          refine ⟨by rw [d1], n', B', hn', hd', hst', ?_⟩
          have hW' : WRow w' p d dir (cpName dir (some q)) v op := HW6.out.of_block (hst'.1.block p HW6.out.lt (fun hb => HBP.out (HB6.out p HWD.out.lt hb)))
          exact hW'.cells.1
        clear hW6 hO6 hT6 htk hdrop d1 d2 d3 hk8' hk HTK
        go_wp2_with fail
        go_region_held3 (fun W => W.cell? ⟨p, 0, none⟩ = some (.pointer (some ⟨d, 0, none⟩))) (go_keep) (first
          | (go_at_call 105; refine HSG.out.mono ?_; rintro e w1 ⟨rfl, hg1⟩; have HG1 : Hid (wr.grownBy w1 none) := HGD.out.trans hg1; have x0' : w1.cell? ⟨p, 0, none⟩ = some (.pointer (some ⟨d, 0, none⟩)) := HG1.out.cell x0 (by simp); clear hg1)
          | (go_at_call 141; refine (HDL.out _ HG1.out).mono ?_; rintro e w5 ⟨rfl, n5, B5, hn5, hd5, hs5, x05⟩; have HD5 : Hid (DS w5 base d mb n5 (delAll x ((segs.take (i + 1)).map (segN dir))) B5) := hd5; have HS5 : Hid (Step wr w5 B6 B5) := hs5; clear hd5 hs5)
          | (go_at_call 103; refine (HD0 _).mono ?_; rintro e w6 ⟨rfl, rfl⟩))
        go_wp2
        go_roundw
        case rel => exact ⟨i + 1, n5, B5, by omega, by go_num, by omega, HD5.out, HK6.out.trans HS5.out.1 (fun k hk hb => HB6.out k hk hb), fun k hk hb => HB6.out k hk (HS5.out.2 k (Nat.lt_of_lt_of_le hk HK6.out.size) hb)⟩
        case measure => simp [intOf]; omega
      · have hii : ¬ (i : Int) < (L : Int) := by omega
        have hiL : i = L := by omega
        obtain ⟨a', hsl1, ha'⟩ := tail75e wr a1 L k1 HLK.out HCM.out
        have y3 := hW6.cells.2.2.2.1
        have z3 := hW6.frozen 3
        have hg3 : wr.grownBy (wr.setCell ⟨p, 3, none⟩ (.slice a' 0 (k1 - L))) (some p) := gb_set rfl
        have hk3 : Kept wr (wr.setCell ⟨p, 3, none⟩ (.slice a' 0 (k1 - L))) (fun k => k = p) := Kept.of hg3 (fun k hk => by cases hk; rfl)
        have HFIN : Hid (∃ a'' n' B', WRow (wr.setCell ⟨p, 3, none⟩ (.slice a' 0 (k1 - L))) p d dir (cpName dir (some q)) (.slice a'' 0 (k1 - L)) op ∧ (a'' = a1 ∨ a'' = a1.map (·.add L)) ∧ n' ≤ n ∧ DS (wr.setCell ⟨p, 3, none⟩ (.slice a' 0 (k1 - L))) base d mb n' (delAll x (segs.map (segN dir))) B' ∧ Kept w (wr.setCell ⟨p, 3, none⟩ (.slice a' 0 (k1 - L))) (fun k => k = p ∨ B k) ∧ (∀ k, k < w.heap.size → B' k → B k)) := by
          have hd := HD6.out
          rw [hiL, List.take_of_length_le (by rw [← EL.out]; exact Nat.le_refl _)] at hd
          exact ⟨a', n6, B6, (hW6.set 3 (.slice a' 0 (k1 - L))).congr (five rfl rfl rfl rfl rfl), ha', hn6, hd.others hk3 (fun k hb e => HBP.out (e ▸ HB6.out k (e ▸ HWD.out.lt) hb)), (HKW.out.trans HK6.out (fun k _ hb => .inr hb)).trans hk3 (fun k _ e => .inl e), fun k hk hb => HB6.out k (Nat.lt_of_lt_of_le hk HKW.out.size) hb⟩
        clear hW6 hO6 hT6 hg3 hk3 ha'
        go_wp2
        go_ret
        obtain ⟨a2, n2, B2, g1, g2, g3, g4, g5, g6⟩ := HFIN.out
        exact ⟨rfl, a2, g1, g2, n2, g3, B2, g4, g5, g6⟩
end Go.Proofs.YtgpgkpciajajcaaGreatDoor

/- Package wal: mend, where a checkpoint stands with old segments. -/
namespace Go.Proofs.YtgpgkpciajajcaaGreatDoor
open Go.RowKit Go.Maps Go.Sort
set_option linter.unusedVariables false
set_option maxRecDepth 20000

/-- A folder with a whole checkpoint, and segments of numbers up to its own. -/
structure OldLog (V : Cont) (dir : ByteArray) (q : Nat × List (List Int)) (segs : List Nat) : Prop where
  folder : Folder V dir [q.1] false segs
  cp : CpIs V dir (cpN dir q.1) (some q)
  pos : ∀ k ∈ segs, 0 < k
  le : ∀ k ∈ segs, k ≤ q.1
/-- What mend has made of it: no segment is left; the slice of their numbers is empty. -/
def OldMend (base d mb n : Nat) (x' : DSt) (dir : ByteArray) (q : Nat × List (List Int)) (B : Nat → Prop) (W : World) (p : Nat) (v : Sl) (w' : World) : Prop := ∃ (m n' : Nat) (B' : Nat → Prop) (lo : Nat) (a' : Option Addr) (c' : Nat), RecsLo lo w' (slV v) m q.2 ∧ n' ≤ n ∧ DS w' base d mb n' x' B' ∧ WRow w' p d dir (cpN dir q.1) (.slice a' 0 c') ((q.1 + 1 : Nat) : Int) ∧ (∀ y, a' = some y → W.heap.size ≤ y.block ∧ y.block < lo ∧ ¬ B' y.block ∧ y.spot = none ∧ ∃ cur, w'.heap[y.block]? = some (.cells cur 3 (0, 0)) ∧ y.off + c' ≤ cur.size) ∧ (a' = none → c' = 0) ∧ c' ≤ 9223372036854775807 ∧ Kept W w' (fun k => k = p ∨ B k) ∧ (∀ k, k < W.heap.size → B' k → B k) ∧ W.heap.size ≤ lo ∧ ∀ k, B' k → k < lo
theorem tail_facts {w : World} {b1 L k1 : Nat} {a1 : Option Addr} {l : List Int} (h : SOwn intE 3 w b1 (.slice a1 L k1) L l) {a' : Option Addr} (ha : a' = a1 ∨ a' = a1.map (·.add L)) : (∀ y, a' = some y → b1 ≤ y.block ∧ y.block < w.heap.size ∧ y.spot = none ∧ ∃ cur, w.heap[y.block]? = some (.cells cur 3 (0, 0)) ∧ y.off + (k1 - L) ≤ cur.size) ∧ (a' = none → k1 - L = 0) ∧ k1 - L ≤ 9223372036854775807 := by
  rcases h.2 with ⟨h', h0⟩ | ⟨g, cap, cur, h', g1, g2, g3, g4, g5, g6⟩
  · injection h' with e1 e2 e3
    subst e1 e3
    have e : a' = none := by rcases ha with e | e <;> exact e
    subst e
    exact ⟨fun y hy => (by cases hy), fun _ => by omega, by omega⟩
  · injection h' with e1 e2 e3
    subst e1 e3
    have hlt : g < w.heap.size := (Array.getElem?_eq_some_iff.1 g2).1
    unfold maxLen at g4
    have hsz : cur.size = k1 := by rw [g5]; exact Nat.mul_one _
    refine ⟨fun y hy => ?_, fun e => ?_, by omega⟩
    · rcases ha with e | e
      · rw [e] at hy
        cases hy
        exact ⟨g1, hlt, rfl, cur, g2, by show 0 + _ ≤ _; omega⟩
      · rw [e] at hy
        have e2 : y = ⟨g, L, none⟩ := by
          have h3 := Option.some.inj hy
          rw [← h3]
          simp [Addr.add]
          intro h
          exact h.symm
        subst e2
        exact ⟨g1, hlt, rfl, cur, g2, by show L + _ ≤ _; omega⟩
    · rcases ha with e' | e' <;> rw [e'] at e <;> cases e
set_option maxHeartbeats 16000000 in
theorem w_mendB (base d mb n : Nat) (dir : ByteArray) (x : DSt) (B : Nat → Prop) (q : Nat × List (List Int)) (segs : List Nat) (w W0 : World) (p : Nat) (hdir : dirB dir = true) (ht : Tab W0) (hMI : MendIn w W0 p d dir) (hd : DS W0 base d mb n x B) (hlp : ∀ k, B k → k < p) (hcalm : x.Calm) (hn : n < 1048576) (hlog : OldLog x.V dir q segs) (hdel : DelOk x (segs.map (segN dir))) (hcp2 : CpIs (delAll x (segs.map (segN dir))).V dir (cpN dir q.1) (some q)) (hon2 : (delAll x (segs.map (segN dir))).off = false) (hfar : ∀ g, Tryz.prog.globalNamed "internal/strconv.uint64pow10" = some g → ¬ B g ∧ g ≠ p) (hsz : q.2.length ≤ 4194304) (hln : segs.length ≤ 4194304) :
    Calls Tryz.prog 121 #[.pointer (some ⟨p, 0, none⟩)] W0 fun e w' => ∃ v : Sl, e = .returned (slV v) ∧ OldMend base d mb n (delAll x (segs.map (segN dir))) dir q B W0 p v w' ∧ ∀ k, p < k → k < W0.heap.size → w'.heap[k]? = W0.heap[k]? := by
  have h := hMI.row
  have hon := hcalm.on
  have hltB : ∀ k, B k → k < W0.heap.size := fun k hk => Nat.lt_trans (hlp k hk) h.lt
  have hBp : ¬ B p := fun hk => Nat.lt_irrefl _ (hlp p hk)
  have hds : dir.size ≤ 32 := by simp only [dirB, Bool.and_eq_true, decide_eq_true_eq] at hdir; exact hdir.2
  have hq8 : q.1 < 100000000 := hlog.cp.2.2.2
  have HLK : Hid (Calls Tryz.prog 149 #[.pointer (some ⟨p, 0, none⟩)] W0 (LookOut W0 [q.1] segs false)) := w_look base p d mb n dir ⟨#[]⟩ (.slice none 0 0) 0 x B [q.1] segs false W0 hdir h hd hon hlog.folder (by omega) hlog.pos
  have HW : Hid (WRow W0 p d dir ⟨#[]⟩ (.slice none 0 0) 0) := h
  have HD : Hid (DS W0 base d mb n x B) := hd
  have HT : Hid (Tab W0) := ht
  have HB : Hid (¬ B p) := hBp
  have HLTB : Hid (∀ k, B k → k < W0.heap.size) := hltB
  have HLP : Hid (∀ k, B k → k < p) := hlp
  have HDIR : Hid (dirB dir = true) := hdir
  have HLOG : Hid (OldLog x.V dir q segs) := hlog
  have HCALM : Hid x.Calm := hcalm
  have HDEL : Hid (DelOk x (segs.map (segN dir))) := hdel
  have HCP2 : Hid (CpIs (delAll x (segs.map (segN dir))).V dir (cpN dir q.1) (some q)) := hcp2
  have HFAR : Hid (∀ g, Tryz.prog.globalNamed "internal/strconv.uint64pow10" = some g → ¬ B g ∧ g ≠ p) := hfar
  clear h hd ht hBp hdir hlog hltB hlp hcalm hdel hcp2 hfar hMI
  go_enter Tryz.func121, Tryz.ntmps121
  go_wp2_with fail
  refine HLK.out.mono ?_
  rintro e w1 ⟨a0, k0, a1, k1, b1, rfl, ho0, ho1, hb0, hb1, hg1, hnil⟩
  have hga : w1.grownBy (w1.alloc (.cells #[.slice a0 1 k0, .slice a1 segs.length k1, .bool false] 169)) none := World.grownBy_alloc w1 _ none
  have hgw := hg1.trans hga
  have HGW : Hid (W0.grownBy (w1.alloc (.cells #[.slice a0 1 k0, .slice a1 segs.length k1, .bool false] 169)) none) := hgw
  have hpb : p < b1 := Nat.lt_of_lt_of_le HW.out.lt hb1
  have hs1 : SOwn intE 3 (w1.alloc (.cells #[.slice a0 1 k0, .slice a1 segs.length k1, .bool false] 169)) b1 (.slice a1 segs.length k1) segs.length (nI segs) := SOwn.kept ho1 hga (by cases a1 <;> simp [Value.ownBlock])
  have hs0 : SOwn intE 3 (w1.alloc (.cells #[.slice a0 1 k0, .slice a1 segs.length k1, .bool false] 169)) W0.heap.size (.slice a0 1 k0) 1 (nI [q.1]) := SOwn.kept ho0 hga (by cases a0 <;> simp [Value.ownBlock])
  obtain ⟨wA, ewA⟩ : ∃ wA, wA = w1.alloc (.cells #[.slice a0 1 k0, .slice a1 segs.length k1, .bool false] 169) := ⟨_, rfl⟩
  have HEA : Hid (wA = w1.alloc (.cells #[.slice a0 1 k0, .slice a1 segs.length k1, .bool false] 169)) := ewA
  have hza : wA.heap.size = w1.heap.size + 1 := by rw [ewA]; exact Array.size_push _
  rw [← ewA] at hga hgw hs1 hs0 HGW
  have hdo := w_dropAll base p d mb n dir (.slice none 0 0) 0 x B q segs a0 a1 k0 k1 W0.heap.size b1 false wA HDIR.out (by omega) (HT.out.grown hgw) hq8 (HW.out.kept hgw (by simp)) hs0 hs1 HLOG.out.folder.segr.1 HLOG.out.le hln hnil hpb (DV.kept HD.out hgw) HCALM.out.ok HDEL.out HB.out W0.heap.size (fun k hk hb => by have := HLTB.out k hb; omega) hb1 hgw.size (fun g hg => (HFAR.out g hg).1)
  have HO1 : Hid (SOwn intE 3 wA b1 (.slice a1 segs.length k1) segs.length (nI segs)) := hs1
  have HWW : Hid (WRow wA p d dir ⟨#[]⟩ (.slice none 0 0) 0) := HW.out.kept hgw (by simp)
  clear ho0 ho1 hb0 hg1 hnil HLK hga hgw hs1 hs0 ewA
  unfold FolderV at hdo ⊢
  go_wp2_with fail
  rw [← HEA.out]
  refine hdo.mono ?_
  rintro e w3 ⟨rfl, a', n3, B3, hW3, ha', hn3, hd3, hk3, hb3⟩
  have hnB : ∀ k, W0.heap.size ≤ k → ¬ B k := fun k hk hb => by have := HLTB.out k hb; omega
  have hnX : ∀ k, b1 ≤ k → ¬ (k = p ∨ B k) := fun k hk hX => hX.elim (fun e => by omega) (hnB k (Nat.le_trans hb1 hk))
  obtain ⟨t1, t2, t3⟩ := tail_facts (sown_keptK HO1.out hk3 (fun k hk => hnX k (HO1.out.block k hk).1)) ha'
  have hT3 : Tab w3 := (HT.out.grown HGW.out).keptK hk3 (fun g hg hX => hX.elim (HFAR.out g hg).2 (HFAR.out g hg).1)
  have HRA : Hid (Calls Tryz.prog 152 #[.pointer (some ⟨p, 0, none⟩)] w3 (AllOut w3 (cpRecs (some q) ++ recsOf []))) := w_replayAll base p d mb n3 dir (cpName dir (some q)) a' (k1 - segs.length) 0 (delAll x (segs.map (segN dir))) B3 (some q) [] w3 HDIR.out hT3 hW3 (.inl rfl) hd3 hon2 HCP2.out (fun q hq => by cases hq) (by show (q.2 ++ ([] : List (List Int))).length ≤ _; rw [List.append_nil]; exact hsz) (by decide)
  have HW3 : Hid (WRow w3 p d dir (cpName dir (some q)) (.slice a' 0 (k1 - segs.length)) 0) := hW3
  have hd3 := DS.bound hd3
  have hb3 : ∀ k, k < wA.heap.size → (B3 k ∧ k < w3.heap.size) → B k := fun k hk hb => hb3 k hk hb.1
  obtain ⟨B4, eB4⟩ : ∃ B4 : Nat → Prop, B4 = fun k => B3 k ∧ k < w3.heap.size := ⟨_, rfl⟩
  have HLT4 : Hid (∀ k, B4 k → k < w3.heap.size) := by show ∀ k, _; rw [eB4]; exact fun k hk => hk.2
  rw [← eB4] at hd3
  have hb3 : ∀ k, k < wA.heap.size → B4 k → B k := by rw [eB4]; exact hb3
  clear eB4
  have HD3 : Hid (DS w3 base d mb n3 (delAll x (segs.map (segN dir))) B4) := hd3
  have HK3 : Hid (Kept W0 w3 (fun k => k = p ∨ B k)) := (Kept.of HGW.out (X := fun k => k = p ∨ B k) (fun k hk => by cases hk)).trans hk3 (fun k _ hX => hX)
  have HB4 : Hid (∀ k, k < W0.heap.size → B4 k → B k) := fun k hk hb => hb3 k (Nat.lt_of_lt_of_le hk HGW.out.size) hb
  have HT1 : Hid (∀ y, a' = some y → b1 ≤ y.block ∧ y.block < w3.heap.size ∧ y.spot = none ∧ ∃ cur, w3.heap[y.block]? = some (.cells cur 3 (0, 0)) ∧ y.off + (k1 - segs.length) ≤ cur.size) := t1
  have HTB : Hid (∀ y, a' = some y → ¬ B4 y.block) := fun y hy hb => by
    obtain ⟨u1, u2, _⟩ := (tail_facts HO1.out ha').1 y hy
    exact hnB y.block (Nat.le_trans hb1 u1) (hb3 y.block u2 hb)
  have HT2 : Hid (a' = none → k1 - segs.length = 0) := t2
  obtain ⟨C, eC⟩ : ∃ C, C = k1 - segs.length := ⟨_, rfl⟩
  rw [← eC] at HW3 HT1 HT2 t3
  clear hdo hW3 hd3 hk3 hb3 t1 t2 hT3 hnX hnB ha' HO1 HWW eC
  go_wp2_with fail
  refine HRA.out.mono ?_
  rintro e w4 ⟨rv, rfl, hA4⟩
  obtain ⟨m, hro⟩ := hA4.out
  have hg4 := hA4.grown
  have hW4 := HW3.out.kept hg4 (by simp)
  have y4 := hW4.cells.2.2.2.2
  have z4 := hW4.frozen 4
  have y3 := hW4.cells.2.2.2.1
  have q5 : -9223372036854775808 ≤ (q.1 : Int) + 1 ∧ (q.1 : Int) + 1 ≤ 9223372036854775807 := by omega
  have hg5 : w4.grownBy (w4.setCell ⟨p, 4, none⟩ (.int .i64 ((q.1 : Int) + 1))) (some p) := gb_set rfl
  have hk5 : Kept w4 (w4.setCell ⟨p, 4, none⟩ (.int .i64 ((q.1 : Int) + 1))) (fun k => k = p) := Kept.of hg5 (fun k hk => by cases hk; rfl)
  have hW5 : WRow (w4.setCell ⟨p, 4, none⟩ (.int .i64 ((q.1 : Int) + 1))) p d dir (cpN dir q.1) (.slice a' 0 C) ((q.1 + 1 : Nat) : Int) := (hW4.set 4 (.int .i64 ((q.1 : Int) + 1))).congr (five rfl rfl rfl rfl rfl)
  have y5 := hW5.cells.2.2.2.1
  have hp3 : p < w3.heap.size := HW3.out.lt
  have HFIN : Hid (OldMend base d mb n (delAll x (segs.map (segN dir))) dir q B W0 p rv (w4.setCell ⟨p, 4, none⟩ (.int .i64 ((q.1 : Int) + 1))) ∧ ∀ j, p < j → j < W0.heap.size → (w4.setCell ⟨p, 4, none⟩ (.int .i64 ((q.1 : Int) + 1))).heap[j]? = W0.heap[j]?) := by
    have hk35 : Kept w3 (w4.setCell ⟨p, 4, none⟩ (.int .i64 ((q.1 : Int) + 1))) (fun k => k = p) := (Kept.of hg4 (X := fun k => k = p) (fun k hk => by cases hk)).trans hk5 (fun k _ e => e)
    have hd4 : DS w4 base d mb n3 (delAll x (segs.map (segN dir))) B4 := DV.kept HD3.out hg4
    have hk05 := HK3.out.trans hk35 (fun k _ e => .inl e)
    have hro' : RecsOut w3 w4 (slV rv) m q.2 := by
      have e : cpRecs (some q) ++ recsOf [] = q.2 := List.append_nil _
      rw [e] at hro
      exact hro
    obtain ⟨ts, r1, r2, r3, r4⟩ := hro'.keptK hk5 (fun j hj e => by omega)
    refine ⟨⟨m, n3, B4, w3.heap.size, a', C, ⟨ts, r1, r2, r3, r4⟩, hn3, hd4.others hk5 (fun k hb e => HB.out (HB4.out k (by rw [e]; exact HW.out.lt) hb |> fun h => e ▸ h)), hW5, fun y hy => ?_, HT2.out, t3, hk05, HB4.out, HK3.out.size, HLT4.out⟩, fun j h1 h2 => hk05.block j h2 (fun hX => hX.elim (fun e => by omega) (fun hb => by have := HLP.out j hb; omega))⟩
    obtain ⟨u1, u2, u3, cur, u4, u5⟩ := HT1.out y hy
    exact ⟨Nat.le_trans hb1 u1, u2, HTB.out y hy, u3, cur, by rw [hk35.block y.block u2 (fun e => by omega)]; exact u4, u5⟩
  have e0 : (lastN (some q) : Int) = (q.1 : Int) := rfl
  rw [e0]
  clear hro hA4 hg4 hW4 hg5 hk5 hW5 HRA
  go_wp2
  go_ret
  exact ⟨rv, rfl, HFIN.out.1, HFIN.out.2⟩
end Go.Proofs.YtgpgkpciajajcaaGreatDoor

