/- Several texts in one: Wo, We, Wc, Wp, Dk24. -/
import Derived.Test.YtgpgkpciajajcaaGreatDoorGal
import Derived.Test.YtgpgkpciajajcaaGreatDoorGaf
/- Package wal: dropOld, where nothing is old. -/
namespace Go.Proofs.YtgpgkpciajajcaaGreatDoor
open Go.RowKit Go.Maps Go.Sort
set_option linter.unusedVariables false
set_option maxRecDepth 20000

theorem elem75 : Tryz.prog.elem 44 = 3 := by simp [Program.elem, Tryz.underlying44]
theorem head75 (w : World) (a : Option Addr) (M C : Nat) : (Instr.slice 44 (.slice a M C) none (some (.int .i64 0)) none).run Tryz.prog w = .ok (.slice a 0 C) w := by
  rw [run_slice_h w 44 _ M C (by rw [elem75]; exact Tryz.underlying44) .i64 0 (by omega) (by omega), elem75, Tryz.sizeOf3]
  cases a with
  | none => simp [sliced, Result.andThen]
  | some y => simp [sliced, Result.andThen, Addr.add]
theorem tail75 (w : World) (a : Option Addr) (M C : Nat) (h : M ≤ C) : (Instr.slice 44 (.slice a M C) (some (.int .i64 0)) none none).run Tryz.prog w = .ok (.slice a M C) w := by
  rw [run_slice_l w 44 _ M C (by rw [elem75]; exact Tryz.underlying44) .i64 0 (by omega) (by omega), elem75, Tryz.sizeOf3]
  cases a with
  | none => simp [sliced, Result.andThen]
  | some y => simp [sliced, Result.andThen, Addr.add]
theorem w_searchNil (x : Int) (w : World) : Calls Tryz.prog 171 #[.slice none 0 0, .int .i64 x] w fun e w' => ∃ b, e = .returned (.tuple #[.int .i64 0, .bool b]) ∧ ∃ q, w' = w.drewN q := by
  go_enter Tryz.func171, Tryz.ntmps171
  go_wp2
  go_loopw [7, 8] (fun t7 t8 wr => t7 = .int .i64 0 ∧ t8 = .int .i64 0 ∧ wr = w) (fun _ _ _ => 0)
  case atStart => exact ⟨rfl, rfl, rfl⟩
  case round =>
    obtain ⟨rfl, rfl, rfl⟩ := hrel
    go_wp2
    go_ret2
    exact ⟨_, rfl, 0, rfl⟩
theorem w_search (base n c : Nat) (a : Option Addr) (segs : List Nat) (x : Nat) (w : World) (h : SOwn intE 3 w base (.slice a n c) n (nI segs)) (hs : segs.Pairwise (· < ·)) (hx : ∀ k ∈ segs, x ≤ k) (hn : n ≤ 4194304) (h0 : n = 0 → a = none ∧ c = 0) :
    Calls Tryz.prog 171 #[.slice a n c, .int .i64 (x : Int)] w fun e w' => ∃ b, e = .returned (.tuple #[.int .i64 0, .bool b]) ∧ ∃ q, w' = w.drewN q := by
  have hlen := h.len
  rw [nI_len] at hlen
  rcases Nat.eq_zero_or_pos n with hz | hz
  · subst hz
    obtain ⟨rfl, rfl⟩ := h0 rfl
    exact w_searchNil x w
  · obtain ⟨b, off, rfl, hc⟩ := h.rd.at (by rw [nI_len]; omega)
    refine (Tryz.slices_BinarySearch_int b off n c (nI segs) (x : Int) w (by rw [nI_len]; omega) (by omega) (fun j hj => ?_) ?_).mono ?_
    · have := hc j _ 0 _ (List.getElem?_eq_getElem hj) rfl
      rw [show j * intE.size + 0 = j from Nat.mul_one j] at this
      rw [this, List.getD_eq_getElem?_getD, List.getElem?_eq_getElem hj]
      rfl
    · rw [List.take_of_length_le (by rw [nI_len]; omega)]
      unfold nI
      rw [List.pairwise_map]
      exact hs.imp (fun hab => by show (Int.ofNat _) ≤ Int.ofNat _; exact Int.ofNat_le.2 (Nat.le_of_lt hab))
    · rintro e w' ⟨rfl, q, rfl⟩
      refine ⟨(nI segs).contains (x : Int), ?_, q, rfl⟩
      rw [List.take_of_length_le (by rw [nI_len]; omega)]
      have : (nI segs).countP (fun z => decide (z < (x : Int))) = 0 := by
        rw [List.countP_eq_zero]
        intro z hz
        obtain ⟨k, hk, rfl⟩ := List.mem_map.1 hz
        have := hx k hk
        simp
        omega
      rw [this]
      rfl
def lastN : Option (Nat × List (List Int)) → Nat
  | none => 0
  | some q => q.1
def cpNums : Option (Nat × List (List Int)) → List Nat
  | none => []
  | some q => [q.1]
def cpName (dir : ByteArray) : Option (Nat × List (List Int)) → ByteArray
  | none => ⟨#[]⟩
  | some q => cpN dir q.1
set_option maxHeartbeats 8000000 in
theorem w_dropOld (p d : Nat) (dir : ByteArray) (v : Value) (op : Int) (K : Option (Nat × List (List Int))) (segs : List Nat) (a0 a1 : Option Addr) (k0 k1 base0 b1 : Nat) (dr : Bool) (w : World) (hds : dir.size ≤ 64) (ht : Tab w) (hk8 : lastN K < 100000000) (h : WRow w p d dir ⟨#[]⟩ v op) (ho0 : SOwn intE 3 w base0 (.slice a0 (cpNums K).length k0) (cpNums K).length (nI (cpNums K))) (ho1 : SOwn intE 3 w b1 (.slice a1 segs.length k1) segs.length (nI segs)) (hsg : segs.Pairwise (· < ·)) (hgt : ∀ k ∈ segs, lastN K < k) (hn : segs.length ≤ 4194304) (h0 : segs = [] → a1 = none ∧ k1 = 0) (hpb : p < b1) :
    Calls Tryz.prog 151 #[.pointer (some ⟨p, 0, none⟩), FolderV (.slice a0 (cpNums K).length k0) (.slice a1 segs.length k1) dr] w fun e w' => e = .returned (.int .i64 (lastN K : Int)) ∧ WRow w' p d dir (cpName dir K) (.slice a1 segs.length k1) op ∧ w.grownBy w' (some p) := by
  obtain ⟨L, eL⟩ : ∃ L, L = segs.length := ⟨_, rfl⟩
  have EL : Hid (L = segs.length) := eL
  have hgB : w.grownBy (w.alloc (.cells #[.slice a0 (cpNums K).length k0, .slice a1 L k1, .bool dr] 169)) none := World.grownBy_alloc w _ none
  have HGB : Hid (w.grownBy (w.alloc (.cells #[.slice a0 (cpNums K).length k0, .slice a1 L k1, .bool dr] 169)) none) := hgB
  have hrow := World.rowIs_alloc w #[.slice a0 (cpNums K).length k0, .slice a1 L k1, .bool dr] 169 (lookF (.slice a0 (cpNums K).length k0) (.slice a1 L k1) dr) (three rfl rfl rfl)
  have HROW : Hid ((w.alloc (.cells #[.slice a0 (cpNums K).length k0, .slice a1 L k1, .bool dr] 169)).rowIs w.heap.size 169 3 (lookF (.slice a0 (cpNums K).length k0) (.slice a1 L k1) dr)) := hrow
  have f0 : (w.alloc (.cells #[.slice a0 (cpNums K).length k0, .slice a1 L k1, .bool dr] 169)).cell? ⟨w.heap.size, 0, none⟩ = some (.slice a0 (cpNums K).length k0) := HROW.out.cell (i := 0) (by omega)
  have f1 : (w.alloc (.cells #[.slice a0 (cpNums K).length k0, .slice a1 L k1, .bool dr] 169)).cell? ⟨w.heap.size, 1, none⟩ = some (.slice a1 L k1) := HROW.out.cell (i := 1) (by omega)
  have HW : Hid (WRow (w.alloc (.cells #[.slice a0 (cpNums K).length k0, .slice a1 L k1, .bool dr] 169)) p d dir ⟨#[]⟩ v op) := h.kept hgB (by simp)
  have HPW : Hid (p < w.heap.size) := h.lt
  rw [← eL] at ho1 hn
  have HO1 : Hid (SOwn intE 3 w b1 (.slice a1 L k1) L (nI segs)) := ho1
  have HLK : Hid (L ≤ k1) := (sown_cap ho1).1
  have HS : Hid (∀ W : World, w.grownBy W (some p) → Calls Tryz.prog 171 #[.slice a1 L k1, .int .i64 ((lastN K : Int) + 1)] W fun e w' => ∃ b, e = .returned (.tuple #[.int .i64 0, .bool b]) ∧ ∃ q, w' = W.drewN q) := fun W hg => by
    have := w_search b1 L k1 a1 segs (lastN K + 1) W (SOwn.kept ho1 hg (.inr (fun e => by have := (ho1.block _ e).1; omega))) hsg (fun k hk => hgt k hk) hn (fun e => h0 (List.eq_nil_of_length_eq_zero (by rw [← eL]; exact e)))
    exact this
  have hsl0 : ∀ W : World, (Instr.slice 44 (.slice a1 L k1) none (some (.int .i64 0)) none).run Tryz.prog W = .ok (.slice a1 0 k1) W := fun W => head75 W a1 L k1
  have hsl1 : ∀ W : World, (Instr.slice 44 (.slice a1 L k1) (some (.int .i64 0)) none none).run Tryz.prog W = .ok (.slice a1 L k1) W := fun W => tail75 W a1 L k1 HLK.out
  rw [← eL]
  unfold FolderV
  clear h ho1 hsg hgt h0 eL hgB hrow
  go_enter Tryz.func151, Tryz.ntmps151
  go_upto_if 17 with fail
  go_cut [5] from 6 (fun t5 wc => t5 = .int .i64 (lastN K : Int) ∧ WRow wc p d dir (cpName dir K) v op ∧ wc.cell? ⟨w.heap.size, 1, none⟩ = some (.slice a1 L k1) ∧ w.grownBy wc (some p))
  case first =>
    cases K with
    | none =>
      go_wp2_with fail
      go_meet
      exact ⟨rfl, HW.out, f1, gb_any HGB.out _⟩
    | some q =>
      obtain ⟨b, off, rfl, hcell⟩ := nI_cell ho0.rd (l := cpNums (some q)) (i := 0) (k := q.1) rfl
      have hcell' := HGB.out.cell hcell (by simp)
      have hslc : ∀ W : World, (Instr.slice 44 (.slice (some ⟨b, off, none⟩) (cpNums (some q)).length k0) none (some (.int .i64 0)) none).run Tryz.prog W = .ok (.slice (some ⟨b, off, none⟩) 0 k0) W := fun W => head75 W _ _ k0
      rw [show (cpNums (some q)).length = 1 from rfl] at *
      rw [show decide (0 < 1) = true from rfl]
      have HCN : Hid (Calls Tryz.prog 139 #[.pointer (some ⟨p, 0, none⟩), .int .i64 (q.1 : Int)] (w.alloc (.cells #[.slice (some ⟨b, off, none⟩) 1 k0, .slice a1 L k1, .bool dr] 169)) fun e w' => e = .returned (.string (cpN dir q.1)) ∧ (w.alloc (.cells #[.slice (some ⟨b, off, none⟩) 1 k0, .slice a1 L k1, .bool dr] 169)).grownBy w' none) := w_cpoint p d dir ⟨#[]⟩ v op q.1 hk8 _ hds (ht.grown HGB.out) HW.out
      simp only [Nat.add_zero] at hcell'
      go_wp2_with fail
      refine HCN.out.mono ?_
      rintro e w2 ⟨rfl, hg2⟩
      have hW2 := HW.out.kept hg2 (by simp)
      have z2 := hW2.frozen 2
      have y2 : w2.cell? ⟨p, 2, none⟩ = some (.string ⟨#[]⟩) := hW2.cells.2.2.1
      have hr2 := HROW.out.of_block (hg2.block _ HROW.out.lt (by simp))
      have hr3 := hr2.setOther (a := ⟨p, 2, none⟩) (by have := HPW.out; show w.heap.size ≠ p; omega) (.string (cpN dir q.1))
      have g0 : (w2.setCell ⟨p, 2, none⟩ (.string (cpN dir q.1))).cell? ⟨w.heap.size, 0, none⟩ = some (.slice (some ⟨b, off, none⟩) 1 k0) := hr3.cell (i := 0) (by omega)
      have g1 : (w2.setCell ⟨p, 2, none⟩ (.string (cpN dir q.1))).cell? ⟨w.heap.size, 1, none⟩ = some (.slice a1 L k1) := hr3.cell (i := 1) (by omega)
      have HW3 : Hid (WRow (w2.setCell ⟨p, 2, none⟩ (.string (cpN dir q.1))) p d dir (cpN dir q.1) v op) := (hW2.set 2 (.string (cpN dir q.1))).congr (five rfl rfl rfl rfl rfl)
      have HG3 : Hid (w.grownBy (w2.setCell ⟨p, 2, none⟩ (.string (cpN dir q.1))) (some p)) := gb_trans (gb_any (HGB.out.trans hg2) _) (gb_set rfl) (fun k hk => .inr hk)
      clear hg2 hW2 hr2 hr3
      go_wp2_with fail
      go_loopw [36] (fun t36 wr => t36 = .int .i64 0 ∧ wr = w2.setCell ⟨p, 2, none⟩ (.string (cpN dir q.1))) (fun _ _ => 0)
      case atStart => exact ⟨rfl, rfl⟩
      case round =>
        obtain ⟨rfl, rfl⟩ := hrel
        go_wp2_with fail
        go_meet
        exact ⟨rfl, HW3.out, g1, HG3.out⟩
  case rest =>
    obtain ⟨rfl, hW, f1c, hgc⟩ := hcut
    have HS2 := HS.out wc hgc
    have HWc : Hid (WRow wc p d dir (cpName dir K) v op) := hW
    have HGc : Hid (w.grownBy wc (some p)) := hgc
    clear hW hgc f0 f1
    go_wp2_with fail
    refine HS2.mono ?_
    rintro e w2 ⟨b, rfl, q, rfl⟩
    have f1d : (wc.drewN q).cell? ⟨w.heap.size, 1, none⟩ = some (.slice a1 L k1) := f1c
    have hW2 : WRow (wc.drewN q) p d dir (cpName dir K) v op := HWc.out.kept (gb_drewN wc q) (by simp)
    have y3 := hW2.cells.2.2.2.1
    have z3 := hW2.frozen 3
    have HW3 : Hid (WRow ((wc.drewN q).setCell ⟨p, 3, none⟩ (.slice a1 L k1)) p d dir (cpName dir K) (.slice a1 L k1) op) := (hW2.set 3 (.slice a1 L k1)).congr (five rfl rfl rfl rfl rfl)
    have HG3 : Hid (w.grownBy ((wc.drewN q).setCell ⟨p, 3, none⟩ (.slice a1 L k1)) (some p)) := gb_trans (gb_drewR HGc.out q) (gb_set rfl) (fun k hk => .inr hk)
    clear hW2
    go_wp2_with fail
    go_loopw [63] (fun t63 wr => t63 = .int .i64 0 ∧ wr = wc.drewN q) (fun _ _ => 0)
    case atStart => exact ⟨rfl, rfl⟩
    case round =>
      obtain ⟨rfl, rfl⟩ := hrel
      go_wp2
      go_ret
      exact ⟨rfl, HW3.out, HG3.out⟩
end Go.Proofs.YtgpgkpciajajcaaGreatDoor

/- Package wal: mend, of a folder that is whole. -/
namespace Go.Proofs.YtgpgkpciajajcaaGreatDoor
open Go.RowKit Go.Maps Go.Sort
set_option linter.unusedVariables false
set_option maxRecDepth 20000

theorem DS.others {w w' : World} {base d mb n : Nat} {x : DSt} {B X : Nat → Prop} (h : DS w base d mb n x B) (hg : Kept w w' X) (hX : ∀ k, B k → ¬ X k) : DS w' base d mb n x B := by
  obtain ⟨F, G, hd, hv, hb⟩ := h
  exact ⟨F, G, hd.others hg (hX _ (hb _ (.inl rfl))) (hX _ (hb _ (.inr (.inl rfl)))) (fun s b hs => ⟨hX _ (hb _ (.inr (.inr ⟨s, b, hs, .inl rfl⟩))), fun y hy => hX _ (hb _ (.inr (.inr ⟨s, b, hs, .inr ⟨y, hy, rfl⟩⟩)))⟩), hv, hb⟩
theorem Tab.row {w w' : World} {p d : Nat} {dir cp : ByteArray} {v : Value} {op : Int} (h : Tab w) (hr : WRow w p d dir cp v op) (hg : w.grownBy w' (some p)) : Tab w' := by
  unfold Tab Lib.TabIs World.var? at h ⊢
  cases hn : Tryz.prog.globalNamed "internal/strconv.uint64pow10" with
  | none => rw [hn] at h; cases h
  | some g =>
    rw [hn] at h
    simp only [Option.bind_some] at h ⊢
    have hlt : g < w.heap.size := by
      rcases Nat.lt_or_ge g w.heap.size with h1 | h1
      · exact h1
      · rw [Array.getElem?_eq_none h1] at h; cases h
    have hne : some g ≠ some p := by
      intro e
      have e' : g = p := Option.some.inj e
      subst e'
      obtain ⟨c, h1, h2, h3⟩ := hr
      rw [h1] at h
      simp only [Option.some.injEq] at h
      rw [h] at h2
      simp [Lib.pow10Tab] at h2
    rw [hg.block g hlt hne]
    exact h
/-- The open segment's number. -/
def openN (K : Option (Nat × List (List Int))) (Ls : List (Nat × List (List Int))) : Nat := match (Ls.map Prod.fst).getLast? with
  | none => lastN K + 1
  | some k => k
/-- A folder that is whole: its checkpoint, its segments. -/
structure Log (V : Cont) (dir : ByteArray) (K : Option (Nat × List (List Int))) (Ls : List (Nat × List (List Int))) : Prop where
  folder : Folder V dir (cpNums K) false (Ls.map Prod.fst)
  cp : CpIs V dir (cpName dir K) K
  whole : Whole V dir Ls
  above : ∀ q ∈ Ls, lastN K < q.1
  big : lastN K < 100000000
/-- Records in memory from lo on. -/
def RecsLo (lo : Nat) (w' : World) (v : Value) (n : Nat) (recs : List (List Int)) : Prop := ∃ ts, SOwn slE 37 w' lo v n ts ∧ RecsAt w' lo v.ownBlock ts recs ∧ n = recs.length ∧ (recs = [] → v = .slice none 0 0)
/-- What mend answers. -/
def MendOut (w : World) (p d : Nat) (dir : ByteArray) (K : Option (Nat × List (List Int))) (Ls : List (Nat × List (List Int))) (e : Ending) (w' : World) : Prop := ∃ (v : Sl) (m : Nat) (a1 : Option Addr) (k1 b1 : Nat), e = .returned (slV v) ∧ (∃ lo, w.heap.size ≤ lo ∧ p < lo ∧ (∀ y, a1 = some y → y.block < lo) ∧ RecsLo lo w' (slV v) m (cpRecs K ++ recsOf Ls)) ∧ WRow w' p d dir (cpName dir K) (.slice a1 Ls.length k1) (openN K Ls : Int) ∧ SOwn intE 3 w' b1 (.slice a1 Ls.length k1) Ls.length (nI (Ls.map Prod.fst)) ∧ w.heap.size ≤ b1 ∧ w.grownBy w' (some p)
set_option maxHeartbeats 8000000 in
theorem w_mend (base p d mb n : Nat) (dir : ByteArray) (v0 : Value) (op : Int) (x : DSt) (B : Nat → Prop) (K : Option (Nat × List (List Int))) (Ls : List (Nat × List (List Int))) (w : World) (hdir : dirB dir = true) (ht : Tab w) (h : WRow w p d dir ⟨#[]⟩ v0 op) (hd : DS w base d mb n x B) (hBp : ¬ B p) (hon : x.off = false) (hlog : Log x.V dir K Ls) (hn : n ≤ 4194304) (hsz : (cpRecs K ++ recsOf Ls).length ≤ 4194304) (hln : Ls.length ≤ 4194304) :
    Calls Tryz.prog 121 #[.pointer (some ⟨p, 0, none⟩)] w (MendOut w p d dir K Ls) := by
  have hds : dir.size ≤ 32 := by simp only [dirB, Bool.and_eq_true, decide_eq_true_eq] at hdir; exact hdir.2
  have HLK : Hid (Calls Tryz.prog 149 #[.pointer (some ⟨p, 0, none⟩)] w (LookOut w (cpNums K) (Ls.map Prod.fst) false)) := w_look base p d mb n dir ⟨#[]⟩ v0 op x B (cpNums K) (Ls.map Prod.fst) false w hdir h hd hon hlog.folder hn (fun k hk => by obtain ⟨q, hq, rfl⟩ := List.mem_map.1 hk; have := hlog.above q hq; omega)
  have HW : Hid (WRow w p d dir ⟨#[]⟩ v0 op) := h
  have HD : Hid (DS w base d mb n x B) := hd
  have HT : Hid (Tab w) := ht
  have HB : Hid (¬ B p) := hBp
  have HDIR : Hid (dirB dir = true) := hdir
  have HLOG : Hid (Log x.V dir K Ls) := hlog
  have eL2 : (Ls.map Prod.fst).length = Ls.length := List.length_map _
  have HBIG := HLOG.out.big
  clear h hd ht hBp hdir hlog
  go_enter Tryz.func121, Tryz.ntmps121
  go_wp2_with fail
  refine HLK.out.mono ?_
  rintro e w1 ⟨a0, k0, a1, k1, b1, rfl, ho0, ho1, hb0, hb1, hg1, hnil⟩
  have hga : w1.grownBy (w1.alloc (.cells #[.slice a0 (cpNums K).length k0, .slice a1 Ls.length k1, .bool false] 169)) none := World.grownBy_alloc w1 _ none
  have hgw := hg1.trans hga
  have HGW : Hid (w.grownBy (w1.alloc (.cells #[.slice a0 (cpNums K).length k0, .slice a1 Ls.length k1, .bool false] 169)) none) := hgw
  have hpb : p < b1 := Nat.lt_of_lt_of_le HW.out.lt hb1
  have hs1 := SOwn.kept ho1 hga (by cases a1 <;> simp [Value.ownBlock])
  have HWA : Hid (WRow (w1.alloc (.cells #[.slice a0 (cpNums K).length k0, .slice a1 Ls.length k1, .bool false] 169)) p d dir ⟨#[]⟩ v0 op) := HW.out.kept hgw (by simp)
  have HTA : Hid (Tab (w1.alloc (.cells #[.slice a0 (cpNums K).length k0, .slice a1 Ls.length k1, .bool false] 169))) := HT.out.grown hgw
  have HDO : Hid (Calls Tryz.prog 151 #[.pointer (some ⟨p, 0, none⟩), FolderV (.slice a0 (cpNums K).length k0) (.slice a1 Ls.length k1) false] (w1.alloc (.cells #[.slice a0 (cpNums K).length k0, .slice a1 Ls.length k1, .bool false] 169)) fun e w' => e = .returned (.int .i64 (lastN K : Int)) ∧ WRow w' p d dir (cpName dir K) (.slice a1 Ls.length k1) op ∧ (w1.alloc (.cells #[.slice a0 (cpNums K).length k0, .slice a1 Ls.length k1, .bool false] 169)).grownBy w' (some p)) := by
    have := w_dropOld p d dir v0 op K (Ls.map Prod.fst) a0 a1 k0 k1 w.heap.size b1 false (w1.alloc (.cells #[.slice a0 (cpNums K).length k0, .slice a1 Ls.length k1, .bool false] 169)) (by omega) HTA.out HBIG HWA.out (SOwn.kept ho0 hga (by cases a0 <;> simp [Value.ownBlock])) hs1 HLOG.out.folder.segr.1 (fun k hk => by obtain ⟨q, hq, rfl⟩ := List.mem_map.1 hk; exact HLOG.out.above q hq) (by rw [eL2]; exact hln) hnil hpb
    rw [eL2] at this
    exact this
  rw [eL2] at hs1 ho1 ⊢
  have HS1 : Hid (SOwn intE 3 (w1.alloc (.cells #[.slice a0 (cpNums K).length k0, .slice a1 Ls.length k1, .bool false] 169)) b1 (.slice a1 Ls.length k1) Ls.length (nI (Ls.map Prod.fst))) := hs1
  have HB1 : Hid (∀ y, a1 = some y → y.block < w1.heap.size) := fun y hy => by subst hy; exact (ho1.block _ rfl).2
  have HNIL : Hid (Ls.map Prod.fst = [] → a1 = none ∧ k1 = 0) := hnil
  clear ho0 ho1 hb0 hg1 hnil HLK hga hgw hs1
  unfold FolderV at HDO ⊢
  go_wp2_with fail
  refine HDO.out.mono ?_
  rintro e w3 ⟨rfl, hW3, hg3⟩
  have hgw3 : w.grownBy w3 (some p) := gb_trans (gb_any HGW.out _) hg3 (fun k hk => .inr hk)
  have hs3 := SOwn.kept HS1.out hg3 (.inr (fun e => by have := (HS1.out.block _ e).1; omega))
  have HRA : Hid (Calls Tryz.prog 152 #[.pointer (some ⟨p, 0, none⟩)] w3 (AllOut w3 (cpRecs K ++ recsOf Ls))) := w_replayAll base p d mb n dir (cpName dir K) a1 k1 op x B K Ls w3 HDIR.out (HTA.out.row HWA.out hg3) hW3 hs3.rd (HD.out.others (Kept.of hgw3 (X := fun k => k = p) (fun k hk => by cases hk; rfl)) (fun k hk e => HB.out (e ▸ hk))) hon HLOG.out.cp HLOG.out.whole hsz hln
  have HW3 : Hid (WRow w3 p d dir (cpName dir K) (.slice a1 Ls.length k1) op) := hW3
  have HS3 : Hid (SOwn intE 3 w3 b1 (.slice a1 Ls.length k1) Ls.length (nI (Ls.map Prod.fst))) := hs3
  have HG3 : Hid (w.grownBy w3 (some p)) := hgw3
  have HSZ3 : Hid (w1.heap.size ≤ w3.heap.size) := by
    have h1 := hg3.size
    have h2 : (w1.alloc (.cells #[.slice a0 (cpNums K).length k0, .slice a1 Ls.length k1, .bool false] 169)).heap.size = w1.heap.size + 1 := Array.size_push _
    show _ ≤ _
    omega
  clear hW3 hg3 hgw3 hs3 HDO
  go_wp2_with fail
  refine HRA.out.mono ?_
  rintro e w4 ⟨rv, rfl, ⟨m, hro⟩, hg4⟩
  have HRO : Hid (RecsOut w3 w4 (slV rv) m (cpRecs K ++ recsOf Ls)) := hro
  have HG4 : Hid (w3.grownBy w4 none) := hg4
  have hW4 := HW3.out.kept hg4 (by simp)
  have HW4 : Hid (WRow w4 p d dir (cpName dir K) (.slice a1 Ls.length k1) op) := hW4
  have HS4 : Hid (SOwn intE 3 w4 b1 (.slice a1 Ls.length k1) Ls.length (nI (Ls.map Prod.fst))) := SOwn.kept HS3.out hg4 (by cases a1 <;> simp [Value.ownBlock])
  have y4 := hW4.cells.2.2.2.2
  have z4 := hW4.frozen 4
  have HFIN : Hid (∀ (u : Int) (w5 : World), WRow w5 p d dir (cpName dir K) (.slice a1 Ls.length k1) u → w4.grownBy w5 (some p) → u = (openN K Ls : Int) → MendOut w p d dir K Ls (.returned (slV rv)) w5) := fun u w5 hW5 hg5 hu => by
    subst hu
    have hpl := HW3.out.lt
    obtain ⟨ts, t1, t2, t3, t4⟩ := HRO.out
    refine ⟨rv, m, a1, k1, b1, rfl, ⟨w3.heap.size, HG3.out.size, hpl, fun y hy => Nat.lt_of_lt_of_le (HB1.out y hy) HSZ3.out, ts, SOwn.kept t1 hg5 (.inr (fun e => by have := (t1.block _ e).1; omega)), t2.kept hg5 (fun k hk => .inl (by cases hk; exact hpl)), t3, t4⟩, hW5, SOwn.kept HS4.out hg5 (.inr (fun e => by have := (HS4.out.block _ e).1; omega)), hb1, gb_trans (gb_trans HG3.out HG4.out (fun k hk => by cases hk)) hg5 (fun k hk => .inr hk)⟩
  have hW5 := hW4.set 4 (.int .i64 ((lastN K : Int) + 1))
  have HW5 : Hid (WRow (w4.setCell ⟨p, 4, none⟩ (.int .i64 ((lastN K : Int) + 1))) p d dir (cpName dir K) (.slice a1 Ls.length k1) ((lastN K : Int) + 1)) := hW5.congr (five rfl rfl rfl rfl rfl)
  have y5 := HW5.out.cells.2.2.2.1
  have q5 : -9223372036854775808 ≤ (lastN K : Int) + 1 ∧ (lastN K : Int) + 1 ≤ 9223372036854775807 := by omega
  clear hro hg4 hW4 hW5 HRA
  rcases Nat.eq_zero_or_pos Ls.length with hz | hz
  · have HOP : Hid (((lastN K : Int) + 1) = (openN K Ls : Int)) := by
      show _ = _
      have : Ls = [] := List.eq_nil_of_length_eq_zero hz
      subst this
      simp [openN]
    rw [hz] at y5
    go_wp2
    go_ret
    exact HFIN.out _ _ HW5.out (gb_set rfl) HOP.out
  · obtain ⟨k, hk⟩ : ∃ k, (Ls.map Prod.fst)[Ls.length - 1]? = some k := ⟨_, List.getElem?_eq_getElem (by rw [eL2]; omega)⟩
    have HOP : Hid ((k : Int) = (openN K Ls : Int)) := by
      show _ = _
      unfold openN
      rw [List.getLast?_eq_getElem?, eL2, hk]
    obtain ⟨b, off, rfl, hcell⟩ := nI_cell HS4.out.rd hk
    obtain ⟨L', eL'⟩ : ∃ L', Ls.length = L' + 1 := ⟨Ls.length - 1, by omega⟩
    rw [eL', show L' + 1 - 1 = L' from rfl] at hcell
    have hbl := (HS4.out.block b rfl).1
    have hcell5 : (w4.setCell ⟨p, 4, none⟩ (.int .i64 ((lastN K : Int) + 1))).cell? ⟨b, off + L', none⟩ = some (.int .i64 (k : Int)) := by
      have hgs : w4.grownBy (w4.setCell ⟨p, 4, none⟩ (.int .i64 ((lastN K : Int) + 1))) (some p) := gb_set rfl
      exact hgs.cell hcell (by simp; omega)
    have z5 := HW5.out.frozen 4
    have x5 := HW5.out.cells.2.2.2.2
    have HW6 : Hid (WRow ((w4.setCell ⟨p, 4, none⟩ (.int .i64 ((lastN K : Int) + 1))).setCell ⟨p, 4, none⟩ (.int .i64 (k : Int))) p d dir (cpName dir K) (.slice (some ⟨b, off, none⟩) Ls.length k1) (k : Int)) := (HW5.out.set 4 (.int .i64 (k : Int))).congr (five rfl rfl rfl rfl rfl)
    rw [eL'] at y5
    have qL : (L' : Int) < (L' : Int) + 1 := by omega
    have hL4 : (L' : Int) ≤ 4194304 := by omega
    clear hk hcell hbl hz
    go_wp2
    go_ret
    exact HFIN.out _ _ HW6.out (gb_trans (gb_set rfl) (gb_set rfl) (fun k hk => .inr hk)) HOP.out
end Go.Proofs.YtgpgkpciajajcaaGreatDoor

/- Package wal: what is thrown is caught. (Printed by mk_caught.py.) -/
namespace Go.Proofs.YtgpgkpciajajcaaGreatDoor
open Go.RowKit Go.Maps Go.Sort
set_option linter.unusedVariables false
set_option maxRecDepth 20000

theorem w_idle (c : Nat) (w : World) : CallsD Tryz.prog 132 #[.pointer (some ⟨c, 0, none⟩)] .returning w fun e u' w' => e = .returned (.tuple #[]) ∧ u' = .returning ∧ w' = w := by
  refine callsD_of_wpS Tryz.func132 rfl fun c₀ cs hu => ?_
  apply wpS_seq
  apply wpS_region
  simp [wpOpsS, go_sem, recoverD, hu, Tryz.ntmps132, Exit.thenS]
  refine wpS_of_wp ?_
  refine wp_block ?_
  go_wp2
  cases c₀
  simp_all [bodyPostS, results, Tryz.results132]
theorem run_thrown (x : Int) (w : World) : (Instr.typeAssert (.iface 31 (.int .i64 x)) 20 31 true).run Tryz.prog w = .ok (.tuple #[.int .i64 x, .bool true]) w := by kernel_rfl
theorem w_caught44 (caps : Array Value) (P : World → Prop) (w : World)
    (hcl : Calls Tryz.prog 120 caps (w.alloc (.cells #[.int .i64 0] 31)) fun e w' => e = .returned (.tuple #[]) ∧ P w' ∧ w'.cell? ⟨w.heap.size, 0, none⟩ = some (.int .i64 0) ∧ w'.frozen? ⟨w.heap.size, 0, none⟩ = false) :
    Calls Tryz.prog 97 #[.func (.func 120) #[] caps] w fun e w' => e = .returned (.int .i64 0) ∧ ∃ w1, P w1 ∧ w' = w1.setCell ⟨w.heap.size, 0, none⟩ (.int .i64 0) := by
  have hmf : ∀ (fn : Fn) (first cap : Array Value) (w : World), (Instr.makeFunc fn first cap).run Tryz.prog w = .ok (.func fn first cap) w := fun _ _ _ _ => rfl
  go_enter_defers Tryz.func97, Tryz.ntmps97
  go_wp2_with fail
  refine hcl.mono ?_
  rintro e w1 ⟨rfl, hp, hc, hz⟩
  have HP : Hid (P w1) := hp
  clear hp hcl
  go_wp2
  refine leaves_cons (f := 132) (args := #[.pointer (some ⟨w.heap.size, 0, none⟩)]) (by simp) (by simp [go_sem]) ?_
  refine (w_idle w.heap.size _).mono ?_
  rintro e u' w'' ⟨rfl, rfl, rfl⟩
  have hcs : (w1.setCell ⟨w.heap.size, 0, none⟩ (.int .i64 0)).cell? ⟨w.heap.size, 0, none⟩ = some (.int .i64 0) := World.cell?_setCell_same' w1 _ _ (by rw [hc]; rfl)
  simp [Go.Leaves, settle, results, Tryz.results97, go_sem, hcs]
  exact ⟨w1, HP.out, rfl⟩
theorem w_caught47 (caps : Array Value) (P : World → Prop) (w : World)
    (hcl : Calls Tryz.prog 98 caps (w.alloc (.cells #[.int .i64 0] 31)) fun e w' => e = .returned (.tuple #[]) ∧ P w' ∧ w'.cell? ⟨w.heap.size, 0, none⟩ = some (.int .i64 0) ∧ w'.frozen? ⟨w.heap.size, 0, none⟩ = false) :
    Calls Tryz.prog 97 #[.func (.func 98) #[] caps] w fun e w' => e = .returned (.int .i64 0) ∧ ∃ w1, P w1 ∧ w' = w1.setCell ⟨w.heap.size, 0, none⟩ (.int .i64 0) := by
  have hmf : ∀ (fn : Fn) (first cap : Array Value) (w : World), (Instr.makeFunc fn first cap).run Tryz.prog w = .ok (.func fn first cap) w := fun _ _ _ _ => rfl
  go_enter_defers Tryz.func97, Tryz.ntmps97
  go_wp2_with fail
  refine hcl.mono ?_
  rintro e w1 ⟨rfl, hp, hc, hz⟩
  have HP : Hid (P w1) := hp
  clear hp hcl
  go_wp2
  refine leaves_cons (f := 132) (args := #[.pointer (some ⟨w.heap.size, 0, none⟩)]) (by simp) (by simp [go_sem]) ?_
  refine (w_idle w.heap.size _).mono ?_
  rintro e u' w'' ⟨rfl, rfl, rfl⟩
  have hcs : (w1.setCell ⟨w.heap.size, 0, none⟩ (.int .i64 0)).cell? ⟨w.heap.size, 0, none⟩ = some (.int .i64 0) := World.cell?_setCell_same' w1 _ _ (by rw [hc]; rfl)
  simp [Go.Leaves, settle, results, Tryz.results97, go_sem, hcs]
  exact ⟨w1, HP.out, rfl⟩
theorem w_caught51 (caps : Array Value) (P : World → Prop) (w : World)
    (hcl : Calls Tryz.prog 102 caps (w.alloc (.cells #[.int .i64 0] 31)) fun e w' => e = .returned (.tuple #[]) ∧ P w' ∧ w'.cell? ⟨w.heap.size, 0, none⟩ = some (.int .i64 0) ∧ w'.frozen? ⟨w.heap.size, 0, none⟩ = false) :
    Calls Tryz.prog 97 #[.func (.func 102) #[] caps] w fun e w' => e = .returned (.int .i64 0) ∧ ∃ w1, P w1 ∧ w' = w1.setCell ⟨w.heap.size, 0, none⟩ (.int .i64 0) := by
  have hmf : ∀ (fn : Fn) (first cap : Array Value) (w : World), (Instr.makeFunc fn first cap).run Tryz.prog w = .ok (.func fn first cap) w := fun _ _ _ _ => rfl
  go_enter_defers Tryz.func97, Tryz.ntmps97
  go_wp2_with fail
  refine hcl.mono ?_
  rintro e w1 ⟨rfl, hp, hc, hz⟩
  have HP : Hid (P w1) := hp
  clear hp hcl
  go_wp2
  refine leaves_cons (f := 132) (args := #[.pointer (some ⟨w.heap.size, 0, none⟩)]) (by simp) (by simp [go_sem]) ?_
  refine (w_idle w.heap.size _).mono ?_
  rintro e u' w'' ⟨rfl, rfl, rfl⟩
  have hcs : (w1.setCell ⟨w.heap.size, 0, none⟩ (.int .i64 0)).cell? ⟨w.heap.size, 0, none⟩ = some (.int .i64 0) := World.cell?_setCell_same' w1 _ _ (by rw [hc]; rfl)
  simp [Go.Leaves, settle, results, Tryz.results97, go_sem, hcs]
  exact ⟨w1, HP.out, rfl⟩
theorem w_caught57 (caps : Array Value) (P : World → Prop) (w : World)
    (hcl : Calls Tryz.prog 106 caps (w.alloc (.cells #[.int .i64 0] 31)) fun e w' => e = .returned (.tuple #[]) ∧ P w' ∧ w'.cell? ⟨w.heap.size, 0, none⟩ = some (.int .i64 0) ∧ w'.frozen? ⟨w.heap.size, 0, none⟩ = false) :
    Calls Tryz.prog 97 #[.func (.func 106) #[] caps] w fun e w' => e = .returned (.int .i64 0) ∧ ∃ w1, P w1 ∧ w' = w1.setCell ⟨w.heap.size, 0, none⟩ (.int .i64 0) := by
  have hmf : ∀ (fn : Fn) (first cap : Array Value) (w : World), (Instr.makeFunc fn first cap).run Tryz.prog w = .ok (.func fn first cap) w := fun _ _ _ _ => rfl
  go_enter_defers Tryz.func97, Tryz.ntmps97
  go_wp2_with fail
  refine hcl.mono ?_
  rintro e w1 ⟨rfl, hp, hc, hz⟩
  have HP : Hid (P w1) := hp
  clear hp hcl
  go_wp2
  refine leaves_cons (f := 132) (args := #[.pointer (some ⟨w.heap.size, 0, none⟩)]) (by simp) (by simp [go_sem]) ?_
  refine (w_idle w.heap.size _).mono ?_
  rintro e u' w'' ⟨rfl, rfl, rfl⟩
  have hcs : (w1.setCell ⟨w.heap.size, 0, none⟩ (.int .i64 0)).cell? ⟨w.heap.size, 0, none⟩ = some (.int .i64 0) := World.cell?_setCell_same' w1 _ _ (by rw [hc]; rfl)
  simp [Go.Leaves, settle, results, Tryz.results97, go_sem, hcs]
  exact ⟨w1, HP.out, rfl⟩
end Go.Proofs.YtgpgkpciajajcaaGreatDoor

/- Package wal: Open, of a folder that is whole. -/
namespace Go.Proofs.YtgpgkpciajajcaaGreatDoor
open Go.RowKit Go.Maps Go.Sort
set_option linter.unusedVariables false
set_option maxRecDepth 20000

/-- What Open answers: a new log and the records; the log lies below lo, the records from lo on. -/
def OpenOut (w : World) (d : Nat) (dir : ByteArray) (K : Option (Nat × List (List Int))) (Ls : List (Nat × List (List Int))) (e : Ending) (w' : World) : Prop := ∃ (p : Nat) (v : Sl) (m lo : Nat) (a : Option Addr) (c : Nat), e = .returned (.tuple #[.pointer (some ⟨p, 0, none⟩), slV v, .int .i64 0]) ∧ WRow w' p d dir (cpName dir K) (.slice a (Ls.map Prod.fst).length c) (openN K Ls : Int) ∧ SOwn intE 3 w' w.heap.size (.slice a (Ls.map Prod.fst).length c) (Ls.map Prod.fst).length (nI (Ls.map Prod.fst)) ∧ w.heap.size ≤ p ∧ p < lo ∧ (∀ y, a = some y → y.block < lo) ∧ RecsLo lo w' (slV v) m (cpRecs K ++ recsOf Ls) ∧ w.grownBy w' none
theorem w_open1 (q r p : Nat) (v0 : Value) (w : World) (P : Sl → World → Prop) (hq : w.cell? ⟨q, 0, none⟩ = some (.pointer (some ⟨p, 0, none⟩)))
    (hm : Calls Tryz.prog 121 #[.pointer (some ⟨p, 0, none⟩)] w fun e w' => ∃ v : Sl, e = .returned (slV v) ∧ P v w' ∧ w'.cell? ⟨r, 0, none⟩ = some v0 ∧ w'.frozen? ⟨r, 0, none⟩ = false) :
    Calls Tryz.prog 120 #[.pointer (some ⟨q, 0, none⟩), .pointer (some ⟨r, 0, none⟩)] w fun e w' => e = .returned (.tuple #[]) ∧ ∃ v w1, P v w1 ∧ w' = w1.setCell ⟨r, 0, none⟩ (slV v) ∧ w1.cell? ⟨r, 0, none⟩ = some v0 := by
  have HM : Hid (Calls Tryz.prog 121 #[.pointer (some ⟨p, 0, none⟩)] w fun e w' => ∃ v : Sl, e = .returned (slV v) ∧ P v w' ∧ w'.cell? ⟨r, 0, none⟩ = some v0 ∧ w'.frozen? ⟨r, 0, none⟩ = false) := hm
  clear hm
  go_enter Tryz.func120, Tryz.ntmps120
  go_wp2_with fail
  refine HM.out.mono ?_
  rintro e w1 ⟨v, rfl, hp, hc, hz⟩
  have HP : Hid (P v w1) := hp
  have HC : Hid (w1.cell? ⟨r, 0, none⟩ = some v0) := hc
  clear hp HM
  unfold slV
  go_wp2
  go_end0
  exact ⟨rfl, v, w1, HP.out, rfl, HC.out⟩
theorem row1 (w : World) (u : Value) (t : TypeId) : (w.alloc (.cells #[u] t)).rowIs w.heap.size t 1 (fun _ => u) :=
  World.rowIs_alloc w #[u] t (fun _ => u) (fun i hi => by have h0 : i = 0 := by simp at hi; omega
                                                          subst h0; rfl)
/-- Behind the records' and the error's cells. -/
theorem open_pack {w W4 w5 : World} {p d r s m b1 k1 lo : Nat} {dir : ByteArray} {K : Option (Nat × List (List Int))} {Ls : List (Nat × List (List Int))} {v : Sl} {a1 : Option Addr} {u u' : Value} (hg : w.grownBy W4 none) (hp : w.heap.size ≤ p) (hpr : p < r) (hr : r < s) (hs : s < W4.heap.size) (hlo : W4.heap.size ≤ lo) (hpl : p < lo) (hal : ∀ y, a1 = some y → y.block < lo) (hro : RecsLo lo w5 (slV v) m (cpRecs K ++ recsOf Ls)) (hW : WRow w5 p d dir (cpName dir K) (.slice a1 Ls.length k1) (openN K Ls : Int)) (hso : SOwn intE 3 w5 b1 (.slice a1 Ls.length k1) Ls.length (nI (Ls.map Prod.fst))) (hb : W4.heap.size ≤ b1) (hg5 : W4.grownBy w5 (some p)) :
    OpenOut w d dir K Ls (.returned (.tuple #[.pointer (some ⟨p, 0, none⟩), slV v, .int .i64 0])) ((w5.setCell ⟨r, 0, none⟩ u).setCell ⟨s, 0, none⟩ u').drew := by
  have g1 : w5.grownBy (w5.setCell ⟨r, 0, none⟩ u) (some r) := gb_set rfl
  have g2 : (w5.setCell ⟨r, 0, none⟩ u).grownBy ((w5.setCell ⟨r, 0, none⟩ u).setCell ⟨s, 0, none⟩ u').drew (some s) := gb_drew (gb_set rfl)
  have hsz := hg.size
  have e : (Ls.map Prod.fst).length = Ls.length := List.length_map _
  obtain ⟨ts, t1, t2, t3, t4⟩ := hro
  refine ⟨p, v, m, lo, a1, k1, rfl, ?_, ?_, hp, hpl, hal, ⟨ts, ?_, ?_, t3, t4⟩, ?_⟩
  · rw [e]
    exact (hW.kept g1 (fun h => by have := Option.some.inj h; omega)).kept g2 (fun h => by have := Option.some.inj h; omega)
  · rw [e]
    exact (SOwn.kept (SOwn.kept hso g1 (.inr (fun h => by have := (hso.block _ h).1; omega))) g2 (.inr (fun h => by have := (hso.block _ h).1; omega))).base (by omega)
  · exact SOwn.kept (SOwn.kept t1 g1 (.inr (fun h => by have := (t1.block _ h).1; omega))) g2 (.inr (fun h => by have := (t1.block _ h).1; omega))
  · exact (t2.kept g1 (fun k hk => .inl (by cases hk; omega))).kept g2 (fun k hk => .inl (by cases hk; omega))
  · exact gb_trans (gb_trans (gb_trans hg hg5 (fun k hk => .inl (by cases hk; exact hp))) g1 (fun k hk => .inl (by cases hk; omega))) g2 (fun k hk => .inl (by cases hk; omega))
set_option maxHeartbeats 8000000 in
theorem w_open (base d mb n : Nat) (dir : ByteArray) (x : DSt) (B : Nat → Prop) (K : Option (Nat × List (List Int))) (Ls : List (Nat × List (List Int))) (w : World) (hdir : dirB dir = true) (ht : Tab w) (hd : DS w base d mb n x B) (hB : ∀ k, B k → k < w.heap.size) (hon : x.off = false) (hlog : Log x.V dir K Ls) (hn : n ≤ 4194304) (hsz : (cpRecs K ++ recsOf Ls).length ≤ 4194304) (hln : Ls.length ≤ 4194304) :
    Calls Tryz.prog 80 #[.pointer (some ⟨d, 0, none⟩), .string dir] w (OpenOut w d dir K Ls) := by
  have hds : dir.size ≤ 32 := by simp only [dirB, Bool.and_eq_true, decide_eq_true_eq] at hdir; exact hdir.2
  have HIF : Hid (Calls Tryz.prog 119 #[.string dir] w fun e w' => e = .returned (.bool true) ∧ w.grownBy w' none) := by
    have := w_isFolder dir (by omega) w
    rw [hdir] at this
    exact this
  have HD : Hid (DS w base d mb n x B) := hd
  have HT : Hid (Tab w) := ht
  have HB : Hid (∀ k, B k → k < w.heap.size) := hB
  have HDIR : Hid (dirB dir = true) := hdir
  have HLOG : Hid (Log x.V dir K Ls) := hlog
  have hmf : ∀ (fn : Fn) (first cap : Array Value) (w : World), (Instr.makeFunc fn first cap).run Tryz.prog w = .ok (.func fn first cap) w := fun _ _ _ _ => rfl
  clear hd ht hB hdir hlog
  go_enter Tryz.func80, Tryz.ntmps80
  go_wp2_with fail
  refine HIF.out.mono ?_
  rintro e w1 ⟨rfl, hg1⟩
  have HG1 : Hid (w.grownBy w1 none) := hg1
  clear hg1 HIF
  go_wp2_with fail
  obtain ⟨W3, eW3⟩ : ∃ W3, W3 = ((w1.alloc (.cells #[.pointer (some ⟨d, 0, none⟩), .string dir, .string ⟨#[]⟩, .slice none 0 0, .int .i64 0] 143)).alloc (.cells #[.pointer (some ⟨w1.heap.size, 0, none⟩)] 65)).alloc (.cells #[.slice none 0 0] 71) := ⟨_, rfl⟩
  obtain ⟨W4, eW4⟩ : ∃ W4, W4 = W3.alloc (.cells #[.int .i64 0] 31) := ⟨_, rfl⟩
  have hs1 : ∀ (w : World) o, (w.alloc o).heap.size = w.heap.size + 1 := fun w o => Array.size_push _
  have hz3 : W3.heap.size = w1.heap.size + 3 := by rw [eW3, hs1, hs1, hs1]
  have hz4 : W4.heap.size = w1.heap.size + 4 := by rw [eW4, hs1, hz3]
  have hr0 : WRow (w1.alloc (.cells #[.pointer (some ⟨d, 0, none⟩), .string dir, .string ⟨#[]⟩, .slice none 0 0, .int .i64 0] 143)) w1.heap.size d dir ⟨#[]⟩ (.slice none 0 0) 0 := World.rowIs_alloc w1 #[.pointer (some ⟨d, 0, none⟩), .string dir, .string ⟨#[]⟩, .slice none 0 0, .int .i64 0] 143 _ (five rfl rfl rfl rfl rfl)
  have hg14 : w1.grownBy W4 none := by
    rw [eW4, eW3]
    exact (((World.grownBy_alloc w1 _ none).trans (World.grownBy_alloc _ _ none)).trans (World.grownBy_alloc _ _ none)).trans (World.grownBy_alloc _ _ none)
  have hW4 : WRow W4 w1.heap.size d dir ⟨#[]⟩ (.slice none 0 0) 0 := by
    rw [eW4, eW3]
    exact ((hr0.alloc _).alloc _).alloc _
  have hq4 : W4.rowIs (w1.heap.size + 1) 65 1 (fun _ => .pointer (some ⟨w1.heap.size, 0, none⟩)) := by
    have := row1 (w1.alloc (.cells #[.pointer (some ⟨d, 0, none⟩), .string dir, .string ⟨#[]⟩, .slice none 0 0, .int .i64 0] 143)) (.pointer (some ⟨w1.heap.size, 0, none⟩)) 65
    rw [hs1] at this
    rw [eW4, eW3]
    exact (this.alloc _).alloc _
  have hr4 : W4.rowIs (w1.heap.size + 2) 71 1 (fun _ => .slice none 0 0) := by
    have := row1 ((w1.alloc (.cells #[.pointer (some ⟨d, 0, none⟩), .string dir, .string ⟨#[]⟩, .slice none 0 0, .int .i64 0] 143)).alloc (.cells #[.pointer (some ⟨w1.heap.size, 0, none⟩)] 65)) (.slice none 0 0) 71
    rw [hs1, hs1] at this
    rw [eW4, eW3]
    exact this.alloc _
  have hs4 : W4.rowIs (w1.heap.size + 3) 31 1 (fun _ => .int .i64 0) := by
    have := row1 W3 (.int .i64 0) 31
    rw [hz3] at this
    rw [eW4]
    exact this
  have hgw4 : w.grownBy W4 none := HG1.out.trans hg14
  have HM := w_mend base w1.heap.size d mb n dir (.slice none 0 0) 0 x B K Ls W4 HDIR.out (HT.out.grown hgw4) hW4 (DV.kept HD.out hgw4) (fun h => by have := HB.out _ h; have := HG1.out.size; omega) hon HLOG.out hn hsz hln
  have HC := w_caught44 #[.pointer (some ⟨w1.heap.size + 1, 0, none⟩), .pointer (some ⟨w1.heap.size + 2, 0, none⟩)] (fun w2 => ∃ (v : Sl) (w5 : World), MendOut W4 w1.heap.size d dir K Ls (.returned (slV v)) w5 ∧ w2 = w5.setCell ⟨w1.heap.size + 2, 0, none⟩ (slV v)) W3 (by
    rw [← eW4, hz3]
    refine (w_open1 (w1.heap.size + 1) (w1.heap.size + 2) w1.heap.size (.slice none 0 0) W4 (fun v w5 => MendOut W4 w1.heap.size d dir K Ls (.returned (slV v)) w5) (hq4.cell (i := 0) (by omega)) (HM.mono ?_)).mono ?_
    · rintro e w5 hout
      obtain ⟨v, m, a1, k1, b1, rfl, h1, h2, h3, h4, h6⟩ := hout
      have hr5 := hr4.of_block (h6.block _ hr4.lt (fun h => by have := Option.some.inj h; omega))
      exact ⟨v, rfl, ⟨v, m, a1, k1, b1, rfl, h1, h2, h3, h4, h6⟩, hr5.cell (i := 0) (by omega), hr5.frozen 0⟩
    · rintro e w2 ⟨rfl, v, w5, hout, rfl, _⟩
      refine ⟨rfl, ⟨v, w5, hout, rfl⟩, ?_⟩
      obtain ⟨v', m, a1, k1, b1, _, h1, h2, h3, h4, h6⟩ := hout
      have hs5 := (hs4.of_block (h6.block _ hs4.lt (fun h => by have := Option.some.inj h; omega))).setOther (a := ⟨w1.heap.size + 2, 0, none⟩) (by show w1.heap.size + 3 ≠ w1.heap.size + 2; omega) (slV v)
      exact ⟨hs5.cell (i := 0) (by omega), hs5.frozen 0⟩)
  rw [hz3] at HC
  have HC : Hid (Calls Tryz.prog 97 #[.func (.func 120) #[] #[.pointer (some ⟨w1.heap.size + 1, 0, none⟩), .pointer (some ⟨w1.heap.size + 2, 0, none⟩)]] W3 fun e w' => e = .returned (.int .i64 0) ∧ ∃ w2, (∃ (v : Sl) (w5 : World), MendOut W4 w1.heap.size d dir K Ls (.returned (slV v)) w5 ∧ w2 = w5.setCell ⟨w1.heap.size + 2, 0, none⟩ (slV v)) ∧ w' = w2.setCell ⟨w1.heap.size + 3, 0, none⟩ (.int .i64 0)) := HC
  rw [← eW3, show w1.heap.size + 1 + 1 = w1.heap.size + 2 from rfl]
  have HQ4 : Hid (W4.rowIs (w1.heap.size + 1) 65 1 (fun _ => .pointer (some ⟨w1.heap.size, 0, none⟩))) := hq4
  have HR4 : Hid (W4.rowIs (w1.heap.size + 2) 71 1 (fun _ => .slice none 0 0)) := hr4
  have HGW4 : Hid (w.grownBy W4 none) := hgw4
  have HZ4 : Hid (W4.heap.size = w1.heap.size + 4) := hz4
  clear HM hs1 hz3 hz4 hr0 hg14 hW4 hq4 hr4 hs4 hgw4 eW3 eW4
  refine HC.out.mono ?_
  rintro e w3 ⟨rfl, w2, ⟨v, w5, hout, rfl⟩, rfl⟩
  obtain ⟨v', m, a1, k1, b1, ev, ⟨lo, hlo, hpl, hal, h1⟩, h2, h3, h4, h6⟩ := hout
  have ev' : slV v' = slV v := by injection ev with ev; exact ev.symm
  rw [ev'] at h1
  have HPK := open_pack (u := slV v) (u' := .int .i64 0) HGW4.out HG1.out.size (show w1.heap.size < w1.heap.size + 2 by omega) (show w1.heap.size + 2 < w1.heap.size + 3 by omega) (by rw [HZ4.out]; omega) hlo hpl hal h1 h2 h3 h4 h6
  have cq : ((w5.setCell ⟨w1.heap.size + 2, 0, none⟩ (slV v)).setCell ⟨w1.heap.size + 3, 0, none⟩ (.int .i64 0)).cell? ⟨w1.heap.size + 1, 0, none⟩ = some (.pointer (some ⟨w1.heap.size, 0, none⟩)) := by
    have := ((HQ4.out.of_block (h6.block _ HQ4.out.lt (fun h => by have := Option.some.inj h; omega))).setOther (a := ⟨w1.heap.size + 2, 0, none⟩) (by show w1.heap.size + 1 ≠ w1.heap.size + 2; omega) (slV v)).setOther (a := ⟨w1.heap.size + 3, 0, none⟩) (by show w1.heap.size + 1 ≠ w1.heap.size + 3; omega) (.int .i64 0)
    exact this.cell (i := 0) (by omega)
  have cr : ((w5.setCell ⟨w1.heap.size + 2, 0, none⟩ (slV v)).setCell ⟨w1.heap.size + 3, 0, none⟩ (.int .i64 0)).cell? ⟨w1.heap.size + 2, 0, none⟩ = some (slV v) := by
    have := ((HR4.out.of_block (h6.block _ HR4.out.lt (fun h => by have := Option.some.inj h; omega))).set 0 (slV v)).setOther (a := ⟨w1.heap.size + 3, 0, none⟩) (by show w1.heap.size + 2 ≠ w1.heap.size + 3; omega) (.int .i64 0)
    exact this.cell (i := 0) (by omega)
  have HP : Hid (OpenOut w d dir K Ls (.returned (.tuple #[.pointer (some ⟨w1.heap.size, 0, none⟩), slV v, .int .i64 0])) ((w5.setCell ⟨w1.heap.size + 2, 0, none⟩ (slV v)).setCell ⟨w1.heap.size + 3, 0, none⟩ (.int .i64 0)).drew) := HPK
  clear HPK h1 h2 h3 h4 h6 ev ev' HC HQ4 HR4 hlo hpl hal
  unfold slV at cq cr HP ⊢
  go_wp2
  go_region
  all_goals go_wp2
  all_goals go_ret3
  all_goals exact HP.out
end Go.Proofs.YtgpgkpciajajcaaGreatDoor

/- Package disk as a value: Sync and Delete make no file. -/
namespace Go.Proofs.YtgpgkpciajajcaaGreatDoor
open Go.RowKit Go.Maps
set_option linter.unusedVariables false
set_option maxRecDepth 20000

/-- A call leaves the disk at that value; no file is new. -/
def LeavesN (w : World) (base d mb n : Nat) (r : Int × DSt) (B : Nat → Prop) (e : Ending) (w' : World) : Prop := e = .returned (.int .i64 r.1) ∧ ∃ n' B', n' ≤ n ∧ DS w' base d mb n' r.2 B' ∧ Step w w' B B'
theorem leavesN_same {w w' : World} {base d mb n : Nat} {c : Int} {x : DSt} {B : Nat → Prop} (h : DS w base d mb n x B) (hg : w.grownBy w' none) : LeavesN w base d mb n (c, x) B (.returned (.int .i64 c)) w' :=
  ⟨rfl, n, B, Nat.le_refl _, DV.kept h hg, Step.grown B hg⟩
theorem x_syncN (base d mb n : Nat) (x : DSt) (B : Nat → Prop) (s : ByteArray) (w : World) (h : DS w base d mb n x B) (hok : x.ok) (hnm : nameB s = true) :
    Calls Tryz.prog 104 #[.pointer (some ⟨d, 0, none⟩), .string s] w (LeavesN w base d mb n (x.sync s) B) := by
  obtain ⟨off, set, ah, kp, wn, V⟩ := x
  obtain ⟨hw, ha, hk⟩ := hok
  unfold DSt.sync
  cases off with
  | true =>
    refine (v_syncNot base d mb n true set ah kp wn V B s 60 w h hnm (.inl ⟨rfl, rfl⟩)).mono ?_
    rintro e w' ⟨rfl, hg⟩
    exact leavesN_same h hg
  | false =>
    rw [if_neg (by simp)]
    dsimp only
    cases hV : V s with
    | none =>
      refine (v_syncNot base d mb n false set ah kp wn V B s 62 w h hnm (.inr ⟨rfl, hV, rfl⟩)).mono ?_
      rintro e w' ⟨rfl, hg⟩
      exact leavesN_same h hg
    | some p =>
      obtain ⟨Z, Y⟩ := p
      dsimp only
      unfold DSt.wr
      cases set with
      | false =>
        refine (v_sync base d mb n ah kp wn V B s Z Y w h hnm hV hw).mono ?_
        rintro e w' ⟨rfl, B', hd', hst⟩
        exact ⟨rfl, n, B', Nat.le_refl _, hd', hst⟩
      | true =>
        rw [if_neg (by simp)]
        by_cases h0 : ah = 0
        · subst h0
          refine (v_syncLost base d mb n kp wn V B s Z Y w h hnm hV hw hk).mono ?_
          rintro e w' ⟨rfl, hd', hst⟩
          exact ⟨rfl, n, B, Nat.le_refl _, hd', hst⟩
        · rw [if_neg h0]
          have h1 := ha rfl
          refine (v_syncArmed base d mb n ah kp wn V B s Z Y w h hnm hV hw (by dsimp only at h1; omega)).mono ?_
          rintro e w' ⟨rfl, B', hd', hst⟩
          exact ⟨rfl, n, B', Nat.le_refl _, hd', hst⟩
theorem x_deleteN (base d mb n : Nat) (x : DSt) (B : Nat → Prop) (s : ByteArray) (w : World) (h : DS w base d mb n x B) (hok : x.ok) (hnm : nameB s = true) :
    Calls Tryz.prog 141 #[.pointer (some ⟨d, 0, none⟩), .string s] w (LeavesN w base d mb n (x.delete s) B) := by
  obtain ⟨off, set, ah, kp, wn, V⟩ := x
  obtain ⟨hw, ha, hk⟩ := hok
  unfold DSt.delete
  cases off with
  | true =>
    refine (v_deleteNot base d mb n true set ah kp wn V B s 60 w h hnm (.inl ⟨rfl, rfl⟩)).mono ?_
    rintro e w' ⟨rfl, hg⟩
    exact leavesN_same h hg
  | false =>
    rw [if_neg (by simp)]
    dsimp only
    cases hV : V s with
    | none =>
      refine (v_deleteNot base d mb n false set ah kp wn V B s 62 w h hnm (.inr ⟨rfl, hV, rfl⟩)).mono ?_
      rintro e w' ⟨rfl, hg⟩
      exact leavesN_same h hg
    | some p =>
      obtain ⟨Z, Y⟩ := p
      dsimp only
      unfold DSt.wr
      cases set with
      | false =>
        refine (v_delete base d mb n ah kp wn V B s Z Y w h hnm hV hw).mono ?_
        rintro e w' ⟨rfl, hd', hst⟩
        exact ⟨rfl, n, B, Nat.le_refl _, hd', hst⟩
      | true =>
        rw [if_neg (by simp)]
        by_cases h0 : ah = 0
        · subst h0
          refine (v_deleteLost base d mb n kp wn V B s Z Y w h hnm hV hw hk).mono ?_
          rintro e w' ⟨rfl, hd', hst⟩
          exact ⟨rfl, n, B, Nat.le_refl _, hd', hst⟩
        · rw [if_neg h0]
          have h1 := ha rfl
          refine (v_deleteArmed base d mb n ah kp wn V B s Z Y w h hnm hV hw (by dsimp only at h1; omega)).mono ?_
          rintro e w' ⟨rfl, hd', hst⟩
          exact ⟨rfl, n, B, Nat.le_refl _, hd', hst⟩
end Go.Proofs.YtgpgkpciajajcaaGreatDoor

