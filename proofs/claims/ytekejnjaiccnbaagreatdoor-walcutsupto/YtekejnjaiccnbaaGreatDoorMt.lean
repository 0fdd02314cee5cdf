/- Several texts in one: We, Wc. -/
import Derived.Test.YtekejnjaiccnbaaGreatDoorMs
/- Package wal: mend, of a folder that is whole. -/
namespace Go.Proofs.YtekejnjaiccnbaaGreatDoor
open Go.RowKit Go.Maps Go.Sort
set_option linter.unusedVariables false
set_option maxRecDepth 20000

theorem DS.others {w w' : World} {base d mb n : Nat} {x : DSt} {B X : Nat → Prop} (h : DS w base d mb n x B) (hg : Kept w w' X) (hX : ∀ k, B k → ¬ X k) : DS w' base d mb n x B := by
  obtain ⟨F, G, hd, hv, hb⟩ := h
  exact ⟨F, G, hd.others hg (hX _ (hb _ (.inl rfl))) (hX _ (hb _ (.inr (.inl rfl)))) (fun s b hs => ⟨hX _ (hb _ (.inr (.inr ⟨s, b, hs, .inl rfl⟩))), fun y hy => hX _ (hb _ (.inr (.inr ⟨s, b, hs, .inr ⟨y, hy, rfl⟩⟩)))⟩), hv, hb⟩
theorem Tab.row {w w' : World} {p d : Nat} {dir cp : ByteArray} {v : Value} {op : Int} (h : Tab w) (hr : WRow w p d dir cp v op) (hg : w.grownBy w' (some p)) : Tab w' := by
  unfold Tab Lib.TabIs World.var? at h ⊢
  cases hn : Tryz.prog.globalNamed "internal/strconv.uint64pow10" with
  | none => rw [hn] at h; cases h
  | some g =>
    rw [hn] at h
    simp only [Option.bind_some] at h ⊢
    have hlt : g < w.heap.size := by
      rcases Nat.lt_or_ge g w.heap.size with h1 | h1
      · exact h1
      · rw [Array.getElem?_eq_none h1] at h; cases h
    have hne : some g ≠ some p := by
      intro e
      have e' : g = p := Option.some.inj e
      subst e'
      obtain ⟨c, h1, h2, h3⟩ := hr
      rw [h1] at h
      simp only [Option.some.injEq] at h
      rw [h] at h2
      simp [Lib.pow10Tab] at h2
    rw [hg.block g hlt hne]
    exact h
/-- The open segment's number. -/
def openN (K : Option (Nat × List (List Int))) (Ls : List (Nat × List (List Int))) : Nat := match (Ls.map Prod.fst).getLast? with
  | none => lastN K + 1
  | some k => k
/-- A folder that is whole: its checkpoint, its segments. -/
structure Log (V : Cont) (dir : ByteArray) (K : Option (Nat × List (List Int))) (Ls : List (Nat × List (List Int))) : Prop where
  folder : Folder V dir (cpNums K) false (Ls.map Prod.fst)
  cp : CpIs V dir (cpName dir K) K
  whole : Whole V dir Ls
  above : ∀ q ∈ Ls, lastN K < q.1
  big : lastN K < 100000000
/-- Records in memory from lo on. -/
def RecsLo (lo : Nat) (w' : World) (v : Value) (n : Nat) (recs : List (List Int)) : Prop := ∃ ts, SOwn slE 27 w' lo v n ts ∧ RecsAt w' lo v.ownBlock ts recs ∧ n = recs.length ∧ (recs = [] → v = .slice none 0 0)
/-- What mend answers. -/
def MendOut (w : World) (p d : Nat) (dir : ByteArray) (K : Option (Nat × List (List Int))) (Ls : List (Nat × List (List Int))) (e : Ending) (w' : World) : Prop := ∃ (v : Sl) (m : Nat) (a1 : Option Addr) (k1 b1 : Nat), e = .returned (slV v) ∧ (∃ lo, w.heap.size ≤ lo ∧ p < lo ∧ (∀ y, a1 = some y → y.block < lo) ∧ RecsLo lo w' (slV v) m (cpRecs K ++ recsOf Ls)) ∧ WRow w' p d dir (cpName dir K) (.slice a1 Ls.length k1) (openN K Ls : Int) ∧ SOwn intE 3 w' b1 (.slice a1 Ls.length k1) Ls.length (nI (Ls.map Prod.fst)) ∧ w.heap.size ≤ b1 ∧ w.grownBy w' (some p)
set_option maxHeartbeats 8000000 in
theorem w_mend (base p d mb n : Nat) (dir : ByteArray) (v0 : Value) (op : Int) (x : DSt) (B : Nat → Prop) (K : Option (Nat × List (List Int))) (Ls : List (Nat × List (List Int))) (w : World) (hdir : dirB dir = true) (ht : Tab w) (h : WRow w p d dir ⟨#[]⟩ v0 op) (hd : DS w base d mb n x B) (hBp : ¬ B p) (hon : x.off = false) (hlog : Log x.V dir K Ls) (hn : n ≤ 4194304) (hsz : (cpRecs K ++ recsOf Ls).length ≤ 4194304) (hln : Ls.length ≤ 4194304) :
    Calls Tryz.prog 45 #[.pointer (some ⟨p, 0, none⟩)] w (MendOut w p d dir K Ls) := by
  have hds : dir.size ≤ 32 := by simp only [dirB, Bool.and_eq_true, decide_eq_true_eq] at hdir; exact hdir.2
  have HLK : Hid (Calls Tryz.prog 90 #[.pointer (some ⟨p, 0, none⟩)] w (LookOut w (cpNums K) (Ls.map Prod.fst) false)) := w_look base p d mb n dir ⟨#[]⟩ v0 op x B (cpNums K) (Ls.map Prod.fst) false w hdir h hd hon hlog.folder hn (fun k hk => by obtain ⟨q, hq, rfl⟩ := List.mem_map.1 hk; have := hlog.above q hq; omega)
  have HW : Hid (WRow w p d dir ⟨#[]⟩ v0 op) := h
  have HD : Hid (DS w base d mb n x B) := hd
  have HT : Hid (Tab w) := ht
  have HB : Hid (¬ B p) := hBp
  have HDIR : Hid (dirB dir = true) := hdir
  have HLOG : Hid (Log x.V dir K Ls) := hlog
  have eL2 : (Ls.map Prod.fst).length = Ls.length := List.length_map _
  have HBIG := HLOG.out.big
  clear h hd ht hBp hdir hlog
  go_enter Tryz.func45, Tryz.ntmps45
  go_wp2_with fail
  refine HLK.out.mono ?_
  rintro e w1 ⟨a0, k0, a1, k1, b1, rfl, ho0, ho1, hb0, hb1, hg1, hnil⟩
  have hga : w1.grownBy (w1.alloc (.cells #[.slice a0 (cpNums K).length k0, .slice a1 Ls.length k1, .bool false] 115)) none := World.grownBy_alloc w1 _ none
  have hgw := hg1.trans hga
  have HGW : Hid (w.grownBy (w1.alloc (.cells #[.slice a0 (cpNums K).length k0, .slice a1 Ls.length k1, .bool false] 115)) none) := hgw
  have hpb : p < b1 := Nat.lt_of_lt_of_le HW.out.lt hb1
  have hs1 := SOwn.kept ho1 hga (by cases a1 <;> simp [Value.ownBlock])
  have HWA : Hid (WRow (w1.alloc (.cells #[.slice a0 (cpNums K).length k0, .slice a1 Ls.length k1, .bool false] 115)) p d dir ⟨#[]⟩ v0 op) := HW.out.kept hgw (by simp)
  have HTA : Hid (Tab (w1.alloc (.cells #[.slice a0 (cpNums K).length k0, .slice a1 Ls.length k1, .bool false] 115))) := HT.out.grown hgw
  have HDO : Hid (Calls Tryz.prog 93 #[.pointer (some ⟨p, 0, none⟩), FolderV (.slice a0 (cpNums K).length k0) (.slice a1 Ls.length k1) false] (w1.alloc (.cells #[.slice a0 (cpNums K).length k0, .slice a1 Ls.length k1, .bool false] 115)) fun e w' => e = .returned (.int .i64 (lastN K : Int)) ∧ WRow w' p d dir (cpName dir K) (.slice a1 Ls.length k1) op ∧ (w1.alloc (.cells #[.slice a0 (cpNums K).length k0, .slice a1 Ls.length k1, .bool false] 115)).grownBy w' (some p)) := by
    have := w_dropOld p d dir v0 op K (Ls.map Prod.fst) a0 a1 k0 k1 w.heap.size b1 false (w1.alloc (.cells #[.slice a0 (cpNums K).length k0, .slice a1 Ls.length k1, .bool false] 115)) (by omega) HTA.out HBIG HWA.out (SOwn.kept ho0 hga (by cases a0 <;> simp [Value.ownBlock])) hs1 HLOG.out.folder.segr.1 (fun k hk => by obtain ⟨q, hq, rfl⟩ := List.mem_map.1 hk; exact HLOG.out.above q hq) (by rw [eL2]; exact hln) hnil hpb
    rw [eL2] at this
    exact this
  rw [eL2] at hs1 ho1 ⊢
  have HS1 : Hid (SOwn intE 3 (w1.alloc (.cells #[.slice a0 (cpNums K).length k0, .slice a1 Ls.length k1, .bool false] 115)) b1 (.slice a1 Ls.length k1) Ls.length (nI (Ls.map Prod.fst))) := hs1
  have HB1 : Hid (∀ y, a1 = some y → y.block < w1.heap.size) := fun y hy => by subst hy; exact (ho1.block _ rfl).2
  have HNIL : Hid (Ls.map Prod.fst = [] → a1 = none ∧ k1 = 0) := hnil
  clear ho0 ho1 hb0 hg1 hnil HLK hga hgw hs1
  unfold FolderV at HDO ⊢
  go_wp2_with fail
  refine HDO.out.mono ?_
  rintro e w3 ⟨rfl, hW3, hg3⟩
  have hgw3 : w.grownBy w3 (some p) := gb_trans (gb_any HGW.out _) hg3 (fun k hk => .inr hk)
  have hs3 := SOwn.kept HS1.out hg3 (.inr (fun e => by have := (HS1.out.block _ e).1; omega))
  have HRA : Hid (Calls Tryz.prog 94 #[.pointer (some ⟨p, 0, none⟩)] w3 (AllOut w3 (cpRecs K ++ recsOf Ls))) := w_replayAll base p d mb n dir (cpName dir K) a1 k1 op x B K Ls w3 HDIR.out (HTA.out.row HWA.out hg3) hW3 hs3.rd (HD.out.others (Kept.of hgw3 (X := fun k => k = p) (fun k hk => by cases hk; rfl)) (fun k hk e => HB.out (e ▸ hk))) hon HLOG.out.cp HLOG.out.whole hsz hln
  have HW3 : Hid (WRow w3 p d dir (cpName dir K) (.slice a1 Ls.length k1) op) := hW3
  have HS3 : Hid (SOwn intE 3 w3 b1 (.slice a1 Ls.length k1) Ls.length (nI (Ls.map Prod.fst))) := hs3
  have HG3 : Hid (w.grownBy w3 (some p)) := hgw3
  have HSZ3 : Hid (w1.heap.size ≤ w3.heap.size) := by
    have h1 := hg3.size
    have h2 : (w1.alloc (.cells #[.slice a0 (cpNums K).length k0, .slice a1 Ls.length k1, .bool false] 115)).heap.size = w1.heap.size + 1 := Array.size_push _
    show _ ≤ _
    omega
  clear hW3 hg3 hgw3 hs3 HDO
  go_wp2_with fail
  refine HRA.out.mono ?_
  rintro e w4 ⟨rv, rfl, ⟨m, hro⟩, hg4⟩
  have HRO : Hid (RecsOut w3 w4 (slV rv) m (cpRecs K ++ recsOf Ls)) := hro
  have HG4 : Hid (w3.grownBy w4 none) := hg4
  have hW4 := HW3.out.kept hg4 (by simp)
  have HW4 : Hid (WRow w4 p d dir (cpName dir K) (.slice a1 Ls.length k1) op) := hW4
  have HS4 : Hid (SOwn intE 3 w4 b1 (.slice a1 Ls.length k1) Ls.length (nI (Ls.map Prod.fst))) := SOwn.kept HS3.out hg4 (by cases a1 <;> simp [Value.ownBlock])
  have y4 := hW4.cells.2.2.2.2
  have z4 := hW4.frozen 4
  have HFIN : Hid (∀ (u : Int) (w5 : World), WRow w5 p d dir (cpName dir K) (.slice a1 Ls.length k1) u → w4.grownBy w5 (some p) → u = (openN K Ls : Int) → MendOut w p d dir K Ls (.returned (slV rv)) w5) := fun u w5 hW5 hg5 hu => by
    subst hu
    have hpl := HW3.out.lt
    obtain ⟨ts, t1, t2, t3, t4⟩ := HRO.out
    refine ⟨rv, m, a1, k1, b1, rfl, ⟨w3.heap.size, HG3.out.size, hpl, fun y hy => Nat.lt_of_lt_of_le (HB1.out y hy) HSZ3.out, ts, SOwn.kept t1 hg5 (.inr (fun e => by have := (t1.block _ e).1; omega)), t2.kept hg5 (fun k hk => .inl (by cases hk; exact hpl)), t3, t4⟩, hW5, SOwn.kept HS4.out hg5 (.inr (fun e => by have := (HS4.out.block _ e).1; omega)), hb1, gb_trans (gb_trans HG3.out HG4.out (fun k hk => by cases hk)) hg5 (fun k hk => .inr hk)⟩
  have hW5 := hW4.set 4 (.int .i64 ((lastN K : Int) + 1))
  have HW5 : Hid (WRow (w4.setCell ⟨p, 4, none⟩ (.int .i64 ((lastN K : Int) + 1))) p d dir (cpName dir K) (.slice a1 Ls.length k1) ((lastN K : Int) + 1)) := hW5.congr (five rfl rfl rfl rfl rfl)
  have y5 := HW5.out.cells.2.2.2.1
  have q5 : -9223372036854775808 ≤ (lastN K : Int) + 1 ∧ (lastN K : Int) + 1 ≤ 9223372036854775807 := by omega
  clear hro hg4 hW4 hW5 HRA
  rcases Nat.eq_zero_or_pos Ls.length with hz | hz
  · have HOP : Hid (((lastN K : Int) + 1) = (openN K Ls : Int)) := by
      show _ = _
      have : Ls = [] := List.eq_nil_of_length_eq_zero hz
      subst this
      simp [openN]
    rw [hz] at y5
    go_wp2
    go_ret
    exact HFIN.out _ _ HW5.out (gb_set rfl) HOP.out
  · obtain ⟨k, hk⟩ : ∃ k, (Ls.map Prod.fst)[Ls.length - 1]? = some k := ⟨_, List.getElem?_eq_getElem (by rw [eL2]; omega)⟩
    have HOP : Hid ((k : Int) = (openN K Ls : Int)) := by
      show _ = _
      unfold openN
      rw [List.getLast?_eq_getElem?, eL2, hk]
    obtain ⟨b, off, rfl, hcell⟩ := nI_cell HS4.out.rd hk
    obtain ⟨L', eL'⟩ : ∃ L', Ls.length = L' + 1 := ⟨Ls.length - 1, by omega⟩
    rw [eL', show L' + 1 - 1 = L' from rfl] at hcell
    have hbl := (HS4.out.block b rfl).1
    have hcell5 : (w4.setCell ⟨p, 4, none⟩ (.int .i64 ((lastN K : Int) + 1))).cell? ⟨b, off + L', none⟩ = some (.int .i64 (k : Int)) := by
      have hgs : w4.grownBy (w4.setCell ⟨p, 4, none⟩ (.int .i64 ((lastN K : Int) + 1))) (some p) := gb_set rfl
      exact hgs.cell hcell (by simp; omega)
    have z5 := HW5.out.frozen 4
    have x5 := HW5.out.cells.2.2.2.2
    have HW6 : Hid (WRow ((w4.setCell ⟨p, 4, none⟩ (.int .i64 ((lastN K : Int) + 1))).setCell ⟨p, 4, none⟩ (.int .i64 (k : Int))) p d dir (cpName dir K) (.slice (some ⟨b, off, none⟩) Ls.length k1) (k : Int)) := (HW5.out.set 4 (.int .i64 (k : Int))).congr (five rfl rfl rfl rfl rfl)
    rw [eL'] at y5
    have qL : (L' : Int) < (L' : Int) + 1 := by omega
    have hL4 : (L' : Int) ≤ 4194304 := by omega
    clear hk hcell hbl hz
    go_wp2
    go_ret
    exact HFIN.out _ _ HW6.out (gb_trans (gb_set rfl) (gb_set rfl) (fun k hk => .inr hk)) HOP.out
end Go.Proofs.YtekejnjaiccnbaaGreatDoor

/- Package wal: what is thrown is caught. (Printed by mk_caught.py.) -/
namespace Go.Proofs.YtekejnjaiccnbaaGreatDoor
open Go.RowKit Go.Maps Go.Sort
set_option linter.unusedVariables false
set_option maxRecDepth 20000

theorem w_idle (c : Nat) (w : World) : CallsD Tryz.prog 89 #[.pointer (some ⟨c, 0, none⟩)] .returning w fun e u' w' => e = .returned (.tuple #[]) ∧ u' = .returning ∧ w' = w := by
  refine callsD_of_wpS Tryz.func89 rfl fun c₀ cs hu => ?_
  apply wpS_seq
  apply wpS_region
  simp [wpOpsS, go_sem, recoverD, hu, Tryz.ntmps89, Exit.thenS]
  refine wpS_of_wp ?_
  refine wp_block ?_
  go_wp2
  cases c₀
  simp_all [bodyPostS, results, Tryz.results89]
theorem run_thrown (x : Int) (w : World) : (Instr.typeAssert (.iface 37 (.int .i64 x)) 20 37 true).run Tryz.prog w = .ok (.tuple #[.int .i64 x, .bool true]) w := by kernel_rfl
theorem w_caught44 (caps : Array Value) (P : World → Prop) (w : World)
    (hcl : Calls Tryz.prog 44 caps (w.alloc (.cells #[.int .i64 0] 37)) fun e w' => e = .returned (.tuple #[]) ∧ P w' ∧ w'.cell? ⟨w.heap.size, 0, none⟩ = some (.int .i64 0) ∧ w'.frozen? ⟨w.heap.size, 0, none⟩ = false) :
    Calls Tryz.prog 43 #[.func (.func 44) #[] caps] w fun e w' => e = .returned (.int .i64 0) ∧ ∃ w1, P w1 ∧ w' = w1.setCell ⟨w.heap.size, 0, none⟩ (.int .i64 0) := by
  have hmf : ∀ (fn : Fn) (first cap : Array Value) (w : World), (Instr.makeFunc fn first cap).run Tryz.prog w = .ok (.func fn first cap) w := fun _ _ _ _ => rfl
  go_enter_defers Tryz.func43, Tryz.ntmps43
  go_wp2_with fail
  refine hcl.mono ?_
  rintro e w1 ⟨rfl, hp, hc, hz⟩
  have HP : Hid (P w1) := hp
  clear hp hcl
  go_wp2
  refine leaves_cons (f := 89) (args := #[.pointer (some ⟨w.heap.size, 0, none⟩)]) (by simp) (by simp [go_sem]) ?_
  refine (w_idle w.heap.size _).mono ?_
  rintro e u' w'' ⟨rfl, rfl, rfl⟩
  have hcs : (w1.setCell ⟨w.heap.size, 0, none⟩ (.int .i64 0)).cell? ⟨w.heap.size, 0, none⟩ = some (.int .i64 0) := World.cell?_setCell_same' w1 _ _ (by rw [hc]; rfl)
  simp [Go.Leaves, settle, results, Tryz.results43, go_sem, hcs]
  exact ⟨w1, HP.out, rfl⟩
theorem w_caught47 (caps : Array Value) (P : World → Prop) (w : World)
    (hcl : Calls Tryz.prog 47 caps (w.alloc (.cells #[.int .i64 0] 37)) fun e w' => e = .returned (.tuple #[]) ∧ P w' ∧ w'.cell? ⟨w.heap.size, 0, none⟩ = some (.int .i64 0) ∧ w'.frozen? ⟨w.heap.size, 0, none⟩ = false) :
    Calls Tryz.prog 43 #[.func (.func 47) #[] caps] w fun e w' => e = .returned (.int .i64 0) ∧ ∃ w1, P w1 ∧ w' = w1.setCell ⟨w.heap.size, 0, none⟩ (.int .i64 0) := by
  have hmf : ∀ (fn : Fn) (first cap : Array Value) (w : World), (Instr.makeFunc fn first cap).run Tryz.prog w = .ok (.func fn first cap) w := fun _ _ _ _ => rfl
  go_enter_defers Tryz.func43, Tryz.ntmps43
  go_wp2_with fail
  refine hcl.mono ?_
  rintro e w1 ⟨rfl, hp, hc, hz⟩
  have HP : Hid (P w1) := hp
  clear hp hcl
  go_wp2
  refine leaves_cons (f := 89) (args := #[.pointer (some ⟨w.heap.size, 0, none⟩)]) (by simp) (by simp [go_sem]) ?_
  refine (w_idle w.heap.size _).mono ?_
  rintro e u' w'' ⟨rfl, rfl, rfl⟩
  have hcs : (w1.setCell ⟨w.heap.size, 0, none⟩ (.int .i64 0)).cell? ⟨w.heap.size, 0, none⟩ = some (.int .i64 0) := World.cell?_setCell_same' w1 _ _ (by rw [hc]; rfl)
  simp [Go.Leaves, settle, results, Tryz.results43, go_sem, hcs]
  exact ⟨w1, HP.out, rfl⟩
theorem w_caught51 (caps : Array Value) (P : World → Prop) (w : World)
    (hcl : Calls Tryz.prog 51 caps (w.alloc (.cells #[.int .i64 0] 37)) fun e w' => e = .returned (.tuple #[]) ∧ P w' ∧ w'.cell? ⟨w.heap.size, 0, none⟩ = some (.int .i64 0) ∧ w'.frozen? ⟨w.heap.size, 0, none⟩ = false) :
    Calls Tryz.prog 43 #[.func (.func 51) #[] caps] w fun e w' => e = .returned (.int .i64 0) ∧ ∃ w1, P w1 ∧ w' = w1.setCell ⟨w.heap.size, 0, none⟩ (.int .i64 0) := by
  have hmf : ∀ (fn : Fn) (first cap : Array Value) (w : World), (Instr.makeFunc fn first cap).run Tryz.prog w = .ok (.func fn first cap) w := fun _ _ _ _ => rfl
  go_enter_defers Tryz.func43, Tryz.ntmps43
  go_wp2_with fail
  refine hcl.mono ?_
  rintro e w1 ⟨rfl, hp, hc, hz⟩
  have HP : Hid (P w1) := hp
  clear hp hcl
  go_wp2
  refine leaves_cons (f := 89) (args := #[.pointer (some ⟨w.heap.size, 0, none⟩)]) (by simp) (by simp [go_sem]) ?_
  refine (w_idle w.heap.size _).mono ?_
  rintro e u' w'' ⟨rfl, rfl, rfl⟩
  have hcs : (w1.setCell ⟨w.heap.size, 0, none⟩ (.int .i64 0)).cell? ⟨w.heap.size, 0, none⟩ = some (.int .i64 0) := World.cell?_setCell_same' w1 _ _ (by rw [hc]; rfl)
  simp [Go.Leaves, settle, results, Tryz.results43, go_sem, hcs]
  exact ⟨w1, HP.out, rfl⟩
theorem w_caught57 (caps : Array Value) (P : World → Prop) (w : World)
    (hcl : Calls Tryz.prog 57 caps (w.alloc (.cells #[.int .i64 0] 37)) fun e w' => e = .returned (.tuple #[]) ∧ P w' ∧ w'.cell? ⟨w.heap.size, 0, none⟩ = some (.int .i64 0) ∧ w'.frozen? ⟨w.heap.size, 0, none⟩ = false) :
    Calls Tryz.prog 43 #[.func (.func 57) #[] caps] w fun e w' => e = .returned (.int .i64 0) ∧ ∃ w1, P w1 ∧ w' = w1.setCell ⟨w.heap.size, 0, none⟩ (.int .i64 0) := by
  have hmf : ∀ (fn : Fn) (first cap : Array Value) (w : World), (Instr.makeFunc fn first cap).run Tryz.prog w = .ok (.func fn first cap) w := fun _ _ _ _ => rfl
  go_enter_defers Tryz.func43, Tryz.ntmps43
  go_wp2_with fail
  refine hcl.mono ?_
  rintro e w1 ⟨rfl, hp, hc, hz⟩
  have HP : Hid (P w1) := hp
  clear hp hcl
  go_wp2
  refine leaves_cons (f := 89) (args := #[.pointer (some ⟨w.heap.size, 0, none⟩)]) (by simp) (by simp [go_sem]) ?_
  refine (w_idle w.heap.size _).mono ?_
  rintro e u' w'' ⟨rfl, rfl, rfl⟩
  have hcs : (w1.setCell ⟨w.heap.size, 0, none⟩ (.int .i64 0)).cell? ⟨w.heap.size, 0, none⟩ = some (.int .i64 0) := World.cell?_setCell_same' w1 _ _ (by rw [hc]; rfl)
  simp [Go.Leaves, settle, results, Tryz.results43, go_sem, hcs]
  exact ⟨w1, HP.out, rfl⟩
end Go.Proofs.YtekejnjaiccnbaaGreatDoor

