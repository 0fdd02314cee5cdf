/- Package wal: mend, where the last file is torn. -/
import Derived.Test.YtekejnjaiccnbaaGreatDoorYa
import Derived.Test.YtekejnjaiccnbaaGreatDoorYb
namespace Go.Proofs.YtekejnjaiccnbaaGreatDoor
open Go.RowKit Go.Maps Go.Sort
set_option linter.unusedVariables false
set_option maxRecDepth 20000

/-- A folder whose last segment has something torn behind its records. -/
structure TornLog (V : Cont) (dir : ByteArray) (K : Kp) (Ls LL : Sg) (kl : Nat) (rl : List (List Int)) (tl : List Int) (sl : Nat) : Prop where
  all : LL = Ls ++ [(kl, rl)]
  folder : Folder V dir (cpNums K) false (LL.map Prod.fst)
  cp : CpIs V dir (cpName dir K) K
  whole : Whole V dir Ls
  last : V (segN dir kl) = some (logB frameR rl ++ tl, sl)
  recs : FileRecs (logB frameR rl ++ tl) rl tl
  above : ∀ q ∈ LL, lastN K < q.1
  big : lastN K < 100000000
  num : kl < 100000000
  noNew : V (newN dir) = none
/-- What mend has made of it. -/
def TornMend (base d mb n : Nat) (x' : DSt) (dir : ByteArray) (K : Kp) (LL : Sg) (B : Nat → Prop) (W : World) (p : Nat) (v : Sl) (w' : World) : Prop := ∃ (m n' : Nat) (A B' : Nat → Prop) (lo : Nat), RecsLo lo w' (slV v) m (cpRecs K ++ recsOf LL) ∧ n' ≤ n + 2 ∧ LogAt w' base d mb n' x' p dir (cpName dir K) (LL.map Prod.fst) (openN K LL) A B' ∧ Kept W w' (fun k => k = p ∨ B k) ∧ (∀ k, A k → k = p ∨ W.heap.size ≤ k) ∧ (∀ k, k < W.heap.size → B' k → B k) ∧ W.heap.size ≤ lo
set_option maxHeartbeats 16000000 in
theorem w_mendT (base d mb n : Nat) (dir : ByteArray) (x : DSt) (B : Nat → Prop) (K : Kp) (Ls LL : Sg) (kl : Nat) (rl : List (List Int)) (tl : List Int) (sl : Nat) (w W0 : World) (p : Nat) (hdir : dirB dir = true) (ht : Tab W0) (hMI : MendIn w W0 p d dir) (hd : DS W0 base d mb n x B) (hlp : ∀ k, B k → k < p) (hcalm : x.Calm) (hw : x.wn ≤ 999999980) (hn : n < 1048576) (hlog : TornLog x.V dir K Ls LL kl rl tl sl) (htl : tl ≠ []) (hrl : rl ≠ []) (hlb : (logB frameR rl).length ≤ 4194304) (hsz : (cpRecs K ++ recsOf LL).length ≤ 4194304) (hln : LL.length ≤ 4194304) (hb : base ≤ W0.heap.size) :
    Calls Tryz.prog 45 #[.pointer (some ⟨p, 0, none⟩)] W0 fun e w' => ∃ v : Sl, e = .returned (slV v) ∧ TornMend base d mb n (putX x dir (segN dir kl) (logB frameR rl)) dir K LL B W0 p v w' ∧ ∀ k, p < k → k < W0.heap.size → w'.heap[k]? = W0.heap[k]? := by
  have h := hMI.row
  have hon := hcalm.on
  have hltB : ∀ k, B k → k < W0.heap.size := fun k hk => Nat.lt_trans (hlp k hk) h.lt
  have hBp : ¬ B p := fun hk => Nat.lt_irrefl _ (hlp p hk)
  have HLTB : Hid (∀ k, B k → k < W0.heap.size) := hltB
  have HCALM : Hid x.Calm := hcalm
  have HTL : Hid (tl ≠ []) := htl
  have HRL : Hid (rl ≠ []) := hrl
  have HLP : Hid (∀ k, B k → k < p) := hlp
  clear hMI hltB hlp hcalm htl hrl
  have hds : dir.size ≤ 32 := by simp only [dirB, Bool.and_eq_true, decide_eq_true_eq] at hdir; exact hdir.2
  have HLK : Hid (Calls Tryz.prog 90 #[.pointer (some ⟨p, 0, none⟩)] W0 (LookOut W0 (cpNums K) (LL.map Prod.fst) false)) := w_look base p d mb n dir ⟨#[]⟩ (.slice none 0 0) 0 x B (cpNums K) (LL.map Prod.fst) false W0 hdir h hd hon hlog.folder (by omega) (fun k hk => by obtain ⟨q, hq, rfl⟩ := List.mem_map.1 hk; have := hlog.above q hq; omega)
  have HW : Hid (WRow W0 p d dir ⟨#[]⟩ (.slice none 0 0) 0) := h
  have HD : Hid (DS W0 base d mb n x B) := hd
  have HT : Hid (Tab W0) := ht
  have HB : Hid (¬ B p) := hBp
  have HDIR : Hid (dirB dir = true) := hdir
  have HLOG : Hid (TornLog x.V dir K Ls LL kl rl tl sl) := hlog
  have eL2 : (LL.map Prod.fst).length = LL.length := List.length_map _
  have HBIG := HLOG.out.big
  clear h hd ht hBp hdir hlog
  go_enter Tryz.func45, Tryz.ntmps45
  go_wp2_with fail
  refine HLK.out.mono ?_
  rintro e w1 ⟨a0, k0, a1, k1, b1, rfl, ho0, ho1, hb0, hb1, hg1, hnil⟩
  have hga : w1.grownBy (w1.alloc (.cells #[.slice a0 (cpNums K).length k0, .slice a1 LL.length k1, .bool false] 115)) none := World.grownBy_alloc w1 _ none
  have hgw := hg1.trans hga
  have HGW : Hid (W0.grownBy (w1.alloc (.cells #[.slice a0 (cpNums K).length k0, .slice a1 LL.length k1, .bool false] 115)) none) := hgw
  have hpb : p < b1 := Nat.lt_of_lt_of_le HW.out.lt hb1
  have hs1 := SOwn.kept ho1 hga (by cases a1 <;> simp [Value.ownBlock])
  have HWA : Hid (WRow (w1.alloc (.cells #[.slice a0 (cpNums K).length k0, .slice a1 LL.length k1, .bool false] 115)) p d dir ⟨#[]⟩ (.slice none 0 0) 0) := HW.out.kept hgw (by simp)
  have HTA : Hid (Tab (w1.alloc (.cells #[.slice a0 (cpNums K).length k0, .slice a1 LL.length k1, .bool false] 115))) := HT.out.grown hgw
  have HDO : Hid (Calls Tryz.prog 93 #[.pointer (some ⟨p, 0, none⟩), FolderV (.slice a0 (cpNums K).length k0) (.slice a1 LL.length k1) false] (w1.alloc (.cells #[.slice a0 (cpNums K).length k0, .slice a1 LL.length k1, .bool false] 115)) fun e w' => e = .returned (.int .i64 (lastN K : Int)) ∧ WRow w' p d dir (cpName dir K) (.slice a1 LL.length k1) 0 ∧ (w1.alloc (.cells #[.slice a0 (cpNums K).length k0, .slice a1 LL.length k1, .bool false] 115)).grownBy w' (some p)) := by
    have := w_dropOld p d dir (.slice none 0 0) 0 K (LL.map Prod.fst) a0 a1 k0 k1 W0.heap.size b1 false (w1.alloc (.cells #[.slice a0 (cpNums K).length k0, .slice a1 LL.length k1, .bool false] 115)) (by omega) HTA.out HBIG HWA.out (SOwn.kept ho0 hga (by cases a0 <;> simp [Value.ownBlock])) hs1 HLOG.out.folder.segr.1 (fun k hk => by obtain ⟨q, hq, rfl⟩ := List.mem_map.1 hk; exact HLOG.out.above q hq) (by rw [eL2]; exact hln) hnil hpb
    rw [eL2] at this
    exact this
  rw [eL2] at hs1 ho1 ⊢
  have HS1 : Hid (SOwn intE 3 (w1.alloc (.cells #[.slice a0 (cpNums K).length k0, .slice a1 LL.length k1, .bool false] 115)) b1 (.slice a1 LL.length k1) LL.length (nI (LL.map Prod.fst))) := hs1
  have HB1 : Hid (∀ y, a1 = some y → y.block < w1.heap.size) := fun y hy => by subst hy; exact (ho1.block _ rfl).2
  have HNIL : Hid (LL.map Prod.fst = [] → a1 = none ∧ k1 = 0) := hnil
  clear ho0 ho1 hb0 hg1 hnil HLK hga hgw hs1
  unfold FolderV at HDO ⊢
  go_wp2_with fail
  refine HDO.out.mono ?_
  rintro e w3 ⟨rfl, hW3, hg3⟩
  have hgw3 : W0.grownBy w3 (some p) := gb_trans (gb_any HGW.out _) hg3 (fun k hk => .inr hk)
  have hs3 := SOwn.kept HS1.out hg3 (.inr (fun e => by have := (HS1.out.block _ e).1; omega))
  have hB3 : ∀ k, B k → ¬ (k = p) := fun k hk e => HB.out (e ▸ hk)
  have hL3 : LogAt w3 base d mb n x p dir (cpName dir K) (LL.map Prod.fst) 0 (fun k => k = p ∨ ∃ y, a1 = some y ∧ k = y.block) B := by
    refine ⟨HD.out.others (Kept.of hgw3 (X := fun k => k = p) (fun k hk => by cases hk; rfl)) hB3, ⟨a1, k1, by rw [eL2]; exact hW3, by rw [eL2]; exact hs3.base (Nat.zero_le _), .inl rfl, fun y hy => ⟨.inr ⟨y, hy, rfl⟩, fun e => ?_⟩⟩, ?_, fun k hk => Nat.lt_of_lt_of_le (HLTB.out k hk) hgw3.size, ?_⟩
    · subst hy
      have := (HS1.out.block y.block rfl).1
      omega
    · rintro k (rfl | ⟨y, rfl, rfl⟩) hk
      · exact HB.out hk
      · have h1 := (HS1.out.block y.block rfl).1
        have h2 := HLTB.out _ hk
        omega
    · rintro k (rfl | ⟨y, rfl, rfl⟩)
      · exact hW3.lt
      · exact (hs3.block y.block rfl).2
  have HA : Hid (∀ k, (k = p ∨ ∃ y, a1 = some y ∧ k = y.block) → k = p ∨ W0.heap.size ≤ k) := by
    show ∀ k, _ → _
    rintro k (rfl | ⟨y, rfl, rfl⟩)
    · exact .inl rfl
    · exact .inr (Nat.le_trans hb1 (HS1.out.block y.block rfl).1)
  obtain ⟨A, eA⟩ : ∃ A : Nat → Prop, A = fun k => k = p ∨ ∃ y, a1 = some y ∧ k = y.block := ⟨_, rfl⟩
  rw [← eA] at hL3
  have HA : Hid (∀ k, A k → k = p ∨ W0.heap.size ≤ k) := by rw [eA]; exact HA.out
  have HRA : Hid (Calls Tryz.prog 94 #[.pointer (some ⟨p, 0, none⟩)] w3 (TornOut w3 base d mb n (putX x dir (segN dir kl) (logB frameR rl)) p dir (cpName dir K) (LL.map Prod.fst) 0 A B (cpRecs K ++ recsOf LL))) := w_replayAllT base p d mb n dir (cpName dir K) 0 x A B K Ls LL kl rl tl sl w3 HDIR.out (HTA.out.row HWA.out hg3) HLOG.out.all hL3 HCALM.out hw hn HLOG.out.noNew HLOG.out.cp HLOG.out.whole HLOG.out.last HLOG.out.recs HTL.out HRL.out HLOG.out.num hlb hsz hln (Nat.le_trans hb hgw3.size)
  have HG3 : Hid (W0.grownBy w3 (some p)) := hgw3
  have HLT3 : Hid (∀ k, A k ∨ B k → k < w3.heap.size) := fun k hk => hk.elim (hL3.ltA k) (hL3.ltB k)
  clear hL3 hW3 hg3 hgw3 hs3 HDO HS1 HWA HTA HGW hB3 eA HB1 HNIL
  go_wp2_with fail
  refine HRA.out.mono ?_
  rintro e w4 ⟨rv, m, n4, B4, rfl, hro, hn4, hL4, hS4⟩
  have HRO : Hid (RecsOut w3 w4 (slV rv) m (cpRecs K ++ recsOf LL)) := hro
  have HS4 : Hid (Step2 w3 w4 A B A B4) := hS4
  have hLa := hL4.setOpen (lastN K + 1) ((lastN K : Int) + 1) (by omega)
  obtain ⟨L', eL'⟩ : ∃ L', LL.length = L' + 1 := ⟨Ls.length, by rw [HLOG.out.all]; simp⟩
  obtain ⟨k, hk⟩ : ∃ k, (LL.map Prod.fst)[LL.length - 1]? = some k := ⟨_, List.getElem?_eq_getElem (by rw [eL2]; omega)⟩
  have HOP : Hid (k = openN K LL) := by
    show _ = _
    unfold openN
    rw [List.getLast?_eq_getElem?, eL2, hk]
  have hLb := hLa.1.setOpen k (k : Int) rfl
  have HLb : Hid (LogAt ((w4.setCell ⟨p, 4, none⟩ (.int .i64 ((lastN K : Int) + 1))).setCell ⟨p, 4, none⟩ (.int .i64 (k : Int))) base d mb n4 (putX x dir (segN dir kl) (logB frameR rl)) p dir (cpName dir K) (LL.map Prod.fst) k A B4) := hLb.1
  have HS6 : Hid (Step2 w3 ((w4.setCell ⟨p, 4, none⟩ (.int .i64 ((lastN K : Int) + 1))).setCell ⟨p, 4, none⟩ (.int .i64 (k : Int))) A B A B4) := (hS4.trans hLa.2).trans hLb.2
  obtain ⟨a4, k4, hW4, _, _, _⟩ := hL4.wal
  obtain ⟨a5, k5, hW5, hso5, _, hay5⟩ := hLa.1.wal
  rw [eL2] at hW4 hW5 hso5
  have y4 := hW4.cells.2.2.2.2
  have z4 := hW4.frozen 4
  have y5 := hW5.cells.2.2.2.1
  have x5 := hW5.cells.2.2.2.2
  have z5 := hW5.frozen 4
  obtain ⟨b, off, rfl, hcell5⟩ := nI_cell hso5.rd hk
  rw [eL'] at y5
  rw [eL', show L' + 1 - 1 = L' from rfl] at hcell5
  have q5 : -9223372036854775808 ≤ (lastN K : Int) + 1 ∧ (lastN K : Int) + 1 ≤ 9223372036854775807 := by omega
  have qL : (L' : Int) < (L' : Int) + 1 := by omega
  have hL4' : (L' : Int) ≤ 4194304 := by omega
  have HFIN : Hid (TornMend base d mb n (putX x dir (segN dir kl) (logB frameR rl)) dir K LL B W0 p rv ((w4.setCell ⟨p, 4, none⟩ (.int .i64 ((lastN K : Int) + 1))).setCell ⟨p, 4, none⟩ (.int .i64 (k : Int))) ∧ ∀ j, p < j → j < W0.heap.size → ((w4.setCell ⟨p, 4, none⟩ (.int .i64 ((lastN K : Int) + 1))).setCell ⟨p, 4, none⟩ (.int .i64 (k : Int))).heap[j]? = W0.heap[j]?) := by
    have hk46 : Kept w4 ((w4.setCell ⟨p, 4, none⟩ (.int .i64 ((lastN K : Int) + 1))).setCell ⟨p, 4, none⟩ (.int .i64 (k : Int))) (fun j => j = p) := Kept.of (gb_trans (gb_set rfl) (gb_set rfl) (fun j hj => .inr hj)) (fun j hj => by cases hj; rfl)
    have hp3 : p < w3.heap.size := Nat.lt_of_lt_of_le HW.out.lt HG3.out.size
    have hk06 : Kept W0 ((w4.setCell ⟨p, 4, none⟩ (.int .i64 ((lastN K : Int) + 1))).setCell ⟨p, 4, none⟩ (.int .i64 (k : Int))) (fun j => j = p ∨ B j) := (Kept.of HG3.out (X := fun j => j = p ∨ B j) (fun j hj => by cases hj; exact .inl rfl)).trans HS6.out.kept (fun j hj hX => hX.elim (fun ha => (HA.out j ha).elim .inl (fun h => by omega)) .inr)
    obtain ⟨ts, t1, t2, t3, t4⟩ := HRO.out.keptK hk46 (fun j hj e => by omega)
    refine ⟨⟨m, n4, A, B4, w3.heap.size, ⟨ts, t1, t2, t3, t4⟩, hn4, HOP.out ▸ HLb.out, hk06, HA.out, fun j hj hb => HS6.out.oldB j (Nat.lt_of_lt_of_le hj HG3.out.size) hb, HG3.out.size⟩, fun j h1 h2 => hk06.block j h2 (fun hX => hX.elim (fun e => by omega) (fun hb => by have := HLP.out j hb; omega))⟩
  clear hro hL4 hS4 hLa hLb hW4 hW5 hso5 hay5 hk HRA
  go_wp2
  go_ret
  exact ⟨rv, rfl, HFIN.out.1, HFIN.out.2⟩
end Go.Proofs.YtekejnjaiccnbaaGreatDoor
