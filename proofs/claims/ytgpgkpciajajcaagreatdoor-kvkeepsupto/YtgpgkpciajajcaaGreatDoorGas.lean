/- Several texts in one: Yc, Yd, Ye, Zc, Zd. -/
import Derived.Test.YtgpgkpciajajcaaGreatDoorGar
/- Package wal: mend, where the last file is torn. -/
namespace Go.Proofs.YtgpgkpciajajcaaGreatDoor
open Go.RowKit Go.Maps Go.Sort
set_option linter.unusedVariables false
set_option maxRecDepth 20000

/-- A folder whose last segment has something torn behind its records. -/
structure TornLog (V : Cont) (dir : ByteArray) (K : Kp) (Ls LL : Sg) (kl : Nat) (rl : List (List Int)) (tl : List Int) (sl : Nat) : Prop where
  all : LL = Ls ++ [(kl, rl)]
  folder : Folder V dir (cpNums K) false (LL.map Prod.fst)
  cp : CpIs V dir (cpName dir K) K
  whole : Whole V dir Ls
  last : V (segN dir kl) = some (logB frameR rl ++ tl, sl)
  recs : FileRecs (logB frameR rl ++ tl) rl tl
  above : ∀ q ∈ LL, lastN K < q.1
  big : lastN K < 100000000
  num : kl < 100000000
  noNew : V (newN dir) = none
/-- What mend has made of it. -/
def TornMend (base d mb n : Nat) (x' : DSt) (dir : ByteArray) (K : Kp) (LL : Sg) (B : Nat → Prop) (W : World) (p : Nat) (v : Sl) (w' : World) : Prop := ∃ (m n' : Nat) (A B' : Nat → Prop) (lo : Nat), RecsLo lo w' (slV v) m (cpRecs K ++ recsOf LL) ∧ n' ≤ n + 2 ∧ LogAt w' base d mb n' x' p dir (cpName dir K) (LL.map Prod.fst) (openN K LL) A B' ∧ Kept W w' (fun k => k = p ∨ B k) ∧ (∀ k, A k → k = p ∨ W.heap.size ≤ k) ∧ (∀ k, k < W.heap.size → B' k → B k) ∧ W.heap.size ≤ lo
set_option maxHeartbeats 16000000 in
theorem w_mendT (base d mb n : Nat) (dir : ByteArray) (x : DSt) (B : Nat → Prop) (K : Kp) (Ls LL : Sg) (kl : Nat) (rl : List (List Int)) (tl : List Int) (sl : Nat) (w W0 : World) (p : Nat) (hdir : dirB dir = true) (ht : Tab W0) (hMI : MendIn w W0 p d dir) (hd : DS W0 base d mb n x B) (hlp : ∀ k, B k → k < p) (hcalm : x.Calm) (hw : x.wn ≤ 999999980) (hn : n < 1048576) (hlog : TornLog x.V dir K Ls LL kl rl tl sl) (htl : tl ≠ []) (hrl : rl ≠ []) (hlb : (logB frameR rl).length ≤ 4194304) (hsz : (cpRecs K ++ recsOf LL).length ≤ 4194304) (hln : LL.length ≤ 4194304) (hb : base ≤ W0.heap.size) :
    Calls Tryz.prog 121 #[.pointer (some ⟨p, 0, none⟩)] W0 fun e w' => ∃ v : Sl, e = .returned (slV v) ∧ TornMend base d mb n (putX x dir (segN dir kl) (logB frameR rl)) dir K LL B W0 p v w' ∧ ∀ k, p < k → k < W0.heap.size → w'.heap[k]? = W0.heap[k]? := by
  have h := hMI.row
  have hon := hcalm.on
  have hltB : ∀ k, B k → k < W0.heap.size := fun k hk => Nat.lt_trans (hlp k hk) h.lt
  have hBp : ¬ B p := fun hk => Nat.lt_irrefl _ (hlp p hk)
  have HLTB : Hid (∀ k, B k → k < W0.heap.size) := hltB
  have HCALM : Hid x.Calm := hcalm
  have HTL : Hid (tl ≠ []) := htl
  have HRL : Hid (rl ≠ []) := hrl
  have HLP : Hid (∀ k, B k → k < p) := hlp
  clear hMI hltB hlp hcalm htl hrl
  have hds : dir.size ≤ 32 := by simp only [dirB, Bool.and_eq_true, decide_eq_true_eq] at hdir; exact hdir.2
  have HLK : Hid (Calls Tryz.prog 149 #[.pointer (some ⟨p, 0, none⟩)] W0 (LookOut W0 (cpNums K) (LL.map Prod.fst) false)) := w_look base p d mb n dir ⟨#[]⟩ (.slice none 0 0) 0 x B (cpNums K) (LL.map Prod.fst) false W0 hdir h hd hon hlog.folder (by omega) (fun k hk => by obtain ⟨q, hq, rfl⟩ := List.mem_map.1 hk; have := hlog.above q hq; omega)
  have HW : Hid (WRow W0 p d dir ⟨#[]⟩ (.slice none 0 0) 0) := h
  have HD : Hid (DS W0 base d mb n x B) := hd
  have HT : Hid (Tab W0) := ht
  have HB : Hid (¬ B p) := hBp
  have HDIR : Hid (dirB dir = true) := hdir
  have HLOG : Hid (TornLog x.V dir K Ls LL kl rl tl sl) := hlog
  have eL2 : (LL.map Prod.fst).length = LL.length := List.length_map _
  have HBIG := HLOG.out.big
  clear h hd ht hBp hdir hlog
  go_enter Tryz.func121, Tryz.ntmps121
  go_wp2_with fail
  refine HLK.out.mono ?_
  rintro e w1 ⟨a0, k0, a1, k1, b1, rfl, ho0, ho1, hb0, hb1, hg1, hnil⟩
  have hga : w1.grownBy (w1.alloc (.cells #[.slice a0 (cpNums K).length k0, .slice a1 LL.length k1, .bool false] 169)) none := World.grownBy_alloc w1 _ none
  have hgw := hg1.trans hga
  have HGW : Hid (W0.grownBy (w1.alloc (.cells #[.slice a0 (cpNums K).length k0, .slice a1 LL.length k1, .bool false] 169)) none) := hgw
  have hpb : p < b1 := Nat.lt_of_lt_of_le HW.out.lt hb1
  have hs1 := SOwn.kept ho1 hga (by cases a1 <;> simp [Value.ownBlock])
  have HWA : Hid (WRow (w1.alloc (.cells #[.slice a0 (cpNums K).length k0, .slice a1 LL.length k1, .bool false] 169)) p d dir ⟨#[]⟩ (.slice none 0 0) 0) := HW.out.kept hgw (by simp)
  have HTA : Hid (Tab (w1.alloc (.cells #[.slice a0 (cpNums K).length k0, .slice a1 LL.length k1, .bool false] 169))) := HT.out.grown hgw
  have HDO : Hid (Calls Tryz.prog 151 #[.pointer (some ⟨p, 0, none⟩), FolderV (.slice a0 (cpNums K).length k0) (.slice a1 LL.length k1) false] (w1.alloc (.cells #[.slice a0 (cpNums K).length k0, .slice a1 LL.length k1, .bool false] 169)) fun e w' => e = .returned (.int .i64 (lastN K : Int)) ∧ WRow w' p d dir (cpName dir K) (.slice a1 LL.length k1) 0 ∧ (w1.alloc (.cells #[.slice a0 (cpNums K).length k0, .slice a1 LL.length k1, .bool false] 169)).grownBy w' (some p)) := by
    have := w_dropOld p d dir (.slice none 0 0) 0 K (LL.map Prod.fst) a0 a1 k0 k1 W0.heap.size b1 false (w1.alloc (.cells #[.slice a0 (cpNums K).length k0, .slice a1 LL.length k1, .bool false] 169)) (by omega) HTA.out HBIG HWA.out (SOwn.kept ho0 hga (by cases a0 <;> simp [Value.ownBlock])) hs1 HLOG.out.folder.segr.1 (fun k hk => by obtain ⟨q, hq, rfl⟩ := List.mem_map.1 hk; exact HLOG.out.above q hq) (by rw [eL2]; exact hln) hnil hpb
    rw [eL2] at this
    exact this
  rw [eL2] at hs1 ho1 ⊢
  have HS1 : Hid (SOwn intE 3 (w1.alloc (.cells #[.slice a0 (cpNums K).length k0, .slice a1 LL.length k1, .bool false] 169)) b1 (.slice a1 LL.length k1) LL.length (nI (LL.map Prod.fst))) := hs1
  have HB1 : Hid (∀ y, a1 = some y → y.block < w1.heap.size) := fun y hy => by subst hy; exact (ho1.block _ rfl).2
  have HNIL : Hid (LL.map Prod.fst = [] → a1 = none ∧ k1 = 0) := hnil
  clear ho0 ho1 hb0 hg1 hnil HLK hga hgw hs1
  unfold FolderV at HDO ⊢
  go_wp2_with fail
  refine HDO.out.mono ?_
  rintro e w3 ⟨rfl, hW3, hg3⟩
  have hgw3 : W0.grownBy w3 (some p) := gb_trans (gb_any HGW.out _) hg3 (fun k hk => .inr hk)
  have hs3 := SOwn.kept HS1.out hg3 (.inr (fun e => by have := (HS1.out.block _ e).1; omega))
  have hB3 : ∀ k, B k → ¬ (k = p) := fun k hk e => HB.out (e ▸ hk)
  have hL3 : LogAt w3 base d mb n x p dir (cpName dir K) (LL.map Prod.fst) 0 (fun k => k = p ∨ ∃ y, a1 = some y ∧ k = y.block) B := by
    refine ⟨HD.out.others (Kept.of hgw3 (X := fun k => k = p) (fun k hk => by cases hk; rfl)) hB3, ⟨a1, k1, by rw [eL2]; exact hW3, by rw [eL2]; exact (IOwn.of hs3).base (Nat.zero_le _), .inl rfl, fun y hy => ⟨.inr ⟨y, hy, rfl⟩, fun e => ?_⟩⟩, ?_, fun k hk => Nat.lt_of_lt_of_le (HLTB.out k hk) hgw3.size, ?_⟩
    · subst hy
      have := (HS1.out.block y.block rfl).1
      omega
    · rintro k (rfl | ⟨y, rfl, rfl⟩) hk
      · exact HB.out hk
      · have h1 := (HS1.out.block y.block rfl).1
        have h2 := HLTB.out _ hk
        omega
    · rintro k (rfl | ⟨y, rfl, rfl⟩)
      · exact hW3.lt
      · exact (hs3.block y.block rfl).2
  have HA : Hid (∀ k, (k = p ∨ ∃ y, a1 = some y ∧ k = y.block) → k = p ∨ W0.heap.size ≤ k) := by
    show ∀ k, _ → _
    rintro k (rfl | ⟨y, rfl, rfl⟩)
    · exact .inl rfl
    · exact .inr (Nat.le_trans hb1 (HS1.out.block y.block rfl).1)
  obtain ⟨A, eA⟩ : ∃ A : Nat → Prop, A = fun k => k = p ∨ ∃ y, a1 = some y ∧ k = y.block := ⟨_, rfl⟩
  rw [← eA] at hL3
  have HA : Hid (∀ k, A k → k = p ∨ W0.heap.size ≤ k) := by rw [eA]; exact HA.out
  have HRA : Hid (Calls Tryz.prog 152 #[.pointer (some ⟨p, 0, none⟩)] w3 (TornOut w3 base d mb n (putX x dir (segN dir kl) (logB frameR rl)) p dir (cpName dir K) (LL.map Prod.fst) 0 A B (cpRecs K ++ recsOf LL))) := w_replayAllT base p d mb n dir (cpName dir K) 0 x A B K Ls LL kl rl tl sl w3 HDIR.out (HTA.out.row HWA.out hg3) HLOG.out.all hL3 HCALM.out hw hn HLOG.out.noNew HLOG.out.cp HLOG.out.whole HLOG.out.last HLOG.out.recs HTL.out HRL.out HLOG.out.num hlb hsz hln (Nat.le_trans hb hgw3.size)
  have HG3 : Hid (W0.grownBy w3 (some p)) := hgw3
  have HLT3 : Hid (∀ k, A k ∨ B k → k < w3.heap.size) := fun k hk => hk.elim (hL3.ltA k) (hL3.ltB k)
  clear hL3 hW3 hg3 hgw3 hs3 HDO HS1 HWA HTA HGW hB3 eA HB1 HNIL
  go_wp2_with fail
  refine HRA.out.mono ?_
  rintro e w4 ⟨rv, m, n4, B4, rfl, hro, hn4, hL4, hS4⟩
  have HRO : Hid (RecsOut w3 w4 (slV rv) m (cpRecs K ++ recsOf LL)) := hro
  have HS4 : Hid (Step2 w3 w4 A B A B4) := hS4
  have hLa := hL4.setOpen (lastN K + 1) ((lastN K : Int) + 1) (by omega)
  obtain ⟨L', eL'⟩ : ∃ L', LL.length = L' + 1 := ⟨Ls.length, by rw [HLOG.out.all]; simp⟩
  obtain ⟨k, hk⟩ : ∃ k, (LL.map Prod.fst)[LL.length - 1]? = some k := ⟨_, List.getElem?_eq_getElem (by rw [eL2]; omega)⟩
  have HOP : Hid (k = openN K LL) := by
    show _ = _
    unfold openN
    rw [List.getLast?_eq_getElem?, eL2, hk]
  have hLb := hLa.1.setOpen k (k : Int) rfl
  have HLb : Hid (LogAt ((w4.setCell ⟨p, 4, none⟩ (.int .i64 ((lastN K : Int) + 1))).setCell ⟨p, 4, none⟩ (.int .i64 (k : Int))) base d mb n4 (putX x dir (segN dir kl) (logB frameR rl)) p dir (cpName dir K) (LL.map Prod.fst) k A B4) := hLb.1
  have HS6 : Hid (Step2 w3 ((w4.setCell ⟨p, 4, none⟩ (.int .i64 ((lastN K : Int) + 1))).setCell ⟨p, 4, none⟩ (.int .i64 (k : Int))) A B A B4) := (hS4.trans hLa.2).trans hLb.2
  obtain ⟨a4, k4, hW4, _, _, _⟩ := hL4.wal
  obtain ⟨a5, k5, hW5, hso5, _, hay5⟩ := hLa.1.wal
  rw [eL2] at hW4 hW5 hso5
  have y4 := hW4.cells.2.2.2.2
  have z4 := hW4.frozen 4
  have y5 := hW5.cells.2.2.2.1
  have x5 := hW5.cells.2.2.2.2
  have z5 := hW5.frozen 4
  obtain ⟨b, off, rfl, hcell5⟩ := nI_cell hso5.rd hk
  rw [eL'] at y5
  rw [eL', show L' + 1 - 1 = L' from rfl] at hcell5
  have q5 : -9223372036854775808 ≤ (lastN K : Int) + 1 ∧ (lastN K : Int) + 1 ≤ 9223372036854775807 := by omega
  have qL : (L' : Int) < (L' : Int) + 1 := by omega
  have hL4' : (L' : Int) ≤ 4194304 := by omega
  have HFIN : Hid (TornMend base d mb n (putX x dir (segN dir kl) (logB frameR rl)) dir K LL B W0 p rv ((w4.setCell ⟨p, 4, none⟩ (.int .i64 ((lastN K : Int) + 1))).setCell ⟨p, 4, none⟩ (.int .i64 (k : Int))) ∧ ∀ j, p < j → j < W0.heap.size → ((w4.setCell ⟨p, 4, none⟩ (.int .i64 ((lastN K : Int) + 1))).setCell ⟨p, 4, none⟩ (.int .i64 (k : Int))).heap[j]? = W0.heap[j]?) := by
    have hk46 : Kept w4 ((w4.setCell ⟨p, 4, none⟩ (.int .i64 ((lastN K : Int) + 1))).setCell ⟨p, 4, none⟩ (.int .i64 (k : Int))) (fun j => j = p) := Kept.of (gb_trans (gb_set rfl) (gb_set rfl) (fun j hj => .inr hj)) (fun j hj => by cases hj; rfl)
    have hp3 : p < w3.heap.size := Nat.lt_of_lt_of_le HW.out.lt HG3.out.size
    have hk06 : Kept W0 ((w4.setCell ⟨p, 4, none⟩ (.int .i64 ((lastN K : Int) + 1))).setCell ⟨p, 4, none⟩ (.int .i64 (k : Int))) (fun j => j = p ∨ B j) := (Kept.of HG3.out (X := fun j => j = p ∨ B j) (fun j hj => by cases hj; exact .inl rfl)).trans HS6.out.kept (fun j hj hX => hX.elim (fun ha => (HA.out j ha).elim .inl (fun h => by omega)) .inr)
    obtain ⟨ts, t1, t2, t3, t4⟩ := HRO.out.keptK hk46 (fun j hj e => by omega)
    refine ⟨⟨m, n4, A, B4, w3.heap.size, ⟨ts, t1, t2, t3, t4⟩, hn4, HOP.out ▸ HLb.out, hk06, HA.out, fun j hj hb => HS6.out.oldB j (Nat.lt_of_lt_of_le hj HG3.out.size) hb, HG3.out.size⟩, fun j h1 h2 => hk06.block j h2 (fun hX => hX.elim (fun e => by omega) (fun hb => by have := HLP.out j hb; omega))⟩
  clear hro hL4 hS4 hLa hLb hW4 hW5 hso5 hay5 hk HRA
  go_wp2
  go_ret
  exact ⟨rv, rfl, HFIN.out.1, HFIN.out.2⟩
end Go.Proofs.YtgpgkpciajajcaaGreatDoor

/- Open, where the last file is torn. -/
namespace Go.Proofs.YtgpgkpciajajcaaGreatDoor
open Go.RowKit Go.Maps Go.Sort
set_option linter.unusedVariables false
set_option maxRecDepth 20000

theorem putX_calm (x : DSt) (h : x.Calm) (hw : x.wn ≤ 999999980) (V : Cont) : ({ x with wn := x.wn + 3, V := V } : DSt).Calm := by
  obtain ⟨h1, h2, h3⟩ := h.ok
  exact ⟨h.on, h.free, ⟨by dsimp only; omega, h2, h3⟩⟩
theorem torn_log {x : DSt} {dir : ByteArray} {K : Kp} {Ls LL : Sg} {kl : Nat} {rl : List (List Int)} {tl : List Int} {sl : Nat} (h : TornLog x.V dir K Ls LL kl rl tl sl) (hc : x.Calm) (hw : x.wn ≤ 999999980) : Log (putX x dir (segN dir kl) (logB frameR rl)).V dir K LL ∧ (putX x dir (segN dir kl) (logB frameR rl)).Calm ∧ (putX x dir (segN dir kl) (logB frameR rl)).wn = x.wn + 3 := by
  rw [putX_eq x hc hw dir _ _ h.noNew]
  refine ⟨?_, putX_calm x hc hw _, rfl⟩
  have e0 : setV x.V (newN dir) none = x.V := by
    funext s
    by_cases e : s = newN dir
    · rw [e, setV_same, h.noNew]
    · exact setV_other _ _ e
  show Log (setV (setV x.V (newN dir) none) (segN dir kl) (some (logB frameR rl, (logB frameR rl).length))) dir K LL
  rw [e0]
  have hne : ∀ q ∈ Ls, q.1 ≠ kl := by
    intro q hq
    have h1 := h.folder.segr.1
    rw [h.all, List.map_append, List.pairwise_append] at h1
    have := h1.2.2 q.1 (List.mem_map.2 ⟨q, hq, rfl⟩) kl (by simp)
    omega
  refine ⟨⟨h.folder.cpr, h.folder.segr, fun s => ?_⟩, ?_, fun q hq => ?_, h.above, h.big⟩
  · rw [← h.folder.mem s]
    by_cases e : s = segN dir kl
    · rw [e, setV_same, h.last]
      simp
    · rw [setV_other _ _ e]
  · have hcp := h.cp
    cases K with
    | none => exact hcp
    | some q =>
      obtain ⟨h1, ⟨syn, h2⟩, h3⟩ := hcp
      exact ⟨h1, ⟨syn, by rw [setV_other _ _ (cp_ne_seg dir q.1 kl)]; exact h2⟩, h3⟩
  · rw [h.all] at hq
    rcases List.mem_append.1 hq with hq | hq
    · exact Whole.other h.whole h.num _ hne q hq
    · simp only [List.mem_singleton] at hq
      subst hq
      exact ⟨⟨_, setV_same _ _ _⟩, h.recs.len, h.num⟩
theorem openW_kept (w5 : World) (p : Nat) (v : Sl) : Kept w5 (openW w5 p v) (fun k => k = p + 2 ∨ k = p + 3) := by
  have g1 : w5.grownBy (w5.setCell ⟨p + 2, 0, none⟩ (slV v)) (some (p + 2)) := gb_set rfl
  have g2 : (w5.setCell ⟨p + 2, 0, none⟩ (slV v)).grownBy (openW w5 p v) (some (p + 3)) := gb_drew (gb_set rfl)
  exact (Kept.of g1 (X := fun k => k = p + 2 ∨ k = p + 3) (fun k hk => by cases hk; exact .inl rfl)).trans (Kept.of g2 (X := fun k => k = p + 2 ∨ k = p + 3) (fun k hk => by cases hk; exact .inr rfl)) (fun k _ h => h)
end Go.Proofs.YtgpgkpciajajcaaGreatDoor

/- A log that is written, and torn: what its walk needs. -/
namespace Go.Proofs.YtgpgkpciajajcaaGreatDoor
open Go.RowKit Go.Maps Go.Sort
set_option linter.unusedVariables false
set_option maxRecDepth 20000

/-- A segment that holds a record, and isn't long. -/
def Good (q : Nat × List (List Int)) : Prop := q.2 ≠ [] ∧ (logB frameR q.2).length ≤ 69639
theorem addL_good {K : Kp} {Ls : Sg} {r : List Int} (h : ∀ q ∈ Ls, Good q) (hr : r.length ≤ 65536) : ∀ q ∈ addL K Ls r, Good q := by
  have hf := frame_len r hr
  unfold addL
  cases hg : Ls.getLast? with
  | none =>
    intro q hq
    simp only [List.mem_singleton] at hq
    subst hq
    exact ⟨by simp, by dsimp only; rw [logB_one]; omega⟩
  | some q0 =>
    dsimp only
    split
    · intro q hq
      rcases List.mem_append.1 hq with hq | hq
      · exact h q hq
      · simp only [List.mem_singleton] at hq
        subst hq
        exact ⟨by simp, by dsimp only; rw [logB_one]; omega⟩
    · rename_i hlt
      intro q hq
      rcases List.mem_append.1 hq with hq | hq
      · exact h q (List.dropLast_subset _ hq)
      · simp only [List.mem_singleton] at hq
        subst hq
        exact ⟨by simp, by dsimp only; rw [logB_app, logB_one, List.length_append]; omega⟩
/-- The log behind i records. -/
def ToAt (W wr : World) (d mb i : Nat) (m : Int) (p : Nat) (rs : List (List Int)) : Prop := ∃ (n : Nat) (x : DSt) (Ls : Sg) (A B : Nat → Prop), Se W wr d mb n x p dirX none Ls A B ∧ recsOf Ls = rs ∧ n ≤ i ∧ x.wn ≤ m ∧ openN none Ls ≤ i + 1 ∧ Ls.length ≤ i ∧ rs.length ≤ i ∧ ∀ q ∈ Ls, Good q
theorem ToAt.grown {W w w' : World} {d mb i p : Nat} {m : Int} {rs : List (List Int)} (h : ToAt W w d mb i m p rs) (hg : w.grownBy w' none) : ToAt W w' d mb i m p rs := by
  obtain ⟨n, x, Ls, A, B, h1, h2⟩ := h
  exact ⟨n, x, Ls, A, B, h1.grown hg, h2⟩
theorem ToAt.from_ {W w : World} {d mb i p : Nat} {m : Int} {rs : List (List Int)} (h : ToAt W w d mb i m p rs) : W.grownBy w none := by
  obtain ⟨n, x, Ls, A, B, h1, h2⟩ := h
  exact h1.from_
end Go.Proofs.YtgpgkpciajajcaaGreatDoor

/- Package wal: what is thrown is caught, where something is thrown. -/
namespace Go.Proofs.YtgpgkpciajajcaaGreatDoor
open Go.RowKit Go.Maps Go.Sort
set_option linter.unusedVariables false
set_option maxRecDepth 20000

/-- done throws that. -/
def thrown (c : Int) : List PanicEntry := [{ v := .iface 31 (.int .i64 c), recovered := false }]
theorem w_doneP (c : Int) (hc : c ≠ 0) (w : World) : Calls Tryz.prog 103 #[.int .i64 c] w fun e w' => e = .panicked (thrown c) ∧ w = w' := by
  have q0 : (c != 0) = true := by simp [hc]
  go_enter Tryz.func103, Tryz.ntmps103
  go_wp2
  exact ⟨rfl, rfl, rfl⟩
set_option maxHeartbeats 4000000 in
theorem w_catch (c : Nat) (x : Int) (older : List PanicEntry) (w : World) (hc : w.cell? ⟨c, 0, none⟩ = some (.int .i64 0)) (hz : w.frozen? ⟨c, 0, none⟩ = false) :
    CallsD Tryz.prog 132 #[.pointer (some ⟨c, 0, none⟩)] (.panicking ({ v := .iface 31 (.int .i64 x), recovered := false } :: older)) w fun e u' w' =>
      e = .returned (.tuple #[]) ∧ u' = .panicking ({ v := .iface 31 (.int .i64 x), recovered := true } :: older) ∧ w' = w.setCell ⟨c, 0, none⟩ (.int .i64 x) := by
  refine callsD_of_wpS Tryz.func132 rfl fun c₀ cs hu => ?_
  have hta := run_thrown x
  apply wpS_seq
  apply wpS_region
  simp [wpOpsS, go_sem, recoverD, hu, Tryz.ntmps132, Exit.thenS]
  refine wpS_of_wp ?_
  refine wp_block ?_
  go_wp2
  cases c₀
  simp_all [bodyPostS, results, Tryz.results132]
set_option maxHeartbeats 4000000 in
theorem w_caughtP47 (caps : Array Value) (x : Int) (P : World → Prop) (w : World)
    (hcl : Calls Tryz.prog 98 caps (w.alloc (.cells #[.int .i64 0] 31)) fun e w' => e = .panicked (thrown x) ∧ P w' ∧ w'.cell? ⟨w.heap.size, 0, none⟩ = some (.int .i64 0) ∧ w'.frozen? ⟨w.heap.size, 0, none⟩ = false) :
    Calls Tryz.prog 97 #[.func (.func 98) #[] caps] w fun e w' => e = .returned (.int .i64 x) ∧ ∃ w1, P w1 ∧ w' = w1.setCell ⟨w.heap.size, 0, none⟩ (.int .i64 x) := by
  have hmf : ∀ (fn : Fn) (first cap : Array Value) (w : World), (Instr.makeFunc fn first cap).run Tryz.prog w = .ok (.func fn first cap) w := fun _ _ _ _ => rfl
  go_enter_defers Tryz.func97, Tryz.ntmps97
  go_wp2_with fail
  refine hcl.mono ?_
  rintro e w1 ⟨rfl, hp, hc, hz⟩
  have HP : Hid (P w1) := hp
  clear hp hcl
  unfold thrown
  go_wp2
  refine leaves_cons (f := 132) (args := #[.pointer (some ⟨w.heap.size, 0, none⟩)]) (by simp) (by simp [go_sem]) ?_
  refine (w_catch w.heap.size x [] _ hc hz).mono ?_
  rintro e u' w'' ⟨rfl, rfl, rfl⟩
  have hcs : (w1.setCell ⟨w.heap.size, 0, none⟩ (.int .i64 x)).cell? ⟨w.heap.size, 0, none⟩ = some (.int .i64 x) := World.cell?_setCell_same' w1 _ _ (by rw [hc]; rfl)
  simp [Go.Leaves, settle, results, Tryz.results97, go_sem, hcs]
  exact ⟨w1, HP.out, rfl⟩
end Go.Proofs.YtgpgkpciajajcaaGreatDoor

/- Package wal: roll and write, on a disk that is armed, where the power stays. (Printed by mk_armed.py.) -/
namespace Go.Proofs.YtgpgkpciajajcaaGreatDoor
open Go.RowKit Go.Maps Go.Sort
set_option linter.unusedVariables false
set_option maxRecDepth 20000

set_option maxHeartbeats 8000000 in
theorem w_rollA (base d mb n : Nat) (x : DSt) (p : Nat) (dir cp : ByteArray) (segs : List Nat) (op : Nat) (A B : Nat → Prop) (w : World) (hdir : dirB dir = true) (ht : Tab w) (h : LogAt w base d mb n x p dir cp segs op A B) (hon : x.off = false) (hsy : ∀ q, x.V (segN dir op) = some q → 4096 ≤ q.1.length → (x.sync (segN dir op)).1 = 0) (hok : x.ok) (hop : op < 99999999) :
    Calls Tryz.prog 99 #[.pointer (some ⟨p, 0, none⟩)] w fun e w' => e = .returned (.tuple #[]) ∧ ∃ n' B', n' ≤ n ∧ LogAt w' base d mb n' (rollX x dir op).1 p dir cp segs (rollX x dir op).2 A B' ∧ Step2 w w' A B A B' := by
  have hds : dir.size ≤ 32 := by simp only [dirB, Bool.and_eq_true, decide_eq_true_eq] at hdir; exact hdir.2
  have HL : Hid (LogAt w base d mb n x p dir cp segs op A B) := h
  have HSYX : Hid (∀ q, x.V (segN dir op) = some q → 4096 ≤ q.1.length → (x.sync (segN dir op)).1 = 0) := hsy
  clear hsy
  have HT : Hid (Tab w) := ht
  have hnm := seg_name hdir op
  obtain ⟨a, c, hW, _⟩ := h.wal
  obtain ⟨c0, c1, c2, c3, c4⟩ := hW.cells
  have HW : Hid (WRow w p d dir cp (.slice a segs.length c) (op : Int)) := hW
  have HGD : Hid (w.grownBy w.drew none) := gb_drew (World.grownBy.refl _ _)
  have HSG : Hid (Calls Tryz.prog 105 #[.pointer (some ⟨p, 0, none⟩), .int .i64 (op : Int)] w.drew fun e w' => e = .returned (.string (segN dir op)) ∧ w.drew.grownBy w' none) := w_segment p d dir cp _ _ op (by omega) _ (by omega) (ht.grown HGD.out) (hW.kept HGD.out (by simp))
  have HRD : Hid (∀ w1, w.grownBy w1 none → Calls Tryz.prog 133 #[.pointer (some ⟨d, 0, none⟩), .string (segN dir op)] w1 fun e w' => ∃ a c, e = .returned (.tuple #[.slice a (x.read (segN dir op)).1.length c, .int .i64 (x.read (segN dir op)).2]) ∧ SOwn byteE 5 w' w1.heap.size (.slice a (x.read (segN dir op)).1.length c) (x.read (segN dir op)).1.length (x.read (segN dir op)).1 ∧ (∀ z ∈ (x.read (segN dir op)).1, 0 ≤ z ∧ z ≤ 255) ∧ (x.read (segN dir op)).1.length ≤ 4194304 ∧ w1.grownBy w' none) := fun w1 hg => x_read base d mb n x B (segN dir op) w1 (DV.kept h.disk hg) hnm
  clear h hW c1 c2 c3
  go_enter Tryz.func99, Tryz.ntmps99
  go_upto_region 0 with fail
  go_cut [2, 3] from 4 (fun t2 t3 wc => ∃ a c, t2 = .slice a (x.read (segN dir op)).1.length c ∧ t3 = .int .i64 (x.read (segN dir op)).2 ∧ w.grownBy wc none)
  case first =>
    go_region_held3 (fun W => W.cell? ⟨p, 0, none⟩ = some (.pointer (some ⟨d, 0, none⟩)) ∧ W.cell? ⟨p, 4, none⟩ = some (.int .i64 (op : Int))) (go_keep) (first
      | (go_at_call 105; refine HSG.out.mono ?_; rintro e w1 ⟨rfl, hg1⟩; have HG1 : Hid (w.grownBy w1 none) := HGD.out.trans hg1; have c0' := (HW.out.kept HG1.out (by simp)).cells.1; have c4' := (HW.out.kept HG1.out (by simp)).cells.2.2.2.2; clear hg1)
      | (go_at_call 133; refine (HRD.out _ HG1.out).mono ?_; rintro e w2 ⟨a2, k2, rfl, _, _, _, hg2⟩; have HG2 : Hid (w.grownBy w2 none) := HG1.out.trans hg2; have c0'' := (HW.out.kept HG2.out (by simp)).cells.1; have c4'' := (HW.out.kept HG2.out (by simp)).cells.2.2.2.2; clear hg2))
    all_goals (go_wp2; go_meet)
    all_goals exact ⟨a2, k2, rfl, rfl, HG2.out⟩
  case rest =>
    obtain ⟨a2, k2, rfl, rfl, hgc⟩ := hcut
    rename World => w0
    have hLc := HL.out.grown hgc
    have HGc : Hid (w.grownBy w0 none) := hgc
    have HLc : Hid (LogAt w0 base d mb n x p dir cp segs op A B) := hLc
    have HTc : Hid (Tab w0) := HT.out.grown hgc
    have HD0 := fun w => w_done0 w
    cases hV : x.V (segN dir op) with
    | none =>
      have e1 : x.read (segN dir op) = ([], 62) := by unfold DSt.read; rw [hon, hV]; rfl
      have HX : Hid (rollX x dir op = (x, op)) := by show _ = _; unfold rollX; rw [hV]
      rw [e1]
      clear hgc hLc hV e1 HSG HRD
      go_wp2
      refine bodyPost_ret (results_none rfl _ _ _) rfl ?_
      rw [HX.out]
      exact ⟨rfl, n, B, Nat.le_refl _, HLc.out, Step2.grown A B HGc.out⟩
    | some q =>
      have e1 : x.read (segN dir op) = (q.1, 0) := by unfold DSt.read; rw [hon, hV]; rfl
      rw [e1]
      obtain ⟨L, eL⟩ : ∃ L, L = q.1.length := ⟨_, rfl⟩
      rw [← eL]
      by_cases hbig : 4096 ≤ L
      · have HX : Hid (rollX x dir op = ((x.sync (segN dir op)).2, op + 1)) := by show _ = _; unfold rollX; rw [hV]; exact if_pos (by rw [← eL]; exact hbig)
        have HS1 : Hid ((x.sync (segN dir op)).1 = 0) := HSYX.out q hV (by rw [← eL]; exact hbig)
        have qb : decide ((4096 : Int) ≤ (L : Int)) = true := by simp; omega
        have HSY : Hid (∀ w1, w0.grownBy w1 none → Calls Tryz.prog 104 #[.pointer (some ⟨d, 0, none⟩), .string (segN dir op)] w1 fun e w' => e = .returned (.int .i64 0) ∧ ∃ n' B', n' ≤ n ∧ LogAt w' base d mb n' (x.sync (segN dir op)).2 p dir cp segs op A B' ∧ Step2 w0 w' A B A B') := fun w1 hg => by
          have h1 := HLc.out.grown hg
          refine (x_syncN base d mb n x B (segN dir op) w1 h1.disk hok hnm).mono ?_
          rintro e w' ⟨rfl, n', B', hn', hd', hst⟩
          obtain ⟨B'', h2, h3⟩ := h1.write hd' hst
          exact ⟨by rw [HS1.out], n', B'', hn', h2, (Step2.grown A B hg).trans h3⟩
        have HCELL : Hid (∀ w2, (∃ n' B', n' ≤ n ∧ LogAt w2 base d mb n' (x.sync (segN dir op)).2 p dir cp segs op A B' ∧ Step2 w0 w2 A B A B') → w2.cell? ⟨p, 0, none⟩ = some (.pointer (some ⟨d, 0, none⟩)) ∧ w2.cell? ⟨p, 4, none⟩ = some (.int .i64 (op : Int))) := by
          rintro w2 ⟨n', B', _, h2, h3⟩
          obtain ⟨a2, c2, hW2, _⟩ := h2.wal
          exact ⟨hW2.cells.1, hW2.cells.2.2.2.2⟩
        obtain ⟨a3, c3, hW3, _⟩ := HLc.out.wal
        have HGD2 : Hid (w0.grownBy w0.drew none) := gb_drew (World.grownBy.refl _ _)
        have HSG2 : Hid (Calls Tryz.prog 105 #[.pointer (some ⟨p, 0, none⟩), .int .i64 (op : Int)] w0.drew fun e w' => e = .returned (.string (segN dir op)) ∧ w0.drew.grownBy w' none) := w_segment p d dir cp _ _ op (by omega) _ (by omega) (HTc.out.grown HGD2.out) (hW3.kept HGD2.out (by simp))
        have HW3 : Hid (WRow w0 p d dir cp (.slice a3 segs.length c3) (op : Int)) := hW3
        have y0 := hW3.cells.1
        have y4 := hW3.cells.2.2.2.2
        clear hgc hLc hV e1 HSG HRD eL hW3
        go_wp2_with fail
        refine (HD0 _).mono ?_
        rintro e w1 ⟨rfl, rfl⟩
        go_upto_region 4 with fail
        go_cut [] from 25 (fun wx => ∃ n' B', n' ≤ n ∧ LogAt wx base d mb n' (x.sync (segN dir op)).2 p dir cp segs op A B' ∧ Step2 w0 wx A B A B')
        case first =>
          go_region_held3 (fun W => W.cell? ⟨p, 0, none⟩ = some (.pointer (some ⟨d, 0, none⟩)) ∧ W.cell? ⟨p, 4, none⟩ = some (.int .i64 (op : Int))) (go_keep) (first
            | (go_at_call 105; refine HSG2.out.mono ?_; rintro e w1 ⟨rfl, hg1⟩; have HG1 : Hid (w0.grownBy w1 none) := HGD2.out.trans hg1; have c0' := (HW3.out.kept HG1.out (by simp)).cells.1; have c4' := (HW3.out.kept HG1.out (by simp)).cells.2.2.2.2; clear hg1)
            | (go_at_call 104; refine (HSY.out _ HG1.out).mono ?_; rintro e w2 ⟨rfl, hx2⟩; have HX2 : Hid (∃ n' B', n' ≤ n ∧ LogAt w2 base d mb n' (x.sync (segN dir op)).2 p dir cp segs op A B' ∧ Step2 w0 w2 A B A B') := hx2; obtain ⟨c0'', c4''⟩ := HCELL.out w2 hx2; clear hx2)
            | (go_at_call 103; refine (HD0 _).mono ?_; rintro e w3 ⟨rfl, rfl⟩))
          all_goals (go_wp2; go_meet)
          all_goals exact HX2.out
        case rest =>
          obtain ⟨n', B', hn', hL', hS'⟩ := hcut
          obtain ⟨a4, c4', hW4, _⟩ := hL'.wal
          have x4 := hW4.cells.2.2.2.2
          have z4 := hW4.frozen 4
          have HFIN : Hid (LogAt (wc.setCell ⟨p, 4, none⟩ (.int .i64 ((op : Int) + 1))) base d mb n' (x.sync (segN dir op)).2 p dir cp segs (op + 1) A B' ∧ Step2 wc (wc.setCell ⟨p, 4, none⟩ (.int .i64 ((op : Int) + 1))) A B' A B') := hL'.setOpen (op + 1) _ (by omega)
          have HS' : Hid (Step2 w0 wc A B A B') := hS'
          clear hL' hS' hW4
          go_wp2
          go_end0
          rw [HX.out]
          exact ⟨rfl, n', B', hn', HFIN.out.1, ((Step2.grown A B HGc.out).trans HS'.out).trans HFIN.out.2⟩
      · have HX : Hid (rollX x dir op = (x, op)) := by show _ = _; unfold rollX; rw [hV]; exact if_neg (by rw [← eL]; exact hbig)
        have qb : decide ((4096 : Int) ≤ (L : Int)) = false := by simp; omega
        clear hgc hLc hV e1 HSG HRD eL
        go_wp2_with fail
        refine (HD0 _).mono ?_
        rintro e w1 ⟨rfl, rfl⟩
        go_wp2
        go_end0
        rw [HX.out]
        exact ⟨rfl, n, B, Nat.le_refl _, HLc.out, Step2.grown A B HGc.out⟩
set_option maxHeartbeats 8000000 in
theorem w_writeA (base d mb n : Nat) (x : DSt) (p : Nat) (dir cp : ByteArray) (segs : List Nat) (op : Nat) (A B : Nat → Prop) (ad : Addr) (zs : List Int) (M cd : Nat) (w : World) (hdir : dirB dir = true) (ht : Tab w) (h : LogAt w base d mb n x p dir cp segs op A B) (hon : x.off = false) (hap1 : (x.append (segN dir op) zs).1 = 0) (hok : x.ok) (hop : op < 99999999) (hn : n < 1048576) (hsg : segs.length ≤ 4194304) (hr : SRd byteE w (some ad) zs) (hM : zs.length = M) (hby : ∀ z ∈ zs, 0 ≤ z ∧ z ≤ 255) (hlen : (oldV x.V (segN dir op)).1.length + M ≤ 4194304) (hb : base ≤ w.heap.size) (had : ¬ B ad.block) (hadl : ad.block < w.heap.size) :
    Calls Tryz.prog 100 #[.pointer (some ⟨p, 0, none⟩), .slice (some ad) M cd] w fun e w' => e = .returned (.tuple #[]) ∧ ∃ n' A' B', n' ≤ n + 1 ∧ LogAt w' base d mb n' (x.append (segN dir op) zs).2 p dir cp (segsX segs op) op A' B' ∧ Step2 w w' A B A' B' := by
  have hds : dir.size ≤ 32 := by simp only [dirB, Bool.and_eq_true, decide_eq_true_eq] at hdir; exact hdir.2
  have HL : Hid (LogAt w base d mb n x p dir cp segs op A B) := h
  have hnm := seg_name hdir op
  obtain ⟨a, c, hW, _⟩ := h.wal
  obtain ⟨c0, c1, c2, c3, c4⟩ := hW.cells
  have HW : Hid (WRow w p d dir cp (.slice a segs.length c) (op : Int)) := hW
  have HGD : Hid (w.grownBy w.drew none) := gb_drew (World.grownBy.refl _ _)
  have HSG : Hid (Calls Tryz.prog 105 #[.pointer (some ⟨p, 0, none⟩), .int .i64 (op : Int)] w.drew fun e w' => e = .returned (.string (segN dir op)) ∧ w.drew.grownBy w' none) := w_segment p d dir cp _ _ op (by omega) _ (by omega) (ht.grown HGD.out) (hW.kept HGD.out (by simp))
  have HA1 : Hid ((x.append (segN dir op) zs).1 = 0) := hap1
  clear hap1
  have hBd : B d := by obtain ⟨F, G, _, _, hb⟩ := h.disk; exact hb d (.inl rfl)
  have hBm : B mb := by obtain ⟨F, G, _, _, hb⟩ := h.disk; exact hb mb (.inr (.inl rfl))
  have HAP : Hid (∀ w1, w.grownBy w1 none → Calls Tryz.prog 134 #[.pointer (some ⟨d, 0, none⟩), .string (segN dir op), .slice (some ad) M cd] w1 fun e w' => e = .returned (.int .i64 0) ∧ ∃ n' B', n' ≤ n + 1 ∧ LogAt w' base d mb n' (x.append (segN dir op) zs).2 p dir cp segs op A B' ∧ Step2 w w' A B A B') := fun w1 hg => by
    have h1 := HL.out.grown hg
    refine (x_append base d mb n x B (segN dir op) ad zs M cd w1 h1.disk hok hnm hn (hr.grown hg (by simp)) hM hby hlen (Nat.le_trans hb hg.size) (fun e => had (e ▸ hBm)) (fun e => had (e ▸ hBd))).mono ?_
    rintro e w' ⟨rfl, n', B', hn', hd', hst⟩
    obtain ⟨B'', h2, h3⟩ := h1.write hd' hst
    exact ⟨by rw [HA1.out], n', B'', hn', h2, (Step2.grown A B hg).trans h3⟩
  have HCELL : Hid (∀ w2, (∃ n' B', n' ≤ n + 1 ∧ LogAt w2 base d mb n' (x.append (segN dir op) zs).2 p dir cp segs op A B' ∧ Step2 w w2 A B A B') → w2.cell? ⟨p, 0, none⟩ = some (.pointer (some ⟨d, 0, none⟩)) ∧ w2.cell? ⟨p, 4, none⟩ = some (.int .i64 (op : Int))) := by
    rintro w2 ⟨n', B', _, h2, h3⟩
    obtain ⟨a2, c2, hW2, _⟩ := h2.wal
    exact ⟨hW2.cells.1, hW2.cells.2.2.2.2⟩
  clear h hW c1 c2 c3 hr hby hlen had hadl hBd hBm hM
  go_enter Tryz.func100, Tryz.ntmps100
  go_upto_region 0 with fail
  go_cut [4] from 5 (fun t4 wc => t4 = .int .i64 0 ∧ ∃ n' B', n' ≤ n + 1 ∧ LogAt wc base d mb n' (x.append (segN dir op) zs).2 p dir cp segs op A B' ∧ Step2 w wc A B A B')
  case first =>
    go_region_held3 (fun W => W.cell? ⟨p, 0, none⟩ = some (.pointer (some ⟨d, 0, none⟩)) ∧ W.cell? ⟨p, 4, none⟩ = some (.int .i64 (op : Int))) (go_keep) (first
      | (go_at_call 105; refine HSG.out.mono ?_; rintro e w1 ⟨rfl, hg1⟩; have HG1 : Hid (w.grownBy w1 none) := HGD.out.trans hg1; have c0' := (HW.out.kept HG1.out (by simp)).cells.1; have c4' := (HW.out.kept HG1.out (by simp)).cells.2.2.2.2; clear hg1)
      | (go_at_call 134; refine (HAP.out _ HG1.out).mono ?_; rintro e w2 ⟨rfl, hx2⟩; have HX2 : Hid (∃ n' B', n' ≤ n + 1 ∧ LogAt w2 base d mb n' (x.append (segN dir op) zs).2 p dir cp segs op A B' ∧ Step2 w w2 A B A B') := hx2; obtain ⟨c0'', c4''⟩ := HCELL.out w2 hx2; clear hx2))
    all_goals (go_wp2; go_meet)
    all_goals exact ⟨rfl, HX2.out⟩
  case rest =>
    obtain ⟨rfl, n', B', hn', hL', hS'⟩ := hcut
    have HL' : Hid (LogAt wc base d mb n' (x.append (segN dir op) zs).2 p dir cp segs op A B') := hL'
    have HS' : Hid (Step2 w wc A B A B') := hS'
    obtain ⟨a4, k4, hW4, hso4, hA4, hB4⟩ := hL'.wal
    have HD0 := fun w => w_done0 w
    have HHF : Hid (Calls Tryz.prog 101 #[.pointer (some ⟨p, 0, none⟩)] wc fun e w' => e = .returned (.bool (isOpen segs op)) ∧ ∃ k, w' = wc.drewN k) := w_hasFile p d dir cp a4 k4 segs op wc hW4 hso4.rd (by omega)
    have HW4 : Hid (WRow wc p d dir cp (.slice a4 segs.length k4) (op : Int)) := hW4
    have HSO4 : Hid (IOwn wc 0 (.slice a4 segs.length k4) segs.length (nI segs)) := hso4
    have HA4 : Hid (A p ∧ ∀ y, a4 = some y → A y.block ∧ y.block ≠ p) := ⟨hA4, hB4⟩
    clear hL' hS' hW4 hso4 hA4 hB4 HSG HAP
    go_wp2_with fail
    refine HHF.out.mono ?_
    rintro e w5 ⟨rfl, kq, rfl⟩
    obtain ⟨wk, ewk⟩ : ∃ wk, wk = wc.drewN kq := ⟨_, rfl⟩
    have hgk : wc.grownBy wk none := by rw [ewk]; exact gb_drewN wc kq
    have HLk : Hid (LogAt wk base d mb n' (x.append (segN dir op) zs).2 p dir cp segs op A B') := HL'.out.grown hgk
    have HSk : Hid (Step2 w wk A B A B') := HS'.out.trans (Step2.grown A B' hgk)
    have HWk : Hid (WRow wk p d dir cp (.slice a4 segs.length k4) (op : Int)) := HW4.out.kept hgk (by simp)
    have HSOk : Hid (IOwn wk 0 (.slice a4 segs.length k4) segs.length (nI segs)) := IOwn.kept HSO4.out hgk (by cases a4 <;> simp [Value.ownBlock])
    rw [← ewk]
    clear ewk hgk HHF HL' HS' HW4 HSO4
    cases ho : isOpen segs op with
    | true =>
      have HX : Hid (segsX segs op = segs) := by show _ = _; unfold segsX; rw [if_pos ho]
      go_wp2_with fail
      refine (HD0 _).mono ?_
      rintro e w1 ⟨rfl, rfl⟩
      go_wp2
      go_end0
      rw [HX.out]
      exact ⟨rfl, n', A, B', hn', HLk.out, HSk.out⟩
    | false =>
      have HX : Hid (segsX segs op = segs ++ [op]) := by show _ = _; unfold segsX; rw [if_neg (by rw [ho]; simp)]
      have hWd : WRow (wk.alloc (.cells #[.int .i64 (op : Int)] 3)).drew p d dir cp (.slice a4 segs.length k4) (op : Int) := (HWk.out.alloc _).drew
      have x3 := HWk.out.cells.2.2.2.1
      have x4 := HWk.out.cells.2.2.2.2
      have y3 : (wk.alloc (.cells #[.int .i64 (op : Int)] 3)).cell? ⟨p, 3, none⟩ = some (.slice a4 segs.length k4) := hWd.cells.2.2.2.1
      have y4 : (wk.alloc (.cells #[.int .i64 (op : Int)] 3)).cell? ⟨p, 4, none⟩ = some (.int .i64 (op : Int)) := hWd.cells.2.2.2.2
      have HWd : Hid (WRow (wk.alloc (.cells #[.int .i64 (op : Int)] 3)).drew p d dir cp (.slice a4 segs.length k4) (op : Int)) := hWd
      have HOW : Hid (IOwn (wk.alloc (.cells #[.int .i64 (op : Int)] 3)).drew 0 (.slice a4 segs.length k4) segs.length (nI segs)) := IOwn.kept HSOk.out (gb_drew (World.grownBy_alloc wk _ none)) (by cases a4 <;> simp [Value.ownBlock])
      have HPN : Hid (∀ k, Value.ownBlock (.slice a4 segs.length k4) = some k → k ≠ p) := fun k hk => by
        cases a4 with
        | none => cases hk
        | some y => have e : y.block = k := Option.some.inj hk; subst e; exact (HA4.out.2 y rfl).2
      have HIL : Hid (SRd intE (wk.alloc (.cells #[.int .i64 (op : Int)] 3)).drew (some ⟨wk.heap.size, 0, none⟩) [(op : Int)]) := ilit wk.drew [(op : Int)]
      clear hWd ho
      obtain ⟨L, eL⟩ : ∃ L, L = segs.length := ⟨_, rfl⟩
      have EL : Hid (L = segs.length) := eL
      rw [← eL] at x3 y3 hsg
      have HOW2 : Hid (IOwn (wk.alloc (.cells #[.int .i64 (op : Int)] 3)).drew 0 (.slice a4 L k4) L (nI segs)) := by show IOwn _ _ _ _ _; rw [eL]; exact HOW.out
      have HSTEP : Hid (∀ g3 o3 c3 w3, IOwn w3 0 (.slice (some ⟨g3, o3, none⟩) (L + 1) c3) (L + 1) (nI segs ++ [(op : Int)]) → (wk.alloc (.cells #[.int .i64 (op : Int)] 3)).drew.grownBy w3 (Value.ownBlock (.slice a4 L k4)) → (Value.ownBlock (.slice a4 L k4) = some g3 ∨ (wk.alloc (.cells #[.int .i64 (op : Int)] 3)).drew.heap.size ≤ g3) → w3.cell? ⟨p, 3, none⟩ = some (.slice a4 L k4) ∧ w3.frozen? ⟨p, 3, none⟩ = false ∧ ∃ A', LogAt (w3.setCell ⟨p, 3, none⟩ (.slice (some ⟨g3, o3, none⟩) (L + 1) c3)) base d mb n' (x.append (segN dir op) zs).2 p dir cp (segs ++ [op]) op A' B' ∧ Step2 wk (w3.setCell ⟨p, 3, none⟩ (.slice (some ⟨g3, o3, none⟩) (L + 1) c3)) A B' A' B') := by
        show ∀ g3 o3 c3 w3, _
        rw [eL]
        intro g3 o3 c3 w3 ho3 hg3 hgg
        have hW3 := HWd.out.kept hg3 (fun e => HPN.out p e.symm rfl)
        exact ⟨hW3.cells.2.2.2.1, hW3.frozen 3, LogAt.addSeg HLk.out HWk.out HSOk.out HA4.out.2 HA4.out.1 ho3 hg3 hgg⟩
      clear eL
      go_wp2_with fail
      go_region_law (refine step_append_I rfl (.tmp 28) (.tmp 33) rfl a4 L k4 (nI segs) (by simp [Act.eval]) HOW2.out ⟨wk.heap.size, 0, none⟩ (op : Int) (by simp [Act.eval]) HIL.out (by omega) ?_; intro g3 o3 c3 w3 ho3 hg3 hgg; obtain ⟨s3, z3, hx3⟩ := HSTEP.out g3 o3 c3 w3 ho3 hg3 hgg; have HX3 : Hid (∃ A', LogAt (w3.setCell ⟨p, 3, none⟩ (.slice (some ⟨g3, o3, none⟩) (L + 1) c3)) base d mb n' (x.append (segN dir op) zs).2 p dir cp (segs ++ [op]) op A' B' ∧ Step2 wk (w3.setCell ⟨p, 3, none⟩ (.slice (some ⟨g3, o3, none⟩) (L + 1) c3)) A B' A' B') := hx3; clear ho3 hg3 hgg hx3)
      all_goals go_wp2_with fail
      all_goals refine (HD0 _).mono ?_
      all_goals rintro e w1 ⟨rfl, rfl⟩
      all_goals go_wp2
      all_goals go_end0
      all_goals rw [HX.out]
      all_goals (obtain ⟨A', h1, h2⟩ := HX3.out; exact ⟨rfl, n', A', B', hn', h1, HSk.out.trans h2⟩)
end Go.Proofs.YtgpgkpciajajcaaGreatDoor

