/- Several texts in one: Yc, Yd, Ye. -/
import Derived.Test.YtekejnjaiccnbaaGreatDoorNb
/- Package wal: mend, where the last file is torn. -/
namespace Go.Proofs.YtekejnjaiccnbaaGreatDoor
open Go.RowKit Go.Maps Go.Sort
set_option linter.unusedVariables false
set_option maxRecDepth 20000

/-- A folder whose last segment has something torn behind its records. -/
structure TornLog (V : Cont) (dir : ByteArray) (K : Kp) (Ls LL : Sg) (kl : Nat) (rl : List (List Int)) (tl : List Int) (sl : Nat) : Prop where
  all : LL = Ls ++ [(kl, rl)]
  folder : Folder V dir (cpNums K) false (LL.map Prod.fst)
  cp : CpIs V dir (cpName dir K) K
  whole : Whole V dir Ls
  last : V (segN dir kl) = some (logB frameR rl ++ tl, sl)
  recs : FileRecs (logB frameR rl ++ tl) rl tl
  above : ∀ q ∈ LL, lastN K < q.1
  big : lastN K < 100000000
  num : kl < 100000000
  noNew : V (newN dir) = none
/-- What mend has made of it. -/
def TornMend (base d mb n : Nat) (x' : DSt) (dir : ByteArray) (K : Kp) (LL : Sg) (B : Nat → Prop) (W : World) (p : Nat) (v : Sl) (w' : World) : Prop := ∃ (m n' : Nat) (A B' : Nat → Prop) (lo : Nat), RecsLo lo w' (slV v) m (cpRecs K ++ recsOf LL) ∧ n' ≤ n + 2 ∧ LogAt w' base d mb n' x' p dir (cpName dir K) (LL.map Prod.fst) (openN K LL) A B' ∧ Kept W w' (fun k => k = p ∨ B k) ∧ (∀ k, A k → k = p ∨ W.heap.size ≤ k) ∧ (∀ k, k < W.heap.size → B' k → B k) ∧ W.heap.size ≤ lo
set_option maxHeartbeats 16000000 in
theorem w_mendT (base d mb n : Nat) (dir : ByteArray) (x : DSt) (B : Nat → Prop) (K : Kp) (Ls LL : Sg) (kl : Nat) (rl : List (List Int)) (tl : List Int) (sl : Nat) (w W0 : World) (p : Nat) (hdir : dirB dir = true) (ht : Tab W0) (hMI : MendIn w W0 p d dir) (hd : DS W0 base d mb n x B) (hlp : ∀ k, B k → k < p) (hcalm : x.Calm) (hw : x.wn ≤ 999999980) (hn : n < 1048576) (hlog : TornLog x.V dir K Ls LL kl rl tl sl) (htl : tl ≠ []) (hrl : rl ≠ []) (hlb : (logB frameR rl).length ≤ 4194304) (hsz : (cpRecs K ++ recsOf LL).length ≤ 4194304) (hln : LL.length ≤ 4194304) (hb : base ≤ W0.heap.size) :
    Calls Tryz.prog 45 #[.pointer (some ⟨p, 0, none⟩)] W0 fun e w' => ∃ v : Sl, e = .returned (slV v) ∧ TornMend base d mb n (putX x dir (segN dir kl) (logB frameR rl)) dir K LL B W0 p v w' ∧ ∀ k, p < k → k < W0.heap.size → w'.heap[k]? = W0.heap[k]? := by
  have h := hMI.row
  have hon := hcalm.on
  have hltB : ∀ k, B k → k < W0.heap.size := fun k hk => Nat.lt_trans (hlp k hk) h.lt
  have hBp : ¬ B p := fun hk => Nat.lt_irrefl _ (hlp p hk)
  have HLTB : Hid (∀ k, B k → k < W0.heap.size) := hltB
  have HCALM : Hid x.Calm := hcalm
  have HTL : Hid (tl ≠ []) := htl
  have HRL : Hid (rl ≠ []) := hrl
  have HLP : Hid (∀ k, B k → k < p) := hlp
  clear hMI hltB hlp hcalm htl hrl
  have hds : dir.size ≤ 32 := by simp only [dirB, Bool.and_eq_true, decide_eq_true_eq] at hdir; exact hdir.2
  have HLK : Hid (Calls Tryz.prog 90 #[.pointer (some ⟨p, 0, none⟩)] W0 (LookOut W0 (cpNums K) (LL.map Prod.fst) false)) := w_look base p d mb n dir ⟨#[]⟩ (.slice none 0 0) 0 x B (cpNums K) (LL.map Prod.fst) false W0 hdir h hd hon hlog.folder (by omega) (fun k hk => by obtain ⟨q, hq, rfl⟩ := List.mem_map.1 hk; have := hlog.above q hq; omega)
  have HW : Hid (WRow W0 p d dir ⟨#[]⟩ (.slice none 0 0) 0) := h
  have HD : Hid (DS W0 base d mb n x B) := hd
  have HT : Hid (Tab W0) := ht
  have HB : Hid (¬ B p) := hBp
  have HDIR : Hid (dirB dir = true) := hdir
  have HLOG : Hid (TornLog x.V dir K Ls LL kl rl tl sl) := hlog
  have eL2 : (LL.map Prod.fst).length = LL.length := List.length_map _
  have HBIG := HLOG.out.big
  clear h hd ht hBp hdir hlog
  go_enter Tryz.func45, Tryz.ntmps45
  go_wp2_with fail
  refine HLK.out.mono ?_
  rintro e w1 ⟨a0, k0, a1, k1, b1, rfl, ho0, ho1, hb0, hb1, hg1, hnil⟩
  have hga : w1.grownBy (w1.alloc (.cells #[.slice a0 (cpNums K).length k0, .slice a1 LL.length k1, .bool false] 115)) none := World.grownBy_alloc w1 _ none
  have hgw := hg1.trans hga
  have HGW : Hid (W0.grownBy (w1.alloc (.cells #[.slice a0 (cpNums K).length k0, .slice a1 LL.length k1, .bool false] 115)) none) := hgw
  have hpb : p < b1 := Nat.lt_of_lt_of_le HW.out.lt hb1
  have hs1 := SOwn.kept ho1 hga (by cases a1 <;> simp [Value.ownBlock])
  have HWA : Hid (WRow (w1.alloc (.cells #[.slice a0 (cpNums K).length k0, .slice a1 LL.length k1, .bool false] 115)) p d dir ⟨#[]⟩ (.slice none 0 0) 0) := HW.out.kept hgw (by simp)
  have HTA : Hid (Tab (w1.alloc (.cells #[.slice a0 (cpNums K).length k0, .slice a1 LL.length k1, .bool false] 115))) := HT.out.grown hgw
  have HDO : Hid (Calls Tryz.prog 93 #[.pointer (some ⟨p, 0, none⟩), FolderV (.slice a0 (cpNums K).length k0) (.slice a1 LL.length k1) false] (w1.alloc (.cells #[.slice a0 (cpNums K).length k0, .slice a1 LL.length k1, .bool false] 115)) fun e w' => e = .returned (.int .i64 (lastN K : Int)) ∧ WRow w' p d dir (cpName dir K) (.slice a1 LL.length k1) 0 ∧ (w1.alloc (.cells #[.slice a0 (cpNums K).length k0, .slice a1 LL.length k1, .bool false] 115)).grownBy w' (some p)) := by
    have := w_dropOld p d dir (.slice none 0 0) 0 K (LL.map Prod.fst) a0 a1 k0 k1 W0.heap.size b1 false (w1.alloc (.cells #[.slice a0 (cpNums K).length k0, .slice a1 LL.length k1, .bool false] 115)) (by omega) HTA.out HBIG HWA.out (SOwn.kept ho0 hga (by cases a0 <;> simp [Value.ownBlock])) hs1 HLOG.out.folder.segr.1 (fun k hk => by obtain ⟨q, hq, rfl⟩ := List.mem_map.1 hk; exact HLOG.out.above q hq) (by rw [eL2]; exact hln) hnil hpb
    rw [eL2] at this
    exact this
  rw [eL2] at hs1 ho1 ⊢
  have HS1 : Hid (SOwn intE 3 (w1.alloc (.cells #[.slice a0 (cpNums K).length k0, .slice a1 LL.length k1, .bool false] 115)) b1 (.slice a1 LL.length k1) LL.length (nI (LL.map Prod.fst))) := hs1
  have HB1 : Hid (∀ y, a1 = some y → y.block < w1.heap.size) := fun y hy => by subst hy; exact (ho1.block _ rfl).2
  have HNIL : Hid (LL.map Prod.fst = [] → a1 = none ∧ k1 = 0) := hnil
  clear ho0 ho1 hb0 hg1 hnil HLK hga hgw hs1
  unfold FolderV at HDO ⊢
  go_wp2_with fail
  refine HDO.out.mono ?_
  rintro e w3 ⟨rfl, hW3, hg3⟩
  have hgw3 : W0.grownBy w3 (some p) := gb_trans (gb_any HGW.out _) hg3 (fun k hk => .inr hk)
  have hs3 := SOwn.kept HS1.out hg3 (.inr (fun e => by have := (HS1.out.block _ e).1; omega))
  have hB3 : ∀ k, B k → ¬ (k = p) := fun k hk e => HB.out (e ▸ hk)
  have hL3 : LogAt w3 base d mb n x p dir (cpName dir K) (LL.map Prod.fst) 0 (fun k => k = p ∨ ∃ y, a1 = some y ∧ k = y.block) B := by
    refine ⟨HD.out.others (Kept.of hgw3 (X := fun k => k = p) (fun k hk => by cases hk; rfl)) hB3, ⟨a1, k1, by rw [eL2]; exact hW3, by rw [eL2]; exact hs3.base (Nat.zero_le _), .inl rfl, fun y hy => ⟨.inr ⟨y, hy, rfl⟩, fun e => ?_⟩⟩, ?_, fun k hk => Nat.lt_of_lt_of_le (HLTB.out k hk) hgw3.size, ?_⟩
    · subst hy
      have := (HS1.out.block y.block rfl).1
      omega
    · rintro k (rfl | ⟨y, rfl, rfl⟩) hk
      · exact HB.out hk
      · have h1 := (HS1.out.block y.block rfl).1
        have h2 := HLTB.out _ hk
        omega
    · rintro k (rfl | ⟨y, rfl, rfl⟩)
      · exact hW3.lt
      · exact (hs3.block y.block rfl).2
  have HA : Hid (∀ k, (k = p ∨ ∃ y, a1 = some y ∧ k = y.block) → k = p ∨ W0.heap.size ≤ k) := by
    show ∀ k, _ → _
    rintro k (rfl | ⟨y, rfl, rfl⟩)
    · exact .inl rfl
    · exact .inr (Nat.le_trans hb1 (HS1.out.block y.block rfl).1)
  obtain ⟨A, eA⟩ : ∃ A : Nat → Prop, A = fun k => k = p ∨ ∃ y, a1 = some y ∧ k = y.block := ⟨_, rfl⟩
  rw [← eA] at hL3
  have HA : Hid (∀ k, A k → k = p ∨ W0.heap.size ≤ k) := by rw [eA]; exact HA.out
  have HRA : Hid (Calls Tryz.prog 94 #[.pointer (some ⟨p, 0, none⟩)] w3 (TornOut w3 base d mb n (putX x dir (segN dir kl) (logB frameR rl)) p dir (cpName dir K) (LL.map Prod.fst) 0 A B (cpRecs K ++ recsOf LL))) := w_replayAllT base p d mb n dir (cpName dir K) 0 x A B K Ls LL kl rl tl sl w3 HDIR.out (HTA.out.row HWA.out hg3) HLOG.out.all hL3 HCALM.out hw hn HLOG.out.noNew HLOG.out.cp HLOG.out.whole HLOG.out.last HLOG.out.recs HTL.out HRL.out HLOG.out.num hlb hsz hln (Nat.le_trans hb hgw3.size)
  have HG3 : Hid (W0.grownBy w3 (some p)) := hgw3
  have HLT3 : Hid (∀ k, A k ∨ B k → k < w3.heap.size) := fun k hk => hk.elim (hL3.ltA k) (hL3.ltB k)
  clear hL3 hW3 hg3 hgw3 hs3 HDO HS1 HWA HTA HGW hB3 eA HB1 HNIL
  go_wp2_with fail
  refine HRA.out.mono ?_
  rintro e w4 ⟨rv, m, n4, B4, rfl, hro, hn4, hL4, hS4⟩
  have HRO : Hid (RecsOut w3 w4 (slV rv) m (cpRecs K ++ recsOf LL)) := hro
  have HS4 : Hid (Step2 w3 w4 A B A B4) := hS4
  have hLa := hL4.setOpen (lastN K + 1) ((lastN K : Int) + 1) (by omega)
  obtain ⟨L', eL'⟩ : ∃ L', LL.length = L' + 1 := ⟨Ls.length, by rw [HLOG.out.all]; simp⟩
  obtain ⟨k, hk⟩ : ∃ k, (LL.map Prod.fst)[LL.length - 1]? = some k := ⟨_, List.getElem?_eq_getElem (by rw [eL2]; omega)⟩
  have HOP : Hid (k = openN K LL) := by
    show _ = _
    unfold openN
    rw [List.getLast?_eq_getElem?, eL2, hk]
  have hLb := hLa.1.setOpen k (k : Int) rfl
  have HLb : Hid (LogAt ((w4.setCell ⟨p, 4, none⟩ (.int .i64 ((lastN K : Int) + 1))).setCell ⟨p, 4, none⟩ (.int .i64 (k : Int))) base d mb n4 (putX x dir (segN dir kl) (logB frameR rl)) p dir (cpName dir K) (LL.map Prod.fst) k A B4) := hLb.1
  have HS6 : Hid (Step2 w3 ((w4.setCell ⟨p, 4, none⟩ (.int .i64 ((lastN K : Int) + 1))).setCell ⟨p, 4, none⟩ (.int .i64 (k : Int))) A B A B4) := (hS4.trans hLa.2).trans hLb.2
  obtain ⟨a4, k4, hW4, _, _, _⟩ := hL4.wal
  obtain ⟨a5, k5, hW5, hso5, _, hay5⟩ := hLa.1.wal
  rw [eL2] at hW4 hW5 hso5
  have y4 := hW4.cells.2.2.2.2
  have z4 := hW4.frozen 4
  have y5 := hW5.cells.2.2.2.1
  have x5 := hW5.cells.2.2.2.2
  have z5 := hW5.frozen 4
  obtain ⟨b, off, rfl, hcell5⟩ := nI_cell hso5.rd hk
  rw [eL'] at y5
  rw [eL', show L' + 1 - 1 = L' from rfl] at hcell5
  have q5 : -9223372036854775808 ≤ (lastN K : Int) + 1 ∧ (lastN K : Int) + 1 ≤ 9223372036854775807 := by omega
  have qL : (L' : Int) < (L' : Int) + 1 := by omega
  have hL4' : (L' : Int) ≤ 4194304 := by omega
  have HFIN : Hid (TornMend base d mb n (putX x dir (segN dir kl) (logB frameR rl)) dir K LL B W0 p rv ((w4.setCell ⟨p, 4, none⟩ (.int .i64 ((lastN K : Int) + 1))).setCell ⟨p, 4, none⟩ (.int .i64 (k : Int))) ∧ ∀ j, p < j → j < W0.heap.size → ((w4.setCell ⟨p, 4, none⟩ (.int .i64 ((lastN K : Int) + 1))).setCell ⟨p, 4, none⟩ (.int .i64 (k : Int))).heap[j]? = W0.heap[j]?) := by
    have hk46 : Kept w4 ((w4.setCell ⟨p, 4, none⟩ (.int .i64 ((lastN K : Int) + 1))).setCell ⟨p, 4, none⟩ (.int .i64 (k : Int))) (fun j => j = p) := Kept.of (gb_trans (gb_set rfl) (gb_set rfl) (fun j hj => .inr hj)) (fun j hj => by cases hj; rfl)
    have hp3 : p < w3.heap.size := Nat.lt_of_lt_of_le HW.out.lt HG3.out.size
    have hk06 : Kept W0 ((w4.setCell ⟨p, 4, none⟩ (.int .i64 ((lastN K : Int) + 1))).setCell ⟨p, 4, none⟩ (.int .i64 (k : Int))) (fun j => j = p ∨ B j) := (Kept.of HG3.out (X := fun j => j = p ∨ B j) (fun j hj => by cases hj; exact .inl rfl)).trans HS6.out.kept (fun j hj hX => hX.elim (fun ha => (HA.out j ha).elim .inl (fun h => by omega)) .inr)
    obtain ⟨ts, t1, t2, t3, t4⟩ := HRO.out.keptK hk46 (fun j hj e => by omega)
    refine ⟨⟨m, n4, A, B4, w3.heap.size, ⟨ts, t1, t2, t3, t4⟩, hn4, HOP.out ▸ HLb.out, hk06, HA.out, fun j hj hb => HS6.out.oldB j (Nat.lt_of_lt_of_le hj HG3.out.size) hb, HG3.out.size⟩, fun j h1 h2 => hk06.block j h2 (fun hX => hX.elim (fun e => by omega) (fun hb => by have := HLP.out j hb; omega))⟩
  clear hro hL4 hS4 hLa hLb hW4 hW5 hso5 hay5 hk HRA
  go_wp2
  go_ret
  exact ⟨rv, rfl, HFIN.out.1, HFIN.out.2⟩
end Go.Proofs.YtekejnjaiccnbaaGreatDoor

/- Open, where the last file is torn. -/
namespace Go.Proofs.YtekejnjaiccnbaaGreatDoor
open Go.RowKit Go.Maps Go.Sort
set_option linter.unusedVariables false
set_option maxRecDepth 20000

theorem putX_calm (x : DSt) (h : x.Calm) (hw : x.wn ≤ 999999980) (V : Cont) : ({ x with wn := x.wn + 3, V := V } : DSt).Calm := by
  obtain ⟨h1, h2, h3⟩ := h.ok
  exact ⟨h.on, h.free, ⟨by dsimp only; omega, h2, h3⟩⟩
theorem torn_log {x : DSt} {dir : ByteArray} {K : Kp} {Ls LL : Sg} {kl : Nat} {rl : List (List Int)} {tl : List Int} {sl : Nat} (h : TornLog x.V dir K Ls LL kl rl tl sl) (hc : x.Calm) (hw : x.wn ≤ 999999980) : Log (putX x dir (segN dir kl) (logB frameR rl)).V dir K LL ∧ (putX x dir (segN dir kl) (logB frameR rl)).Calm ∧ (putX x dir (segN dir kl) (logB frameR rl)).wn = x.wn + 3 := by
  rw [putX_eq x hc hw dir _ _ h.noNew]
  refine ⟨?_, putX_calm x hc hw _, rfl⟩
  have e0 : setV x.V (newN dir) none = x.V := by
    funext s
    by_cases e : s = newN dir
    · rw [e, setV_same, h.noNew]
    · exact setV_other _ _ e
  show Log (setV (setV x.V (newN dir) none) (segN dir kl) (some (logB frameR rl, (logB frameR rl).length))) dir K LL
  rw [e0]
  have hne : ∀ q ∈ Ls, q.1 ≠ kl := by
    intro q hq
    have h1 := h.folder.segr.1
    rw [h.all, List.map_append, List.pairwise_append] at h1
    have := h1.2.2 q.1 (List.mem_map.2 ⟨q, hq, rfl⟩) kl (by simp)
    omega
  refine ⟨⟨h.folder.cpr, h.folder.segr, fun s => ?_⟩, ?_, fun q hq => ?_, h.above, h.big⟩
  · rw [← h.folder.mem s]
    by_cases e : s = segN dir kl
    · rw [e, setV_same, h.last]
      simp
    · rw [setV_other _ _ e]
  · have hcp := h.cp
    cases K with
    | none => exact hcp
    | some q =>
      obtain ⟨h1, ⟨syn, h2⟩, h3⟩ := hcp
      exact ⟨h1, ⟨syn, by rw [setV_other _ _ (cp_ne_seg dir q.1 kl)]; exact h2⟩, h3⟩
  · rw [h.all] at hq
    rcases List.mem_append.1 hq with hq | hq
    · exact Whole.other h.whole h.num _ hne q hq
    · simp only [List.mem_singleton] at hq
      subst hq
      exact ⟨⟨_, setV_same _ _ _⟩, h.recs.len, h.num⟩
theorem openW_kept (w5 : World) (p : Nat) (v : Sl) : Kept w5 (openW w5 p v) (fun k => k = p + 2 ∨ k = p + 3) := by
  have g1 : w5.grownBy (w5.setCell ⟨p + 2, 0, none⟩ (slV v)) (some (p + 2)) := gb_set rfl
  have g2 : (w5.setCell ⟨p + 2, 0, none⟩ (slV v)).grownBy (openW w5 p v) (some (p + 3)) := gb_drew (gb_set rfl)
  exact (Kept.of g1 (X := fun k => k = p + 2 ∨ k = p + 3) (fun k hk => by cases hk; exact .inl rfl)).trans (Kept.of g2 (X := fun k => k = p + 2 ∨ k = p + 3) (fun k hk => by cases hk; exact .inr rfl)) (fun k _ h => h)
/-- Open, of a folder with something torn. -/
theorem s_openT {W w : World} {d mb n : Nat} {x : DSt} {dir : ByteArray} {K : Kp} {Ls LL : Sg} {kl : Nat} {rl : List (List Int)} {tl : List Int} {sl : Nat} {B : Nat → Prop} (hd : DS w W.heap.size d mb n x B) (hT : TornLog x.V dir K Ls LL kl rl tl sl) (hc : x.Calm) (hfrom : W.grownBy w none) (hlow : ∀ k, B k → W.heap.size ≤ k) (hltB : ∀ k, B k → k < w.heap.size) (ht : Tab W) (hdir : dirB dir = true) (hw : x.wn ≤ 999999980) (hn : n < 1048576) (htl : tl ≠ []) (hrl : rl ≠ []) (hlb : (logB frameR rl).length ≤ 4194304) (hsz : (cpRecs K ++ recsOf LL).length ≤ 4194304) (hln : LL.length ≤ 4194304) :
    Calls Tryz.prog 13 #[.pointer (some ⟨d, 0, none⟩), .string dir] w fun e w' => ∃ (p : Nat) (v : Sl) (m lo n' : Nat) (x' : DSt) (B' : Nat → Prop), e = .returned (.tuple #[.pointer (some ⟨p, 0, none⟩), slV v, .int .i64 0]) ∧ De W w' d mb n' x' dir K LL B' ∧ RecsLo lo w' (slV v) m (cpRecs K ++ recsOf LL) ∧ n' ≤ n + 2 := by
  refine (w_openG d dir w hdir (fun W4 p v w5 => TornMend W.heap.size d mb n (putX x dir (segN dir kl) (logB frameR rl)) dir K LL B W4 p v w5) (fun W4 p hMI => ?_)).mono ?_
  · exact w_mendT W.heap.size d mb n dir x B K Ls LL kl rl tl sl w W4 p hdir (ht.grown (hfrom.trans hMI.grown)) hMI (DV.kept hd hMI.grown) (fun k hk => Nat.lt_of_lt_of_le (hltB k hk) hMI.new_) hc hw hn hT htl hrl hlb hsz hln (Nat.le_trans hfrom.size hMI.grown.size)
  · rintro e w' ⟨W4, p, v, w5, hMI, ⟨m, n', A, B', lo, h1, h2, h3, h4, h5, h6, h7⟩, rfl, rfl⟩
    have hk := openW_kept w5 p v
    obtain ⟨t1, t2, t3⟩ := torn_log hT hc hw
    have hBp : ∀ k, B' k → ¬ (k = p + 2 ∨ k = p + 3) := fun k hb hX => by
      have hs := hMI.size
      have := hltB k (h6 k (by omega) hb)
      have := hMI.new_
      omega
    obtain ⟨ts, r1, r2, r3, r4⟩ := h1
    have hs := hMI.size
    refine ⟨p, v, m, lo, n', _, B', rfl, ⟨h3.disk.others hk hBp, t1, t2, ?_, ?_, fun k hb => Nat.lt_of_lt_of_le (h3.ltB k hb) hk.size, ht⟩, ⟨ts, sown_keptK r1 hk (fun k hkb hX => by have := (r1.block k hkb).1; omega), r2.keptK hk (fun k hkl _ hX => by omega), r3, r4⟩, h2⟩
    · have g4 := hfrom.trans hMI.grown
      refine ⟨hk.os.trans (h4.os.trans g4.os), hk.tape.trans (h4.tape.trans g4.tape), hk.output.trans (h4.output.trans g4.output), Nat.le_trans g4.size (Nat.le_trans h4.size hk.size), fun k hkl _ => ?_⟩
      have hkp : k < p := Nat.lt_of_lt_of_le hkl (Nat.le_trans hfrom.size hMI.new_)
      rw [hk.block k (by have := h4.size; omega) (by omega), h4.block k (by omega) (fun hX => hX.elim (fun e => by omega) (fun hb => by have := hlow k hb; omega))]
      exact g4.block k hkl (by simp)
    · intro k hb
      rcases Nat.lt_or_ge k W4.heap.size with hl | hl
      · exact hlow k (h6 k hl hb)
      · exact Nat.le_trans (Nat.le_trans hfrom.size hMI.grown.size) hl
end Go.Proofs.YtekejnjaiccnbaaGreatDoor

/- A log that is written, and torn: what its walk needs. -/
namespace Go.Proofs.YtekejnjaiccnbaaGreatDoor
open Go.RowKit Go.Maps Go.Sort
set_option linter.unusedVariables false
set_option maxRecDepth 20000

/-- A segment that holds a record, and isn't long. -/
def Good (q : Nat × List (List Int)) : Prop := q.2 ≠ [] ∧ (logB frameR q.2).length ≤ 69639
theorem addL_good {K : Kp} {Ls : Sg} {r : List Int} (h : ∀ q ∈ Ls, Good q) (hr : r.length ≤ 65536) : ∀ q ∈ addL K Ls r, Good q := by
  have hf := frame_len r hr
  unfold addL
  cases hg : Ls.getLast? with
  | none =>
    intro q hq
    simp only [List.mem_singleton] at hq
    subst hq
    exact ⟨by simp, by dsimp only; rw [logB_one]; omega⟩
  | some q0 =>
    dsimp only
    split
    · intro q hq
      rcases List.mem_append.1 hq with hq | hq
      · exact h q hq
      · simp only [List.mem_singleton] at hq
        subst hq
        exact ⟨by simp, by dsimp only; rw [logB_one]; omega⟩
    · rename_i hlt
      intro q hq
      rcases List.mem_append.1 hq with hq | hq
      · exact h q (List.dropLast_subset _ hq)
      · simp only [List.mem_singleton] at hq
        subst hq
        exact ⟨by simp, by dsimp only; rw [logB_app, logB_one, List.length_append]; omega⟩
/-- The log behind i records. -/
def ToAt (W wr : World) (d mb i : Nat) (m : Int) (p : Nat) (rs : List (List Int)) : Prop := ∃ (n : Nat) (x : DSt) (Ls : Sg) (A B : Nat → Prop), Se W wr d mb n x p dirX none Ls A B ∧ recsOf Ls = rs ∧ n ≤ i ∧ x.wn ≤ m ∧ openN none Ls ≤ i + 1 ∧ Ls.length ≤ i ∧ rs.length ≤ i ∧ ∀ q ∈ Ls, Good q
theorem ToAt.grown {W w w' : World} {d mb i p : Nat} {m : Int} {rs : List (List Int)} (h : ToAt W w d mb i m p rs) (hg : w.grownBy w' none) : ToAt W w' d mb i m p rs := by
  obtain ⟨n, x, Ls, A, B, h1, h2⟩ := h
  exact ⟨n, x, Ls, A, B, h1.grown hg, h2⟩
theorem ToAt.from_ {W w : World} {d mb i p : Nat} {m : Int} {rs : List (List Int)} (h : ToAt W w d mb i m p rs) : W.grownBy w none := by
  obtain ⟨n, x, Ls, A, B, h1, h2⟩ := h
  exact h1.from_
theorem to_append {W w : World} {d mb i p : Nat} {m : Int} {rs : List (List Int)} (h : ToAt W w d mb i m p rs) (a : Option Addr) (r : List Int) (L c : Nat) (hr : Rd w a r) (hL : r.length = L) (hnil : a = none → c = 0) (hz : L ≤ 65536) (hi : i < 1048576) (hm : m ≤ 999999900) :
    Calls Tryz.prog 17 #[.pointer (some ⟨p, 0, none⟩), .slice a L c] w fun e w' => e = .returned (.int .i64 0) ∧ ToAt W w' d mb (i + 1) (m + 2) p (rs ++ [r]) := by
  obtain ⟨n, x, Ls, A, B, h1, h2, h6, h7, h8, h9, h10, h11⟩ := h
  have had := log_add (rec := r) h1.log h1.calm (by omega) (by omega) (by omega)
  refine (s_append h1 dirX_ok a r L c (by omega) (by omega) (by omega) (by omega) hr hL hnil hz).mono ?_
  rintro e w' ⟨rfl, n', A', B', k1, k2, k3, k4⟩
  have hop : openN none (addL none Ls r) ≤ i + 1 + 1 := by
    rw [← had.op]
    have := rollX_le x dirX (openN none Ls)
    omega
  have := addL_len none Ls r
  exact ⟨rfl, n', _, _, A', B', k3, by rw [recsOf_add, h2], by omega, by omega, hop, by omega, by simp; omega, addL_good h11 (by omega)⟩
/-- The disk of a log: its segments, listed. -/
theorem se_list {W w : World} {d mb n : Nat} {x : DSt} {p : Nat} {Ls : Sg} {A B : Nat → Prop} (h : Se W w d mb n x p dirX none Ls A B) (hn : n ≤ 4194304) (w1 : World) (hg : w.grownBy w1 none) :
    Calls Tryz.prog 26 #[.pointer (some ⟨d, 0, none⟩), .string ⟨#[120, 47, 115]⟩] w1 fun e w' => ∃ a c, e = .returned (.slice a Ls.length c) ∧ SRd strE w' a (Ls.map fun q => segN dirX q.1) ∧ (∀ y, a = some y → w1.heap.size ≤ y.block) ∧ w1.grownBy w' none := by
  refine (x_list W.heap.size d mb n x B ⟨#[120, 47, 115]⟩ w1 (DV.kept h.at_.disk hg) h.calm.on hn).mono ?_
  rintro e w' ⟨a, c, l, rfl, hso, hg', hN, _⟩
  have hnm := h.log.folder.names
  have e0 : namesL dirX (cpNums none) false (Ls.map Prod.fst) = Ls.map fun q => segN dirX q.1 := by
    simp [namesL, cpNums, Function.comp_def]
  rw [e0] at hnm
  have hN2 : NamesOf x.V ⟨#[120, 47, 115]⟩ (Ls.map fun q => segN dirX q.1) := by
    refine ⟨hnm.1, hnm.2.1, fun s => ?_⟩
    constructor
    · intro hs
      refine ⟨((hnm.2.2 s).1 hs).1, ?_⟩
      obtain ⟨q, _, rfl⟩ := List.mem_map.1 hs
      exact seg_pre q.1
    · rintro ⟨s1, s2⟩
      exact (hnm.2.2 s).2 ⟨s1, hasPrefix_mid _ s2⟩
  have el := hN.uniq hN2
  have ell : l.length = Ls.length := by rw [el, List.length_map]
  rw [ell, el] at hso
  rw [ell]
  exact ⟨a, c, rfl, hso.rd, fun y hy => by subst hy; exact (hso.block y.block rfl).1, hg'⟩
/-- Something torn behind the last segment. -/
theorem torn_of {x : DSt} {Ls0 : Sg} {kl : Nat} {rl : List (List Int)} {syn : Nat} (h : Log x.V dirX none (Ls0 ++ [(kl, rl)])) (hV : x.V (segN dirX kl) = some (logB frameR rl, syn)) (fr : List Int) (k : Nat) (hfr : fr.length ≤ 65536) (hk : k < (frameR fr).length) :
    TornLog (setV x.V (segN dirX kl) (some (logB frameR rl ++ (frameR fr).take k, syn))) dirX none Ls0 (Ls0 ++ [(kl, rl)]) kl rl ((frameR fr).take k) syn := by
  have hw := h.whole (kl, rl) (by simp)
  have hne : ∀ q ∈ Ls0, q.1 ≠ kl := by
    intro q hq
    have h1 := h.folder.segr.1
    rw [List.map_append, List.pairwise_append] at h1
    have := h1.2.2 q.1 (List.mem_map.2 ⟨q, hq, rfl⟩) kl (by simp)
    omega
  refine ⟨rfl, ⟨h.folder.cpr, h.folder.segr, fun s => ?_⟩, rfl, Whole.other (fun q hq => h.whole q (List.mem_append_left _ hq)) hw.2.2 _ hne, setV_same _ _ _, FileRecs.torn rl fr k hw.2.1 hfr hk, h.above, h.big, hw.2.2, ?_⟩
  · rw [← h.folder.mem s]
    by_cases e : s = segN dirX kl
    · rw [e, setV_same, hV]
      simp
    · rw [setV_other _ _ e]
  · rw [setV_other _ _ (new_ne_seg dirX kl)]
    exact h.noNew
theorem recsOf_nil {Ls : Sg} (h : ∀ q ∈ Ls, Good q) (hr : recsOf Ls = []) : Ls = [] := by
  cases Ls with
  | nil => rfl
  | cons q Ls =>
    exfalso
    unfold recsOf at hr
    rw [List.flatMap_cons] at hr
    exact (h q (List.mem_cons_self ..)).1 (List.append_eq_nil_iff.1 hr).1
end Go.Proofs.YtekejnjaiccnbaaGreatDoor

