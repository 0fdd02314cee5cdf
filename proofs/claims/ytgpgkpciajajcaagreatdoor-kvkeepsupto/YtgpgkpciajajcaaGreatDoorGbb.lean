/- Several texts in one: Ld, Lh, Li. -/
import Derived.Test.YtgpgkpciajajcaaGreatDoorGba
/- What Cut comes to, of a log with a checkpoint: what stands on the disk. (No program's numbers.) -/
namespace Go.Proofs.YtgpgkpciajajcaaGreatDoor
open Go.RowKit Go.Maps Go.Sort
set_option linter.unusedVariables false
set_option maxRecDepth 20000

theorem openN_leK {V : Cont} {dir : ByteArray} {K : Kp} {Ls : Sg} (h : Log V dir K Ls) : ∀ k ∈ Ls.map Prod.fst, k ≤ openN K Ls := by
  rcases List.eq_nil_or_concat Ls with rfl | ⟨L0, q, rfl⟩
  · intro k hk
    cases hk
  · rw [List.concat_eq_append] at *
    intro k hk
    obtain ⟨p, hp, rfl⟩ := List.mem_map.1 hk
    rw [openN_snoc]
    rcases List.mem_append.1 hp with hp | hp
    · exact Nat.le_of_lt (h.rise p hp)
    · simp only [List.mem_singleton] at hp
      subst hp
      exact Nat.le_refl _
theorem draft_ofK {V V1 : Cont} {dir : ByteArray} {K : Kp} {Ls : Sg} (kp : Int) (h : Log V dir K Ls) (hc : CpSy V dir K) (hs : AllSy V dir Ls) (h1 : ∀ t, t ≠ newN dir → V1 t = V t) (h2 : ∃ q, V1 (newN dir) = some q) : DraftK (lostV kp V1) dir K Ls := by
  obtain ⟨q, hq⟩ := h2
  have hseg : ∀ p ∈ Ls, lostV kp V1 (segN dir p.1) = some (logB frameR p.2, (logB frameR p.2).length) := fun p hp => lost_synced kp (by rw [h1 _ (fun e => new_ne_seg dir p.1 e.symm)]; exact hs p hp)
  have hc1 : CpSy V1 dir K := fun q hq => by rw [h1 _ (cp_ne_new dir q.1)]; exact hc q hq
  refine ⟨⟨h.folder.cpr, h.folder.segr, fun s => ?_⟩, (hc1.lost kp).is h.cp, fun p hp => ⟨⟨_, hseg p hp⟩, (h.whole p hp).2⟩, h.above, h.big, ⟨cutV kp q, by unfold lostV; rw [hq]; rfl⟩⟩
  rw [lost_isSome, draft_names, ← h.folder.mem s]
  by_cases e : s = newN dir
  · subst e
    simp [hq, new_in]
  · rw [h1 s e]
    simp [e]
theorem old_ofK {V V3 V4 : Cont} {dir : ByteArray} {K : Kp} {Ls : Sg} {recs : List (List Int)} (kp : Int) (j : Nat) (h : Log V dir K Ls) (hs : AllSy V dir Ls) (hr : ∀ r ∈ recs, r.length ≤ 65536) (hop : openN K Ls < 100000000) (h1 : V3 (newN dir) = none) (h2 : V3 (cpN dir (openN K Ls)) = some (logB frameR recs, (logB frameR recs).length)) (h3 : ∀ t, t ≠ newN dir → t ≠ cpN dir (openN K Ls) → t ∉ (cpNums K).map (cpN dir) → V3 t = V t) (h3' : ∀ k ∈ cpNums K, V3 (cpN dir k) = none ∧ cpN dir k ≠ cpN dir (openN K Ls)) (h4 : ∀ t, (t ∈ ((Ls.map Prod.fst).map (segN dir)).take j → V4 t = none) ∧ (t ∉ ((Ls.map Prod.fst).map (segN dir)).take j → V4 t = V3 t)) : OldLog (lostV kp V4) dir (openN K Ls, recs) ((Ls.map Prod.fst).drop j) := by
  have hnd := segs_nodup (dir := dir) h.folder.segr
  have hsplit : (Ls.map Prod.fst).map (segN dir) = ((Ls.map Prod.fst).map (segN dir)).take j ++ ((Ls.map Prod.fst).drop j).map (segN dir) := by
    rw [List.map_drop, List.take_append_drop]
  have hdis : ∀ s ∈ ((Ls.map Prod.fst).drop j).map (segN dir), s ∉ ((Ls.map Prod.fst).map (segN dir)).take j := fun s hs1 hs2 => by
    rw [hsplit] at hnd
    exact (List.nodup_append.1 hnd).2.2 s hs2 s hs1 rfl
  have hsub : ∀ s ∈ ((Ls.map Prod.fst).map (segN dir)).take j, ∃ k, s = segN dir k := fun s hs => by
    obtain ⟨k, _, e⟩ := List.mem_map.1 (List.mem_of_mem_take hs)
    exact ⟨k, e.symm⟩
  have hcp : cpN dir (openN K Ls) ∉ ((Ls.map Prod.fst).map (segN dir)).take j := fun hin => by
    obtain ⟨k, e⟩ := hsub _ hin
    exact cp_ne_seg dir _ _ e
  have hnw : newN dir ∉ ((Ls.map Prod.fst).map (segN dir)).take j := fun hin => by
    obtain ⟨k, e⟩ := hsub _ hin
    exact new_ne_seg dir _ e
  have hcpV : lostV kp V4 (cpN dir (openN K Ls)) = some (logB frameR recs, (logB frameR recs).length) := lost_synced kp (by rw [(h4 _).2 hcp]; exact h2)
  have hrise : Rising ((Ls.map Prod.fst).drop j) := ⟨h.folder.segr.1.sublist (List.drop_sublist j _), fun k hk => h.folder.segr.2 k (List.mem_of_mem_drop hk)⟩
  refine ⟨⟨⟨by simp, fun k hk => by simp at hk; omega⟩, hrise, fun s => ?_⟩, ⟨rfl, ⟨_, hcpV⟩, hr, hop⟩, fun k hk => ?_, fun k hk => openN_leK h k (List.mem_of_mem_drop hk)⟩
  · have e1 : namesL dir [openN K Ls] false ((Ls.map Prod.fst).drop j) = cpN dir (openN K Ls) :: ((Ls.map Prod.fst).drop j).map (segN dir) := by simp [namesL]
    have hm := h.folder.mem s
    have e2 : namesL dir (cpNums K) false (Ls.map Prod.fst) = (cpNums K).map (cpN dir) ++ (Ls.map Prod.fst).map (segN dir) := by simp [namesL]
    rw [e2, List.mem_append] at hm
    rw [lost_isSome]
    show _ ↔ s ∈ namesL dir [openN K Ls] false ((Ls.map Prod.fst).drop j)
    rw [e1, List.mem_cons]
    by_cases es : s = cpN dir (openN K Ls)
    · subst es
      rw [(h4 _).2 hcp, h2]
      simp [cp_in]
    · by_cases en : s = newN dir
      · subst en
        rw [(h4 _).2 hnw, h1]
        constructor
        · rintro ⟨h5, _⟩
          cases h5
        · rintro (h5 | h5)
          · exact absurd h5 es
          · obtain ⟨k, _, e⟩ := List.mem_map.1 h5
            exact absurd e.symm (new_ne_seg dir k)
      · by_cases hin : s ∈ ((Ls.map Prod.fst).map (segN dir)).take j
        · rw [(h4 s).1 hin]
          constructor
          · rintro ⟨h5, _⟩
            cases h5
          · rintro (h5 | h5)
            · exact absurd h5 es
            · exact absurd hin (hdis s h5)
        · by_cases hold : s ∈ (cpNums K).map (cpN dir)
          · obtain ⟨k0, hk0, rfl⟩ := List.mem_map.1 hold
            rw [(h4 _).2 hin, (h3' k0 hk0).1]
            constructor
            · rintro ⟨h5, _⟩
              cases h5
            · rintro (h5 | h5)
              · exact absurd h5 es
              · obtain ⟨k, _, e⟩ := List.mem_map.1 h5
                exact absurd e.symm (cp_ne_seg dir k0 k)
          · rw [(h4 s).2 hin, h3 s en es hold, hm, hsplit, List.mem_append]
            constructor
            · rintro (h5 | h5 | h5)
              · exact absurd h5 hold
              · exact absurd h5 hin
              · exact .inr h5
            · rintro (h5 | h5)
              · exact absurd h5 es
              · exact .inr (.inr h5)
  · obtain ⟨p, hp, rfl⟩ := List.mem_map.1 (List.mem_of_mem_drop hk)
    exact Nat.lt_of_le_of_lt (Nat.zero_le _) (h.above p hp)
/-- A new checkpoint stands beside the old one, with all segments. -/
structure OldTwo (V : Cont) (dir : ByteArray) (k0 : Nat) (q : Nat × List (List Int)) (segs : List Nat) : Prop where
  folder : Folder V dir [k0, q.1] false segs
  cp : CpIs V dir (cpName dir (some q)) (some q)
  pos : ∀ k ∈ segs, 0 < k
  le : ∀ k ∈ segs, k ≤ q.1
theorem two_of {V V3 : Cont} {dir : ByteArray} {q0 : Nat × List (List Int)} {Ls : Sg} {recs : List (List Int)} (kp : Int) (h : Log V dir (some q0) Ls) (hr : ∀ r ∈ recs, r.length ≤ 65536) (hop : openN (some q0) Ls < 100000000) (hlt : q0.1 < openN (some q0) Ls) (h1 : V3 (newN dir) = none) (h2 : V3 (cpN dir (openN (some q0) Ls)) = some (logB frameR recs, (logB frameR recs).length)) (h3 : ∀ t, t ≠ newN dir → t ≠ cpN dir (openN (some q0) Ls) → V3 t = V t) : OldTwo (lostV kp V3) dir q0.1 (openN (some q0) Ls, recs) (Ls.map Prod.fst) := by
  have hcpV : lostV kp V3 (cpN dir (openN (some q0) Ls)) = some (logB frameR recs, (logB frameR recs).length) := lost_synced kp h2
  refine ⟨⟨⟨by simp; exact hlt, fun k hk => ?_⟩, h.folder.segr, fun s => ?_⟩, ⟨rfl, ⟨_, hcpV⟩, hr, hop⟩, fun k hk => ?_, fun k hk => openN_leK h k hk⟩
  · have hb : q0.1 < 100000000 := h.big
    simp only [List.mem_cons, List.not_mem_nil, or_false] at hk
    rcases hk with rfl | rfl <;> omega
  · have hm := h.folder.mem s
    have e2 : s ∈ namesL dir (cpNums (some q0)) false (Ls.map Prod.fst) ↔ s = cpN dir q0.1 ∨ s ∈ (Ls.map Prod.fst).map (segN dir) := by simp [namesL, cpNums]
    have e1 : s ∈ namesL dir [q0.1, openN (some q0) Ls] false (Ls.map Prod.fst) ↔ s = cpN dir q0.1 ∨ s = cpN dir (openN (some q0) Ls) ∨ s ∈ (Ls.map Prod.fst).map (segN dir) := by simp [namesL]
    rw [e2] at hm
    rw [lost_isSome]
    show _ ↔ s ∈ namesL dir [q0.1, openN (some q0) Ls] false (Ls.map Prod.fst)
    rw [e1]
    by_cases es : s = cpN dir (openN (some q0) Ls)
    · subst es
      rw [h2]
      simp [cp_in]
    · by_cases en : s = newN dir
      · subst en
        rw [h1]
        constructor
        · rintro ⟨h5, _⟩
          cases h5
        · rintro (h5 | h5 | h5)
          · exact absurd h5.symm (cp_ne_new dir _)
          · exact absurd h5 es
          · obtain ⟨k, _, e⟩ := List.mem_map.1 h5
            exact absurd e.symm (new_ne_seg dir k)
      · rw [h3 s en es, hm]
        constructor
        · rintro (h5 | h5)
          · exact .inl h5
          · exact .inr (.inr h5)
        · rintro (h5 | h5 | h5)
          · exact .inl h5
          · exact absurd h5 es
          · exact .inr h5
  · obtain ⟨p, hp, rfl⟩ := List.mem_map.1 hk
    exact Nat.lt_of_le_of_lt (Nat.zero_le _) (h.above p hp)
theorem last_lt_open {V : Cont} {dir : ByteArray} {K : Kp} {Ls : Sg} (h : Log V dir K Ls) : lastN K < openN K Ls := by
  rcases List.eq_nil_or_concat Ls with rfl | ⟨L0, q, rfl⟩
  · exact Nat.lt_succ_self _
  · rw [List.concat_eq_append] at *
    rw [openN_snoc]
    exact h.above q (by simp)
end Go.Proofs.YtgpgkpciajajcaaGreatDoor

/- Package wal: dropOld, where an old checkpoint and old segments stand beside the new one. -/
namespace Go.Proofs.YtgpgkpciajajcaaGreatDoor
open Go.RowKit Go.Maps Go.Sort
set_option linter.unusedVariables false
set_option maxRecDepth 20000

set_option maxHeartbeats 8000000 in
theorem w_dropTwo (base p d mb n : Nat) (dir : ByteArray) (v : Value) (op : Int) (x : DSt) (B : Nat → Prop) (c0 : Nat) (q : Nat × List (List Int)) (segs : List Nat) (a0 a1 : Option Addr) (k0 k1 base0 b1 : Nat) (dr : Bool) (w : World) (hdir : dirB dir = true) (hds : dir.size ≤ 64) (ht : Tab w) (hc8 : c0 < 100000000) (hk8 : lastN (some q) < 100000000) (h : WRow w p d dir ⟨#[]⟩ v op) (ho0 : SOwn intE 3 w base0 (.slice a0 2 k0) 2 (nI [c0, q.1])) (ho1 : SOwn intE 3 w b1 (.slice a1 segs.length k1) segs.length (nI segs)) (hsg : segs.Pairwise (· < ·)) (hle : ∀ k ∈ segs, k ≤ q.1) (hn : segs.length ≤ 4194304) (h0 : segs = [] → a1 = none ∧ k1 = 0) (hpb : p < b1) (hpb0 : p < base0) (hd : DS w base d mb n x B) (hok : x.ok) (hdel0 : (x.delete (cpN dir c0)).1 = 0) (hdel : DelOk (x.delete (cpN dir c0)).2 (segs.map (segN dir))) (hBp : ¬ B p) (lb : Nat) (hBb : ∀ k, lb ≤ k → ¬ B k) (hlb : lb ≤ b1) (hbw : lb ≤ w.heap.size) (hfar : ∀ g, Tryz.prog.globalNamed "internal/strconv.uint64pow10" = some g → ¬ B g ∧ g ≠ p) :
    Calls Tryz.prog 151 #[.pointer (some ⟨p, 0, none⟩), FolderV (.slice a0 2 k0) (.slice a1 segs.length k1) dr] w fun e w' => e = .returned (.int .i64 (lastN (some q) : Int)) ∧ ∃ a' n' B', WRow w' p d dir (cpName dir (some q)) (.slice a' 0 (k1 - segs.length)) op ∧ (a' = a1 ∨ a' = a1.map (·.add segs.length)) ∧ n' ≤ n ∧ DS w' base d mb n' (delAll (x.delete (cpN dir c0)).2 (segs.map (segN dir))) B' ∧ Kept w w' (fun k => k = p ∨ B k) ∧ (∀ k, k < w.heap.size → B' k → B k) := by
  have hcap0 := (sown_cap ho0).1
  have hmax0 : k0 ≤ 9223372036854775807 := by
    rcases ho0.2 with ⟨h', _⟩ | ⟨g, cap, cur, h', _, _, _, k4, _⟩
    · injection h' with _ _ e
      omega
    · injection h' with _ _ e
      unfold maxLen at k4
      omega
  obtain ⟨L, eL⟩ : ∃ L, L = segs.length := ⟨_, rfl⟩
  have EL : Hid (L = segs.length) := eL
  have hgB : w.grownBy (w.alloc (.cells #[.slice a0 2 k0, .slice a1 L k1, .bool dr] 169)) none := World.grownBy_alloc w _ none
  have HGB : Hid (w.grownBy (w.alloc (.cells #[.slice a0 2 k0, .slice a1 L k1, .bool dr] 169)) none) := hgB
  have hrow := World.rowIs_alloc w #[.slice a0 2 k0, .slice a1 L k1, .bool dr] 169 (lookF (.slice a0 2 k0) (.slice a1 L k1) dr) (three rfl rfl rfl)
  have HROW : Hid ((w.alloc (.cells #[.slice a0 2 k0, .slice a1 L k1, .bool dr] 169)).rowIs w.heap.size 169 3 (lookF (.slice a0 2 k0) (.slice a1 L k1) dr)) := hrow
  have f0 : (w.alloc (.cells #[.slice a0 2 k0, .slice a1 L k1, .bool dr] 169)).cell? ⟨w.heap.size, 0, none⟩ = some (.slice a0 2 k0) := HROW.out.cell (i := 0) (by omega)
  have f1 : (w.alloc (.cells #[.slice a0 2 k0, .slice a1 L k1, .bool dr] 169)).cell? ⟨w.heap.size, 1, none⟩ = some (.slice a1 L k1) := HROW.out.cell (i := 1) (by omega)
  have HW : Hid (WRow (w.alloc (.cells #[.slice a0 2 k0, .slice a1 L k1, .bool dr] 169)) p d dir ⟨#[]⟩ v op) := h.kept hgB (by simp)
  have HPW : Hid (p < w.heap.size) := h.lt
  rw [← eL] at ho1 hn
  have HO1 : Hid (SOwn intE 3 w b1 (.slice a1 L k1) L (nI segs)) := ho1
  have HLK : Hid (L ≤ k1) := (sown_cap ho1).1
  have HCM : Hid (k1 ≤ 9223372036854775807) := by
    show _ ≤ _
    rcases ho1.2 with ⟨h', _⟩ | ⟨g, cap, cur, h', _, _, _, k4, _⟩
    · injection h' with _ _ e
      omega
    · injection h' with _ _ e
      unfold maxLen at k4
      omega
  have HS : Hid (∀ W : World, Kept w W (fun k => k = p ∨ B k) → Calls Tryz.prog 171 #[.slice a1 L k1, .int .i64 ((lastN (some q) : Int) + 1)] W fun e w' => ∃ b, e = .returned (.tuple #[.int .i64 (L : Int), .bool b]) ∧ ∃ q, w' = W.drewN q) := fun W hg => by
    have := w_searchAll b1 L k1 a1 segs (lastN (some q) + 1) W (sown_keptK ho1 hg (fun k hk hX => by have := (ho1.block k hk).1; exact hX.elim (fun e => by omega) (hBb k (by omega)))) hsg (fun k hk => Nat.lt_succ_of_le (hle k hk)) hn (fun e => h0 (List.eq_nil_of_length_eq_zero (by rw [← eL]; exact e)))
    exact this
  have hsl0 : ∀ W : World, (Instr.slice 44 (.slice a1 L k1) none (some (.int .i64 (L : Int))) none).run Tryz.prog W = .ok (.slice a1 L k1) W := fun W => head75n W a1 L k1 L HLK.out HCM.out
  have HD : Hid (DS w base d mb n x B) := hd
  have HDEL : Hid (DelOk (x.delete (cpN dir c0)).2 (segs.map (segN dir))) := hdel
  have HBP : Hid (¬ B p) := hBp
  have HBB : Hid (∀ k, lb ≤ k → ¬ B k) := hBb
  have HFAR : Hid (∀ g, Tryz.prog.globalNamed "internal/strconv.uint64pow10" = some g → ¬ B g ∧ g ≠ p) := hfar
  have HT : Hid (Tab w) := ht
  have HWW : Hid (WRow w p d dir ⟨#[]⟩ v op) := h
  have HDIR : Hid (dirB dir = true) := hdir
  have HD0 := fun w => w_done0 w
  obtain ⟨x1, ex1⟩ : ∃ x1, x1 = (x.delete (cpN dir c0)).2 := ⟨_, rfl⟩
  have HX1 : Hid (x1 = (x.delete (cpN dir c0)).2) := ex1
  have HDL0 : Hid ((x.delete (cpN dir c0)).1 = 0 ∧ x.ok) := ⟨hdel0, hok⟩
  have HO0 : Hid (SOwn intE 3 w base0 (.slice a0 2 k0) 2 (nI [c0, q.1])) := ho0
  have HS8 : Hid (∀ k ∈ segs, k < 100000000) := fun k hk => Nat.lt_of_le_of_lt (hle k hk) hk8
  clear hd hdel hBp hBb hfar hdir hdel0
  rw [← ex1] at HDEL ⊢
  clear ex1
  rw [← eL]
  unfold FolderV
  clear h ho1 hsg hle h0 eL hgB hrow
  go_enter Tryz.func151, Tryz.ntmps151
  go_upto_if 17 with fail
  go_cut [5] from 6 (fun t5 wc => t5 = .int .i64 (lastN (some q) : Int) ∧ WRow wc p d dir (cpName dir (some q)) v op ∧ wc.cell? ⟨w.heap.size, 1, none⟩ = some (.slice a1 L k1) ∧ ∃ n1 B1, n1 ≤ n ∧ DS wc base d mb n1 x1 B1 ∧ Kept w wc (fun k => k = p ∨ B k) ∧ (∀ k, k ≤ w.heap.size → B1 k → B k))
  case first =>
    obtain ⟨b, off, rfl, hcell⟩ := nI_cell ho0.rd (l := [c0, q.1]) (i := 1) (k := q.1) rfl
    have hcell' := HGB.out.cell hcell (by simp)
    have hslc : ∀ W : World, (Instr.slice 44 (.slice (some ⟨b, off, none⟩) 2 k0) none (some (.int .i64 1)) none).run Tryz.prog W = .ok (.slice (some ⟨b, off, none⟩) 1 k0) W := fun W => head75n W _ 2 k0 1 (by omega) hmax0
    have HCN : Hid (Calls Tryz.prog 139 #[.pointer (some ⟨p, 0, none⟩), .int .i64 (q.1 : Int)] (w.alloc (.cells #[.slice (some ⟨b, off, none⟩) 2 k0, .slice a1 L k1, .bool dr] 169)) fun e w' => e = .returned (.string (cpN dir q.1)) ∧ (w.alloc (.cells #[.slice (some ⟨b, off, none⟩) 2 k0, .slice a1 L k1, .bool dr] 169)).grownBy w' none) := w_cpoint p d dir ⟨#[]⟩ v op q.1 hk8 _ hds (ht.grown HGB.out) HW.out
    go_wp2_with fail
    refine HCN.out.mono ?_
    rintro e w2 ⟨rfl, hg2⟩
    have hW2 := HW.out.kept hg2 (by simp)
    have z2 := hW2.frozen 2
    have y2 : w2.cell? ⟨p, 2, none⟩ = some (.string ⟨#[]⟩) := hW2.cells.2.2.1
    have hr2 := HROW.out.of_block (hg2.block _ HROW.out.lt (by simp))
    have hr3 := hr2.setOther (a := ⟨p, 2, none⟩) (by have := HPW.out; show w.heap.size ≠ p; omega) (.string (cpN dir q.1))
    have g0 : (w2.setCell ⟨p, 2, none⟩ (.string (cpN dir q.1))).cell? ⟨w.heap.size, 0, none⟩ = some (.slice (some ⟨b, off, none⟩) 2 k0) := hr3.cell (i := 0) (by omega)
    have HR3 : Hid ((w2.setCell ⟨p, 2, none⟩ (.string (cpN dir q.1))).rowIs w.heap.size 169 3 (lookF (.slice (some ⟨b, off, none⟩) 2 k0) (.slice a1 L k1) dr)) := hr3
    have HW3 : Hid (WRow (w2.setCell ⟨p, 2, none⟩ (.string (cpN dir q.1))) p d dir (cpN dir q.1) v op) := (hW2.set 2 (.string (cpN dir q.1))).congr (five rfl rfl rfl rfl rfl)
    have HG3 : Hid (w.grownBy (w2.setCell ⟨p, 2, none⟩ (.string (cpN dir q.1))) (some p)) := gb_trans (gb_any (HGB.out.trans hg2) _) (gb_set rfl) (fun k hk => .inr hk)
    clear hg2 hW2 hr2 hr3
    go_wp2_with fail
    obtain ⟨W3, eW3⟩ : ∃ W3, W3 = w2.setCell ⟨p, 2, none⟩ (.string (cpN dir q.1)) := ⟨_, rfl⟩
    rw [← eW3] at HR3 HW3 HG3 g0 ⊢
    clear eW3
    go_loopw [36] (fun t36 wr => ∃ i n6 B6, i ≤ 1 ∧ t36 = .int .i64 (i : Nat) ∧ n6 ≤ n ∧ (i = 0 → wr = W3) ∧ (i = 1 → DS wr base d mb n6 x1 B6 ∧ Kept W3 wr B ∧ (∀ k, k < W3.heap.size → B6 k → B k))) (fun t36 _ => 1 - (intOf t36).toNat)
    case atStart => exact ⟨0, n, B, by omega, rfl, Nat.le_refl _, fun _ => rfl, fun e => by omega⟩
    case round =>
      obtain ⟨i, n6, B6, hi, rfl, hn6, hw0, hw1⟩ := hrel
      have HW1 : Hid (i = 1 → DS wr base d mb n6 x1 B6 ∧ Kept W3 wr B ∧ (∀ k, k < W3.heap.size → B6 k → B k)) := hw1
      clear hw1
      by_cases hlt : i = 0
      · have ewr := hw0 hlt
        subst hlt
        subst ewr
        have hO3 := SOwn.kept HO0.out HG3.out (.inr (fun e => by have := (HO0.out.block _ e).1; omega))
        obtain ⟨b', off', e', hcell0⟩ := nI_cell hO3.rd (l := [c0, q.1]) (i := 0) (k := c0) rfl
        cases e'
        simp only [Nat.add_zero] at hcell0
        have x0 := HW3.out.cells.1
        have hT3 : Tab wr := HT.out.row HWW.out HG3.out
        have HGD : Hid (wr.grownBy wr.drew none) := gb_drew (World.grownBy.refl _ _)
        have HSG : Hid (Calls Tryz.prog 139 #[.pointer (some ⟨p, 0, none⟩), .int .i64 (c0 : Int)] wr.drew fun e w' => e = .returned (.string (cpN dir c0)) ∧ wr.drew.grownBy w' none) := w_cpoint p d dir (cpN dir q.1) v op c0 hc8 _ hds (hT3.grown HGD.out) (HW3.out.kept HGD.out (by simp))
        have HD3 : Hid (DS wr base d mb n x B) := HD.out.others (Kept.of HG3.out (X := fun k => k = p) (fun k hk => by cases hk; rfl)) (fun k hb e => HBP.out (e ▸ hb))
        have HDL : Hid (∀ w1, wr.grownBy w1 none → Calls Tryz.prog 141 #[.pointer (some ⟨d, 0, none⟩), .string (cpN dir c0)] w1 fun e w' => e = .returned (.int .i64 0) ∧ ∃ n' B', n' ≤ n ∧ DS w' base d mb n' x1 B' ∧ Step wr w' B B' ∧ w'.cell? ⟨p, 0, none⟩ = some (.pointer (some ⟨d, 0, none⟩))) := fun w1 hg => by
          rw [HX1.out]
          refine (x_deleteN base d mb n _ B (cpN dir c0) w1 (DV.kept HD3.out hg) HDL0.out.2 (cp_name HDIR.out c0)).mono ?_
          rintro e w' ⟨rfl, n', B', hn', hd', hst⟩
          have hst' : Step wr w' B B' := (Step.grown B hg).trans hst
          refine ⟨by rw [HDL0.out.1], n', B', hn', hd', hst', ?_⟩
          have hW' : WRow w' p d dir (cpN dir q.1) v op := HW3.out.of_block (hst'.1.block p HW3.out.lt HBP.out)
          exact hW'.cells.1
        clear hO3 hT3
        go_wp2_with fail
        go_region_held3 (fun W => W.cell? ⟨p, 0, none⟩ = some (.pointer (some ⟨d, 0, none⟩))) (go_keep) (first
          | (go_at_call 139; refine HSG.out.mono ?_; rintro e w1 ⟨rfl, hg1⟩; have HG1 : Hid (wr.grownBy w1 none) := HGD.out.trans hg1; have x0' : w1.cell? ⟨p, 0, none⟩ = some (.pointer (some ⟨d, 0, none⟩)) := HG1.out.cell x0 (by simp); clear hg1)
          | (go_at_call 141; refine (HDL.out _ HG1.out).mono ?_; rintro e w5 ⟨rfl, n5, B5, hn5, hd5, hs5, x05⟩; have HD5 : Hid (DS w5 base d mb n5 x1 B5) := hd5; have HS5 : Hid (Step wr w5 B B5) := hs5; clear hd5 hs5)
          | (go_at_call 103; refine (HD0 _).mono ?_; rintro e w6 ⟨rfl, rfl⟩))
        go_wp2
        go_roundw
        case rel => exact ⟨1, n5, B5, by omega, by go_num, hn5, fun e => (by cases e), fun _ => ⟨HD5.out, HS5.out.1, HS5.out.2⟩⟩
        case measure => simp [intOf]
      · have hi1 : i = 1 := by omega
        subst hi1
        obtain ⟨hd5, hk5, hb5⟩ := HW1.out rfl
        have HFIN : Hid (WRow wr p d dir (cpName dir (some q)) v op ∧ wr.cell? ⟨w.heap.size, 1, none⟩ = some (.slice a1 L k1) ∧ ∃ n1 B1, n1 ≤ n ∧ DS wr base d mb n1 x1 B1 ∧ Kept w wr (fun k => k = p ∨ B k) ∧ (∀ k, k ≤ w.heap.size → B1 k → B k)) := by
          have hr5 := HR3.out.of_block (hk5.block _ HR3.out.lt (HBB.out _ hbw))
          have hz3 := HR3.out.lt
          exact ⟨HW3.out.of_block (hk5.block p HW3.out.lt HBP.out), hr5.cell (i := 1) (by omega), n6, B6, hn6, hd5, (Kept.of HG3.out (X := fun k => k = p ∨ B k) (fun k hk => by cases hk; exact .inl rfl)).trans hk5 (fun k _ hb => .inr hb), fun k hk hb => hb5 k (by omega) hb⟩
        clear hd5 hk5 hb5 HW1 hw0
        go_wp2_with fail
        go_meet
        exact ⟨rfl, HFIN.out⟩
  case rest =>
    obtain ⟨rfl, hW, f1c, n1, B1, hn1, hd1, hgc, hB1⟩ := hcut
    have HB1 : Hid (∀ k, k ≤ w.heap.size → B1 k → B k) := hB1
    have HD1 : Hid (DS wc base d mb n1 x1 B1) := hd1
    have HS2 := HS.out wc hgc
    have HWc : Hid (WRow wc p d dir (cpName dir (some q)) v op) := hW
    have HGc : Hid (Kept w wc (fun k => k = p ∨ B k)) := hgc
    clear hW hgc hd1 hB1 f0 f1
    go_wp2_with fail
    refine HS2.mono ?_
    rintro e w2 ⟨b, rfl, q2, rfl⟩
    obtain ⟨wd, ewd⟩ : ∃ wd, wd = wc.drewN q2 := ⟨_, rfl⟩
    have hgd : wc.grownBy wd none := by rw [ewd]; exact gb_drewN wc q2
    rw [← ewd]
    have f1d : wd.cell? ⟨w.heap.size, 1, none⟩ = some (.slice a1 L k1) := by rw [ewd]; exact f1c
    have hgwd : Kept w wd (fun k => k = p ∨ B k) := HGc.out.trans (Kept.of hgd (X := fun _ => False) (fun k hk => by cases hk)) (fun k _ hX => hX.elim)
    have HWD : Hid (WRow wd p d dir (cpName dir (some q)) v op) := HWc.out.kept hgd (by simp)
    have HKW : Hid (Kept w wd (fun k => k = p ∨ B k)) := hgwd
    have HOD : Hid (SOwn intE 3 wd b1 (.slice a1 L k1) L (nI segs)) := sown_keptK HO1.out hgwd (fun k hk hX => by have := (HO1.out.block k hk).1; exact hX.elim (fun e => by omega) (HBB.out k (by omega)))
    have HDD : Hid (DS wd base d mb n1 x1 B1) := DV.kept HD1.out hgd
    have HTD : Hid (Tab wd) := HT.out.keptK hgwd (fun g hg hX => hX.elim (HFAR.out g hg).2 (HFAR.out g hg).1)
    have HPB : Hid (¬ B1 p) := fun hb => HBP.out (HB1.out p (Nat.le_of_lt HPW.out) hb)
    have HSB : Hid (¬ B1 w.heap.size) := fun hb => HBB.out _ hbw (HB1.out _ (Nat.le_refl _) hb)
    have HWZ : Hid (w.heap.size < wd.heap.size) := by
      rcases Nat.lt_or_ge w.heap.size wd.heap.size with h2 | h2
      · exact h2
      · exfalso
        unfold World.cell? at f1d
        simp only at f1d
        rw [Array.getElem?_eq_none h2] at f1d
        cases f1d
    clear ewd hgd hgwd
    go_wp2_with fail
    go_loopw [63] (fun t63 wr => ∃ (i n6 : Nat) (B6 : Nat → Prop), i ≤ L ∧ t63 = .int .i64 i ∧ n6 ≤ n1 ∧ DS wr base d mb n6 (delAll x1 ((segs.take i).map (segN dir))) B6 ∧ Kept wd wr B1 ∧ (∀ k, k < wd.heap.size → B6 k → B1 k)) (fun t63 _ => L - (intOf t63).toNat)
    case atStart => exact ⟨0, n1, B1, Nat.zero_le _, rfl, Nat.le_refl _, by simpa [delAll] using HDD.out, Kept.refl _ _, fun k _ hb => hb⟩
    case round =>
      obtain ⟨i, n6, B6, hi, rfl, hn6, hd6, hk6, hb6⟩ := hrel
      have HD6 : Hid (DS wr base d mb n6 (delAll x1 ((segs.take i).map (segN dir))) B6) := hd6
      have HK6 : Hid (Kept wd wr B1) := hk6
      have HB6 : Hid (∀ k, k < wd.heap.size → B6 k → B1 k) := hb6
      have hW6 : WRow wr p d dir (cpName dir (some q)) v op := HWD.out.of_block (hk6.block p HWD.out.lt HPB.out)
      have HW6 : Hid (WRow wr p d dir (cpName dir (some q)) v op) := hW6
      have hO6 := sown_keptK HOD.out hk6 (fun k hk hb => HBB.out k (Nat.le_trans hlb (HO1.out.block k hk).1) (HB1.out k (Nat.le_of_lt (HO1.out.block k hk).2) hb))
      have hT6 := HTD.out.keptK hk6 (fun g hg hb => (HFAR.out g hg).1 (HB1.out g (Nat.le_of_lt (HT.out.lt hg)) hb))
      have f16 : wr.cell? ⟨w.heap.size, 1, none⟩ = some (.slice a1 L k1) := by
        unfold World.cell? at f1d ⊢
        simp only at f1d ⊢
        rw [hk6.block w.heap.size HWZ.out HSB.out]
        exact f1d
      clear hd6 hk6 hb6
      by_cases hlt : i < L
      · have hii : (i : Int) < (L : Int) := by omega
        obtain ⟨k, hk⟩ : ∃ k, segs[i]? = some k := ⟨_, List.getElem?_eq_getElem (by rw [← EL.out]; exact hlt)⟩
        have hk8' := HS8.out k (List.mem_of_getElem? hk)
        have htk : (segs.take (i + 1)).map (segN dir) = (segs.take i).map (segN dir) ++ [segN dir k] := by rw [List.take_add_one, hk]; simp
        have HTK : Hid (delAll x1 ((segs.take (i + 1)).map (segN dir)) = ((delAll x1 ((segs.take i).map (segN dir))).delete (segN dir k)).2) := by show _ = _; rw [htk, delAll_snoc]
        have hdo : DelOk (delAll x1 ((segs.take i).map (segN dir))) ((segs.drop i).map (segN dir)) := by
          refine DelOk.app _ _ _ ?_
          rw [← List.map_append, List.take_append_drop]
          exact HDEL.out
        have hdrop : segs.drop i = k :: segs.drop (i + 1) := by
          have h1 : i < segs.length := by rw [← EL.out]; exact hlt
          rw [List.drop_eq_getElem_cons h1]
          congr 1
          rw [List.getElem?_eq_getElem h1] at hk
          exact Option.some.inj hk
        rw [hdrop] at hdo
        obtain ⟨d1, d2, d3, _⟩ := hdo
        obtain ⟨b7, off7, rfl, hcell⟩ := nI_cell hO6.rd (l := segs) (i := i) (k := k) hk
        have x0 := hW6.cells.1
        have HGD : Hid (wr.grownBy wr.drew none) := gb_drew (World.grownBy.refl _ _)
        have HSG : Hid (Calls Tryz.prog 105 #[.pointer (some ⟨p, 0, none⟩), .int .i64 (k : Int)] wr.drew fun e w' => e = .returned (.string (segN dir k)) ∧ wr.drew.grownBy w' none) := w_segment p d dir (cpName dir (some q)) _ _ k hk8' _ hds (hT6.grown HGD.out) (hW6.kept HGD.out (by simp))
        have HDL : Hid (∀ w1, wr.grownBy w1 none → Calls Tryz.prog 141 #[.pointer (some ⟨d, 0, none⟩), .string (segN dir k)] w1 fun e w' => e = .returned (.int .i64 0) ∧ ∃ n' B', n' ≤ n6 ∧ DS w' base d mb n' (delAll x1 ((segs.take (i + 1)).map (segN dir))) B' ∧ Step wr w' B6 B' ∧ w'.cell? ⟨p, 0, none⟩ = some (.pointer (some ⟨d, 0, none⟩))) := fun w1 hg => by
          rw [HTK.out]
          refine (x_deleteN base d mb n6 _ B6 (segN dir k) w1 (DV.kept HD6.out hg) d2 d3).mono ?_
          rintro e w' ⟨rfl, n', B', hn', hd', hst⟩
          have hst' : Step wr w' B6 B' := (Step.grown B6 hg).trans hst
          refine ⟨by rw [d1], n', B', hn', hd', hst', ?_⟩
          have hW' : WRow w' p d dir (cpName dir (some q)) v op := HW6.out.of_block (hst'.1.block p HW6.out.lt (fun hb => HPB.out (HB6.out p HWD.out.lt hb)))
          exact hW'.cells.1
        clear hW6 hO6 hT6 htk hdrop d1 d2 d3 hk8' hk HTK
        go_wp2_with fail
        go_region_held3 (fun W => W.cell? ⟨p, 0, none⟩ = some (.pointer (some ⟨d, 0, none⟩))) (go_keep) (first
          | (go_at_call 105; refine HSG.out.mono ?_; rintro e w1 ⟨rfl, hg1⟩; have HG1 : Hid (wr.grownBy w1 none) := HGD.out.trans hg1; have x0' : w1.cell? ⟨p, 0, none⟩ = some (.pointer (some ⟨d, 0, none⟩)) := HG1.out.cell x0 (by simp); clear hg1)
          | (go_at_call 141; refine (HDL.out _ HG1.out).mono ?_; rintro e w5 ⟨rfl, n5, B5, hn5, hd5, hs5, x05⟩; have HD5 : Hid (DS w5 base d mb n5 (delAll x1 ((segs.take (i + 1)).map (segN dir))) B5) := hd5; have HS5 : Hid (Step wr w5 B6 B5) := hs5; clear hd5 hs5)
          | (go_at_call 103; refine (HD0 _).mono ?_; rintro e w6 ⟨rfl, rfl⟩))
        go_wp2
        go_roundw
        case rel => exact ⟨i + 1, n5, B5, by omega, by go_num, by omega, HD5.out, HK6.out.trans HS5.out.1 (fun k hk hb => HB6.out k hk hb), fun k hk hb => HB6.out k hk (HS5.out.2 k (Nat.lt_of_lt_of_le hk HK6.out.size) hb)⟩
        case measure => simp [intOf]; omega
      · have hii : ¬ (i : Int) < (L : Int) := by omega
        have hiL : i = L := by omega
        obtain ⟨a', hsl1, ha'⟩ := tail75e wr a1 L k1 HLK.out HCM.out
        have y3 := hW6.cells.2.2.2.1
        have z3 := hW6.frozen 3
        have hg3 : wr.grownBy (wr.setCell ⟨p, 3, none⟩ (.slice a' 0 (k1 - L))) (some p) := gb_set rfl
        have hk3 : Kept wr (wr.setCell ⟨p, 3, none⟩ (.slice a' 0 (k1 - L))) (fun k => k = p) := Kept.of hg3 (fun k hk => by cases hk; rfl)
        have HFIN : Hid (∃ a'' n' B', WRow (wr.setCell ⟨p, 3, none⟩ (.slice a' 0 (k1 - L))) p d dir (cpName dir (some q)) (.slice a'' 0 (k1 - L)) op ∧ (a'' = a1 ∨ a'' = a1.map (·.add L)) ∧ n' ≤ n ∧ DS (wr.setCell ⟨p, 3, none⟩ (.slice a' 0 (k1 - L))) base d mb n' (delAll x1 (segs.map (segN dir))) B' ∧ Kept w (wr.setCell ⟨p, 3, none⟩ (.slice a' 0 (k1 - L))) (fun k => k = p ∨ B k) ∧ (∀ k, k < w.heap.size → B' k → B k)) := by
          have hd := HD6.out
          rw [hiL, List.take_of_length_le (by rw [← EL.out]; exact Nat.le_refl _)] at hd
          exact ⟨a', n6, B6, (hW6.set 3 (.slice a' 0 (k1 - L))).congr (five rfl rfl rfl rfl rfl), ha', by omega, hd.others hk3 (fun k hb e => HPB.out (e ▸ HB6.out k (e ▸ HWD.out.lt) hb)), (HKW.out.trans HK6.out (fun k hk hb => .inr (HB1.out k (Nat.le_of_lt hk) hb))).trans hk3 (fun k _ e => .inl e), fun k hk hb => HB1.out k (Nat.le_of_lt hk) (HB6.out k (Nat.lt_of_lt_of_le hk HKW.out.size) hb)⟩
        clear hW6 hO6 hT6 hg3 hk3 ha'
        go_wp2
        go_ret
        obtain ⟨a2, n2, B2, g1, g2, g3, g4, g5, g6⟩ := HFIN.out
        exact ⟨rfl, a2, g1, g2, n2, g3, B2, g4, g5, g6⟩
end Go.Proofs.YtgpgkpciajajcaaGreatDoor

/- Package wal: Open, where an old checkpoint and old segments stand beside the new one. -/
namespace Go.Proofs.YtgpgkpciajajcaaGreatDoor
open Go.RowKit Go.Maps Go.Sort
set_option linter.unusedVariables false
set_option maxRecDepth 20000

set_option maxHeartbeats 16000000 in
theorem w_mendTwo (base d mb n : Nat) (dir : ByteArray) (x : DSt) (B : Nat → Prop) (c0 : Nat) (q : Nat × List (List Int)) (segs : List Nat) (w W0 : World) (p : Nat) (hdir : dirB dir = true) (ht : Tab W0) (hMI : MendIn w W0 p d dir) (hd : DS W0 base d mb n x B) (hlp : ∀ k, B k → k < p) (hcalm : x.Calm) (hn : n < 1048576) (hlog : OldTwo x.V dir c0 q segs) (x1 : DSt) (hx1 : x.delete (cpN dir c0) = (0, x1)) (hdel : DelOk x1 (segs.map (segN dir))) (hcp2 : CpIs (delAll x1 (segs.map (segN dir))).V dir (cpN dir q.1) (some q)) (hon2 : (delAll x1 (segs.map (segN dir))).off = false) (hfar : ∀ g, Tryz.prog.globalNamed "internal/strconv.uint64pow10" = some g → ¬ B g ∧ g ≠ p) (hsz : q.2.length ≤ 4194304) (hln : segs.length ≤ 4194304) :
    Calls Tryz.prog 121 #[.pointer (some ⟨p, 0, none⟩)] W0 fun e w' => ∃ v : Sl, e = .returned (slV v) ∧ OldMend base d mb n (delAll x1 (segs.map (segN dir))) dir q B W0 p v w' ∧ ∀ k, p < k → k < W0.heap.size → w'.heap[k]? = W0.heap[k]? := by
  have h := hMI.row
  have hon := hcalm.on
  have hltB : ∀ k, B k → k < W0.heap.size := fun k hk => Nat.lt_trans (hlp k hk) h.lt
  have hBp : ¬ B p := fun hk => Nat.lt_irrefl _ (hlp p hk)
  have hds : dir.size ≤ 32 := by simp only [dirB, Bool.and_eq_true, decide_eq_true_eq] at hdir; exact hdir.2
  have hq8 : q.1 < 100000000 := hlog.cp.2.2.2
  have HLK : Hid (Calls Tryz.prog 149 #[.pointer (some ⟨p, 0, none⟩)] W0 (LookOut W0 [c0, q.1] segs false)) := w_look base p d mb n dir ⟨#[]⟩ (.slice none 0 0) 0 x B [c0, q.1] segs false W0 hdir h hd hon hlog.folder (by omega) hlog.pos
  have HW : Hid (WRow W0 p d dir ⟨#[]⟩ (.slice none 0 0) 0) := h
  have HD : Hid (DS W0 base d mb n x B) := hd
  have HT : Hid (Tab W0) := ht
  have HB : Hid (¬ B p) := hBp
  have HLTB : Hid (∀ k, B k → k < W0.heap.size) := hltB
  have HLP : Hid (∀ k, B k → k < p) := hlp
  have HDIR : Hid (dirB dir = true) := hdir
  have HLOG : Hid (OldTwo x.V dir c0 q segs) := hlog
  have HCALM : Hid x.Calm := hcalm
  have HX1 : Hid (x.delete (cpN dir c0) = (0, x1)) := hx1
  have HC8 : Hid (c0 < 100000000) := hlog.folder.cpr.2 c0 (by simp)
  have HDEL : Hid (DelOk x1 (segs.map (segN dir))) := hdel
  have HCP2 : Hid (CpIs (delAll x1 (segs.map (segN dir))).V dir (cpN dir q.1) (some q)) := hcp2
  have HFAR : Hid (∀ g, Tryz.prog.globalNamed "internal/strconv.uint64pow10" = some g → ¬ B g ∧ g ≠ p) := hfar
  clear h hd ht hBp hdir hlog hltB hlp hcalm hdel hcp2 hfar hMI hx1
  go_enter Tryz.func121, Tryz.ntmps121
  go_wp2_with fail
  refine HLK.out.mono ?_
  rintro e w1 ⟨a0, k0, a1, k1, b1, rfl, ho0, ho1, hb0, hb1, hg1, hnil⟩
  have hga : w1.grownBy (w1.alloc (.cells #[.slice a0 2 k0, .slice a1 segs.length k1, .bool false] 169)) none := World.grownBy_alloc w1 _ none
  have hgw := hg1.trans hga
  have HGW : Hid (W0.grownBy (w1.alloc (.cells #[.slice a0 2 k0, .slice a1 segs.length k1, .bool false] 169)) none) := hgw
  have hpb : p < b1 := Nat.lt_of_lt_of_le HW.out.lt hb1
  have hs1 : SOwn intE 3 (w1.alloc (.cells #[.slice a0 2 k0, .slice a1 segs.length k1, .bool false] 169)) b1 (.slice a1 segs.length k1) segs.length (nI segs) := SOwn.kept ho1 hga (by cases a1 <;> simp [Value.ownBlock])
  have hs0 : SOwn intE 3 (w1.alloc (.cells #[.slice a0 2 k0, .slice a1 segs.length k1, .bool false] 169)) W0.heap.size (.slice a0 2 k0) 2 (nI [c0, q.1]) := SOwn.kept ho0 hga (by cases a0 <;> simp [Value.ownBlock])
  obtain ⟨wA, ewA⟩ : ∃ wA, wA = w1.alloc (.cells #[.slice a0 2 k0, .slice a1 segs.length k1, .bool false] 169) := ⟨_, rfl⟩
  have HEA : Hid (wA = w1.alloc (.cells #[.slice a0 2 k0, .slice a1 segs.length k1, .bool false] 169)) := ewA
  have hza : wA.heap.size = w1.heap.size + 1 := by rw [ewA]; exact Array.size_push _
  rw [← ewA] at hga hgw hs1 hs0 HGW
  have hdo := w_dropTwo base p d mb n dir (.slice none 0 0) 0 x B c0 q segs a0 a1 k0 k1 W0.heap.size b1 false wA HDIR.out (by omega) (HT.out.grown hgw) HC8.out hq8 (HW.out.kept hgw (by simp)) hs0 hs1 HLOG.out.folder.segr.1 HLOG.out.le hln hnil hpb HW.out.lt (DV.kept HD.out hgw) HCALM.out.ok (by rw [HX1.out]) (by rw [HX1.out]; exact HDEL.out) HB.out W0.heap.size (fun k hk hb => by have := HLTB.out k hb; omega) hb1 hgw.size HFAR.out
  rw [HX1.out] at hdo
  have HO1 : Hid (SOwn intE 3 wA b1 (.slice a1 segs.length k1) segs.length (nI segs)) := hs1
  have HWW : Hid (WRow wA p d dir ⟨#[]⟩ (.slice none 0 0) 0) := HW.out.kept hgw (by simp)
  clear ho0 ho1 hb0 hg1 hnil HLK hga hgw hs1 hs0 ewA
  unfold FolderV at hdo ⊢
  go_wp2_with fail
  rw [← HEA.out]
  refine hdo.mono ?_
  rintro e w3 ⟨rfl, a', n3, B3, hW3, ha', hn3, hd3, hk3, hb3⟩
  have hnB : ∀ k, W0.heap.size ≤ k → ¬ B k := fun k hk hb => by have := HLTB.out k hb; omega
  have hnX : ∀ k, b1 ≤ k → ¬ (k = p ∨ B k) := fun k hk hX => hX.elim (fun e => by omega) (hnB k (Nat.le_trans hb1 hk))
  obtain ⟨t1, t2, t3⟩ := tail_facts (sown_keptK HO1.out hk3 (fun k hk => hnX k (HO1.out.block k hk).1)) ha'
  have hT3 : Tab w3 := (HT.out.grown HGW.out).keptK hk3 (fun g hg hX => hX.elim (HFAR.out g hg).2 (HFAR.out g hg).1)
  have HRA : Hid (Calls Tryz.prog 152 #[.pointer (some ⟨p, 0, none⟩)] w3 (AllOut w3 (cpRecs (some q) ++ recsOf []))) := w_replayAll base p d mb n3 dir (cpName dir (some q)) a' (k1 - segs.length) 0 (delAll x1 (segs.map (segN dir))) B3 (some q) [] w3 HDIR.out hT3 hW3 (.inl rfl) hd3 hon2 HCP2.out (fun q hq => by cases hq) (by show (q.2 ++ ([] : List (List Int))).length ≤ _; rw [List.append_nil]; exact hsz) (by decide)
  have HW3 : Hid (WRow w3 p d dir (cpName dir (some q)) (.slice a' 0 (k1 - segs.length)) 0) := hW3
  have hd3 := DS.bound hd3
  have hb3 : ∀ k, k < wA.heap.size → (B3 k ∧ k < w3.heap.size) → B k := fun k hk hb => hb3 k hk hb.1
  obtain ⟨B4, eB4⟩ : ∃ B4 : Nat → Prop, B4 = fun k => B3 k ∧ k < w3.heap.size := ⟨_, rfl⟩
  have HLT4 : Hid (∀ k, B4 k → k < w3.heap.size) := by show ∀ k, _; rw [eB4]; exact fun k hk => hk.2
  rw [← eB4] at hd3
  have hb3 : ∀ k, k < wA.heap.size → B4 k → B k := by rw [eB4]; exact hb3
  clear eB4
  have HD3 : Hid (DS w3 base d mb n3 (delAll x1 (segs.map (segN dir))) B4) := hd3
  have HK3 : Hid (Kept W0 w3 (fun k => k = p ∨ B k)) := (Kept.of HGW.out (X := fun k => k = p ∨ B k) (fun k hk => by cases hk)).trans hk3 (fun k _ hX => hX)
  have HB4 : Hid (∀ k, k < W0.heap.size → B4 k → B k) := fun k hk hb => hb3 k (Nat.lt_of_lt_of_le hk HGW.out.size) hb
  have HT1 : Hid (∀ y, a' = some y → b1 ≤ y.block ∧ y.block < w3.heap.size ∧ y.spot = none ∧ ∃ cur, w3.heap[y.block]? = some (.cells cur 3 (0, 0)) ∧ y.off + (k1 - segs.length) ≤ cur.size) := t1
  have HTB : Hid (∀ y, a' = some y → ¬ B4 y.block) := fun y hy hb => by
    obtain ⟨u1, u2, _⟩ := (tail_facts HO1.out ha').1 y hy
    exact hnB y.block (Nat.le_trans hb1 u1) (hb3 y.block u2 hb)
  have HT2 : Hid (a' = none → k1 - segs.length = 0) := t2
  obtain ⟨C, eC⟩ : ∃ C, C = k1 - segs.length := ⟨_, rfl⟩
  rw [← eC] at HW3 HT1 HT2 t3
  clear hdo hW3 hd3 hk3 hb3 t1 t2 hT3 hnX hnB ha' HO1 HWW eC
  go_wp2_with fail
  refine HRA.out.mono ?_
  rintro e w4 ⟨rv, rfl, hA4⟩
  obtain ⟨m, hro⟩ := hA4.out
  have hg4 := hA4.grown
  have hW4 := HW3.out.kept hg4 (by simp)
  have y4 := hW4.cells.2.2.2.2
  have z4 := hW4.frozen 4
  have y3 := hW4.cells.2.2.2.1
  have q5 : -9223372036854775808 ≤ (q.1 : Int) + 1 ∧ (q.1 : Int) + 1 ≤ 9223372036854775807 := by omega
  have hg5 : w4.grownBy (w4.setCell ⟨p, 4, none⟩ (.int .i64 ((q.1 : Int) + 1))) (some p) := gb_set rfl
  have hk5 : Kept w4 (w4.setCell ⟨p, 4, none⟩ (.int .i64 ((q.1 : Int) + 1))) (fun k => k = p) := Kept.of hg5 (fun k hk => by cases hk; rfl)
  have hW5 : WRow (w4.setCell ⟨p, 4, none⟩ (.int .i64 ((q.1 : Int) + 1))) p d dir (cpN dir q.1) (.slice a' 0 C) ((q.1 + 1 : Nat) : Int) := (hW4.set 4 (.int .i64 ((q.1 : Int) + 1))).congr (five rfl rfl rfl rfl rfl)
  have y5 := hW5.cells.2.2.2.1
  have hp3 : p < w3.heap.size := HW3.out.lt
  have HFIN : Hid (OldMend base d mb n (delAll x1 (segs.map (segN dir))) dir q B W0 p rv (w4.setCell ⟨p, 4, none⟩ (.int .i64 ((q.1 : Int) + 1))) ∧ ∀ j, p < j → j < W0.heap.size → (w4.setCell ⟨p, 4, none⟩ (.int .i64 ((q.1 : Int) + 1))).heap[j]? = W0.heap[j]?) := by
    have hk35 : Kept w3 (w4.setCell ⟨p, 4, none⟩ (.int .i64 ((q.1 : Int) + 1))) (fun k => k = p) := (Kept.of hg4 (X := fun k => k = p) (fun k hk => by cases hk)).trans hk5 (fun k _ e => e)
    have hd4 : DS w4 base d mb n3 (delAll x1 (segs.map (segN dir))) B4 := DV.kept HD3.out hg4
    have hk05 := HK3.out.trans hk35 (fun k _ e => .inl e)
    have hro' : RecsOut w3 w4 (slV rv) m q.2 := by
      have e : cpRecs (some q) ++ recsOf [] = q.2 := List.append_nil _
      rw [e] at hro
      exact hro
    obtain ⟨ts, r1, r2, r3, r4⟩ := hro'.keptK hk5 (fun j hj e => by omega)
    refine ⟨⟨m, n3, B4, w3.heap.size, a', C, ⟨ts, r1, r2, r3, r4⟩, hn3, hd4.others hk5 (fun k hb e => HB.out (HB4.out k (by rw [e]; exact HW.out.lt) hb |> fun h => e ▸ h)), hW5, fun y hy => ?_, HT2.out, t3, hk05, HB4.out, HK3.out.size, HLT4.out⟩, fun j h1 h2 => hk05.block j h2 (fun hX => hX.elim (fun e => by omega) (fun hb => by have := HLP.out j hb; omega))⟩
    obtain ⟨u1, u2, u3, cur, u4, u5⟩ := HT1.out y hy
    exact ⟨Nat.le_trans hb1 u1, u2, HTB.out y hy, u3, cur, by rw [hk35.block y.block u2 (fun e => by omega)]; exact u4, u5⟩
  have e0 : (lastN (some q) : Int) = (q.1 : Int) := rfl
  rw [e0]
  clear hro hA4 hg4 hW4 hg5 hk5 hW5 HRA
  go_wp2
  go_ret
  exact ⟨rv, rfl, HFIN.out.1, HFIN.out.2⟩
/-- What Open leaves: the disk, on; and what it tells. -/
def Opened (W w : World) (d mb : Nat) (B : Nat → Prop) (recs : List (List Int)) (e : Ending) (w' : World) : Prop := ∃ (p : Nat) (v : Sl) (m lo n' : Nat) (x' : DSt) (B' : Nat → Prop), e = .returned (.tuple #[.pointer (some ⟨p, 0, none⟩), slV v, .int .i64 0]) ∧ DS w' W.heap.size d mb n' x' B' ∧ x'.off = false ∧ RecsLo lo w' (slV v) m recs ∧ Kept w w' B ∧ (∀ k, k < w.heap.size → B' k → B k) ∧ w.heap.size ≤ lo
theorem two_del {x : DSt} {dir : ByteArray} {c0 : Nat} {q : Nat × List (List Int)} {segs : List Nat} (h : OldTwo x.V dir c0 q segs) (hc : x.Calm) (hw : x.wn ≤ 999999980) : ∃ x1, x.delete (cpN dir c0) = (0, x1) ∧ x1.Calm ∧ x1.wn = x.wn + 1 ∧ OldLog x1.V dir q segs := by
  have hm := h.folder.mem
  have hs0 : (x.V (cpN dir c0)).isSome = true := ((hm _).2 (by unfold namesL; simp)).1
  obtain ⟨v, hv⟩ := Option.isSome_iff_exists.1 hs0
  have hlt : c0 < q.1 := by
    have := h.folder.cpr.1
    simpa using this
  have h8 := h.folder.cpr.2
  have hne : cpN dir q.1 ≠ cpN dir c0 := fun e => by
    have := cp_inj dir (h8 q.1 (by simp)) (h8 c0 (by simp)) e
    omega
  refine ⟨_, calm_del x hc _ v hv, calm_next x hc (by omega) _, rfl, ?_⟩
  obtain ⟨_, ⟨syn, h2⟩, h3, h4⟩ := h.cp
  refine ⟨⟨⟨by simp, fun k hk => h8 k (by simp at hk ⊢; exact .inr hk)⟩, h.folder.segr, fun s => ?_⟩, ⟨rfl, ⟨syn, by show setV _ _ _ _ = _; rw [setV_other _ _ hne]; exact h2⟩, h3, h4⟩, h.pos, h.le⟩
  have hms := hm s
  have e1 : s ∈ namesL dir [c0, q.1] false segs ↔ s = cpN dir c0 ∨ s = cpN dir q.1 ∨ s ∈ segs.map (segN dir) := by simp [namesL]
  have e2 : s ∈ namesL dir [q.1] false segs ↔ s = cpN dir q.1 ∨ s ∈ segs.map (segN dir) := by simp [namesL]
  rw [e1] at hms
  rw [e2]
  show (setV x.V (cpN dir c0) none s).isSome = true ∧ _ ↔ _
  by_cases es : s = cpN dir c0
  · subst es
    rw [setV_same]
    constructor
    · rintro ⟨h5, _⟩
      cases h5
    · rintro (h5 | h5)
      · exact absurd h5.symm hne
      · obtain ⟨k, _, e⟩ := List.mem_map.1 h5
        exact absurd e.symm (cp_ne_seg dir _ _)
  · rw [setV_other _ _ es, hms]
    constructor
    · rintro (h5 | h5)
      · exact absurd h5 es
      · exact h5
    · exact .inr
theorem old_opened {W w W4 w5 : World} {d mb n : Nat} {x' : DSt} {dir : ByteArray} {q : Nat × List (List Int)} {B : Nat → Prop} {p : Nat} {v : Sl} (hMI : MendIn w W4 p d dir) (hT : OldMend W.heap.size d mb n x' dir q B W4 p v w5) (hc : x'.off = false) (hltB : ∀ k, B k → k < w.heap.size) : Opened W w d mb B q.2 (.returned (.tuple #[.pointer (some ⟨p, 0, none⟩), slV v, .int .i64 0])) (openW w5 p v) := by
  obtain ⟨m, n', B', lo, a', c', h1, h2, hD, hW, hy, hnone, hcm, h4, h6, h7, h8⟩ := hT
  have hk := openW_kept w5 p v
  have hs := hMI.size
  have hnew := hMI.new_
  have hBp : ∀ k, B' k → ¬ (k = p + 2 ∨ k = p + 3) := fun k hb hX => by
    have := hltB k (h6 k (by omega) hb)
    omega
  obtain ⟨ts, r1, r2, r3, r4⟩ := h1
  have g4 := hMI.grown
  have hkw : Kept w (openW w5 p v) B := by
    refine ⟨hk.os.trans (h4.os.trans g4.os), hk.tape.trans (h4.tape.trans g4.tape), hk.output.trans (h4.output.trans g4.output), Nat.le_trans g4.size (Nat.le_trans h4.size hk.size), fun k hkl hX => ?_⟩
    have hkp : k < p := Nat.lt_of_lt_of_le hkl hMI.new_
    rw [hk.block k (by have := h4.size; omega) (by omega), h4.block k (by omega) (fun hY => hY.elim (fun e => by omega) (fun hb => hX hb))]
    exact g4.block k hkl (by simp)
  exact ⟨p, v, m, lo, n', x', B', rfl, hD.others hk hBp, hc, ⟨ts, sown_keptK r1 hk (fun k hkb hX => by have := (r1.block k hkb).1; omega), r2.keptK hk (fun k hkl _ hX => by omega), r3, r4⟩, hkw, fun k hkl hb => h6 k (Nat.lt_of_lt_of_le hkl g4.size) hb, Nat.le_trans g4.size h7⟩
theorem o_old {W w : World} {d mb n : Nat} {x : DSt} {dir : ByteArray} {q : Nat × List (List Int)} {segs : List Nat} {B : Nat → Prop} (hd : DS w W.heap.size d mb n x B) (hL : OldLog x.V dir q segs) (hc : x.Calm) (hfrom : W.grownBy w none) (hlow : ∀ k, B k → W.heap.size ≤ k) (hltB : ∀ k, B k → k < w.heap.size) (ht : Tab W) (hdir : dirB dir = true) (hw : x.wn + segs.length ≤ 999999980) (hn : n < 1048576) (hsz : q.2.length ≤ 4194304) (hln : segs.length ≤ 4194304) :
    Calls Tryz.prog 80 #[.pointer (some ⟨d, 0, none⟩), .string dir] w (Opened W w d mb B q.2) := by
  obtain ⟨t0, t1, t2, t3⟩ := old_del hL hdir hc hw
  refine (w_openG d dir w hdir (fun W4 p v w5 => OldMend W.heap.size d mb n (delAll x (segs.map (segN dir))) dir q B W4 p v w5) (fun W4 p hMI => ?_)).mono ?_
  · have hlp : ∀ k, B k → k < p := fun k hk => Nat.lt_of_lt_of_le (hltB k hk) hMI.new_
    exact w_mendB W.heap.size d mb n dir x B q segs w W4 p hdir (ht.grown (hfrom.trans hMI.grown)) hMI (DV.kept hd hMI.grown) hlp hc hn hL t0 t3.cp t1.on (fun g hg => ⟨fun hb => by have h1 := hlow g hb; have h2 := ht.lt hg; omega, fun e => by have h2 := ht.lt hg; have h3 := hMI.new_; have h4 := hfrom.size; omega⟩) hsz hln
  · rintro e w' ⟨W4, p, v, w5, hMI, hT, rfl, rfl⟩
    exact old_opened hMI hT t1.on hltB
theorem o_two {W w : World} {d mb n : Nat} {x : DSt} {dir : ByteArray} {c0 : Nat} {q : Nat × List (List Int)} {segs : List Nat} {B : Nat → Prop} (hd : DS w W.heap.size d mb n x B) (hL : OldTwo x.V dir c0 q segs) (hc : x.Calm) (hfrom : W.grownBy w none) (hlow : ∀ k, B k → W.heap.size ≤ k) (hltB : ∀ k, B k → k < w.heap.size) (ht : Tab W) (hdir : dirB dir = true) (hw : x.wn + segs.length ≤ 999999970) (hn : n < 1048576) (hsz : q.2.length ≤ 4194304) (hln : segs.length ≤ 4194304) :
    Calls Tryz.prog 80 #[.pointer (some ⟨d, 0, none⟩), .string dir] w (Opened W w d mb B q.2) := by
  obtain ⟨x1, e1, hc1, hw1, hL1⟩ := two_del hL hc (by omega)
  obtain ⟨t0, t1, t2, t3⟩ := old_del hL1 hdir hc1 (by omega)
  refine (w_openG d dir w hdir (fun W4 p v w5 => OldMend W.heap.size d mb n (delAll x1 (segs.map (segN dir))) dir q B W4 p v w5) (fun W4 p hMI => ?_)).mono ?_
  · have hlp : ∀ k, B k → k < p := fun k hk => Nat.lt_of_lt_of_le (hltB k hk) hMI.new_
    exact w_mendTwo W.heap.size d mb n dir x B c0 q segs w W4 p hdir (ht.grown (hfrom.trans hMI.grown)) hMI (DV.kept hd hMI.grown) hlp hc hn hL x1 e1 t0 t3.cp t1.on (fun g hg => ⟨fun hb => by have h1 := hlow g hb; have h2 := ht.lt hg; omega, fun e => by have h2 := ht.lt hg; have h3 := hMI.new_; have h4 := hfrom.size; omega⟩) hsz hln
  · rintro e w' ⟨W4, p, v, w5, hMI, hT, rfl, rfl⟩
    exact old_opened hMI hT t1.on hltB
end Go.Proofs.YtgpgkpciajajcaaGreatDoor

