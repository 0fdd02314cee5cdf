/- Several texts in one: Wa, Wo. -/
import Derived.Test.YtekejnjaiccnbaaGreatDoorMr
import Derived.Deep.CutRange
/- Package wal: replayAll, of files that are whole. -/
namespace Go.Proofs.YtekejnjaiccnbaaGreatDoor
open Go.RowKit Go.Maps Go.Sort
set_option linter.unusedVariables false
set_option maxRecDepth 20000

/-- The segments' files are whole: number and records of each. -/
def Whole (V : Cont) (dir : ByteArray) (L : List (Nat × List (List Int))) : Prop := ∀ q ∈ L, (∃ syn, V (segN dir q.1) = some (logB frameR q.2, syn)) ∧ (∀ r ∈ q.2, r.length ≤ 65536) ∧ q.1 < 100000000
def recsOf (L : List (Nat × List (List Int))) : List (List Int) := L.flatMap Prod.snd
/-- The checkpoint: none, or one that is whole. -/
def CpIs (V : Cont) (dir cp : ByteArray) : Option (Nat × List (List Int)) → Prop
  | none => cp = ⟨#[]⟩
  | some q => cp = cpN dir q.1 ∧ (∃ syn, V (cpN dir q.1) = some (logB frameR q.2, syn)) ∧ (∀ r ∈ q.2, r.length ≤ 65536) ∧ q.1 < 100000000
def cpRecs : Option (Nat × List (List Int)) → List (List Int)
  | none => []
  | some q => q.2
theorem recsOf_take (L : List (Nat × List (List Int))) (i : Nat) (q : Nat × List (List Int)) (h : L[i]? = some q) : recsOf (L.take (i + 1)) = recsOf (L.take i) ++ q.2 := by
  unfold recsOf
  rw [List.take_add_one, h, List.flatMap_append]
  simp
/-- What replayAll has gathered. -/
structure AllAt (w0 w : World) (v : Sl) (recs : List (List Int)) : Prop where
  out : ∃ n, RecsOut w0 w (slV v) n recs
  grown : w0.grownBy w none
def AllOut (w : World) (recs : List (List Int)) (e : Ending) (w' : World) : Prop := ∃ v : Sl, e = .returned (slV v) ∧ AllAt w w' v recs
set_option maxHeartbeats 8000000 in
theorem w_replayAll (base p d mb n : Nat) (dir cp : ByteArray) (a : Option Addr) (c : Nat) (op : Int) (x : DSt) (B : Nat → Prop) (K : Option (Nat × List (List Int))) (Ls : List (Nat × List (List Int))) (w : World) (hdir : dirB dir = true) (ht : Tab w) (h : WRow w p d dir cp (.slice a Ls.length c) op) (hr : SRd intE w a (nI (Ls.map Prod.fst))) (hd : DS w base d mb n x B) (hon : x.off = false) (hK : CpIs x.V dir cp K) (hW : Whole x.V dir Ls) (hsz : (cpRecs K ++ recsOf Ls).length ≤ 4194304) (hln : Ls.length ≤ 4194304) :
    Calls Tryz.prog 94 #[.pointer (some ⟨p, 0, none⟩)] w (AllOut w (cpRecs K ++ recsOf Ls)) := by
  have hds : dir.size ≤ 32 := by simp only [dirB, Bool.and_eq_true, decide_eq_true_eq] at hdir; exact hdir.2
  obtain ⟨c0, c1, c2, c3, c4⟩ := h.cells
  have HT : Hid (Tab w) := ht
  have HW : Hid (WRow w p d dir cp (.slice a Ls.length c) op) := h
  have HR : Hid (SRd intE w a (nI (Ls.map Prod.fst))) := hr
  have HD : Hid (DS w base d mb n x B) := hd
  have HWH : Hid (Whole x.V dir Ls) := hW
  have HDIR : Hid (dirB dir = true) := hdir
  have HSZ : Hid ((cpRecs K ++ recsOf Ls).length ≤ 4194304) := hsz
  have HCP : Hid (CpIs x.V dir cp K) := hK
  obtain ⟨NL, eNL⟩ : ∃ NL, NL = Ls.length := ⟨_, rfl⟩
  have ENL : Hid (NL = Ls.length) := eNL
  rw [← eNL] at c3 hln
  clear hK h hr hd hW hdir ht hsz eNL c0 c1 c4
  go_enter Tryz.func94, Tryz.ntmps94
  go_upto_if 16 with fail
  go_cut [3] from 12 (fun t3 wc => ∃ v1 : Sl, t3 = .slice v1.1 v1.2.1 v1.2.2 ∧ AllAt w wc v1 (cpRecs K))
  case first =>
    cases K with
    | none =>
      have hcp : cp = ⟨#[]⟩ := HCP.out
      subst hcp
      have q0 : (ByteArray.toList ⟨#[]⟩).isEmpty = true := by rw [str_none]; rfl
      rw [q0, Bool.not_true]
      go_wp2_with fail
      go_meet
      exact ⟨(none, 0, 0), rfl, ⟨0, [], SOwn.nil 27 _ _, trivial, rfl, fun _ => rfl⟩, World.grownBy.refl _ _⟩
    | some q =>
      obtain ⟨hcp, ⟨syn, hV⟩, hlen, hq8⟩ := HCP.out
      subst hcp
      have q0 : (cpN dir q.1).toList.isEmpty = false := by
        rw [str_none]
        simp only [decide_eq_false_iff_not]
        intro e
        have := congrArg ByteArray.size e
        rw [cpN, bN_size] at this
        simp [d8_len] at this
        have h2 : ByteArray.size ⟨#[]⟩ = 0 := rfl
        omega
      have HRF : Hid (Calls Tryz.prog 122 #[.pointer (some ⟨p, 0, none⟩), .string (cpN dir q.1)] w fun e w' => ∃ v a c N, e = .returned (.tuple #[slV v, .slice a (logB frameR q.2).length c, .bool (decide (([] : List Int) ≠ []))]) ∧ RecsOut w w' (slV v) N q.2 ∧ Out w w' a (logB frameR q.2).length c (logB frameR q.2) ∧ w.grownBy w' none) := w_replayFile base p d mb n dir (cpN dir q.1) _ op x B (cpN dir q.1) _ syn q.2 [] w HW.out HD.out hon (cp_name HDIR.out q.1) hV (FileRecs.whole q.2 hlen)
      rw [show decide (([] : List Int) ≠ []) = false from rfl] at HRF
      rw [q0, Bool.not_false]
      go_wp2_with fail
      refine HRF.out.mono ?_
      rintro e w1 ⟨v1, a1, k1, N1, rfl, hro, _, hg1⟩
      have HRO : Hid (RecsOut w w1 (slV v1) N1 q.2) := hro
      have HG1 : Hid (w.grownBy w1 none) := hg1
      clear hro hg1 HRF
      unfold slV
      go_wp2_with fail
      go_meet
      exact ⟨v1, rfl, ⟨N1, HRO.out⟩, HG1.out⟩
  case rest =>
    obtain ⟨v1, rfl, hA⟩ := hcut
    have HA : Hid (AllAt w wc v1 (cpRecs K)) := hA
    have c3' := (HW.out.kept hA.grown (by simp)).cells.2.2.2.1
    rw [← ENL.out] at c3'
    clear hA c3
    go_wp2_with fail
    go_loopw [3, 47] (fun t3 t47 wr => ∃ (i : Nat) (v : Sl), i ≤ NL ∧ t47 = .int .i64 i ∧ t3 = .slice v.1 v.2.1 v.2.2 ∧ AllAt w wr v (cpRecs K ++ recsOf (Ls.take i))) (fun _ t47 _ => NL - (intOf t47).toNat)
    case atStart => exact ⟨0, v1, Nat.zero_le _, rfl, rfl, by simpa [recsOf] using HA.out⟩
    case round =>
      obtain ⟨i, v, hi, rfl, rfl, hA2⟩ := hrel
      have HA2 : Hid (AllAt w wr v (cpRecs K ++ recsOf (Ls.take i))) := hA2
      have hg := hA2.grown
      have HG : Hid (w.grownBy wr none) := hg
      have HWr : Hid (WRow wr p d dir cp (.slice a Ls.length c) op) := HW.out.kept hg (by simp)
      have HTr : Hid (Tab wr) := HT.out.grown hg
      have HDr : Hid (DS wr base d mb n x B) := DV.kept HD.out hg
      have HRr : Hid (SRd intE wr a (nI (Ls.map Prod.fst))) := HR.out.grown hg (by simp)
      clear hA2 hg HA
      obtain ⟨va, vn, vc⟩ := v
      by_cases hlt : i < NL
      · have hii : (i : Int) < (NL : Int) := by omega
        obtain ⟨q, hq⟩ : ∃ q, Ls[i]? = some q := ⟨_, List.getElem?_eq_getElem (by rw [← ENL.out]; exact hlt)⟩
        obtain ⟨⟨syn, hV⟩, hlen, hq8⟩ := HWH.out q (List.mem_of_getElem? hq)
        obtain ⟨b, off, rfl, hcell⟩ := nI_cell HRr.out (l := Ls.map Prod.fst) (i := i) (k := q.1) (by rw [List.getElem?_map, hq]; rfl)
        have HTK := recsOf_take Ls i q hq
        have HSG : Hid (Calls Tryz.prog 54 #[.pointer (some ⟨p, 0, none⟩), .int .i64 (q.1 : Int)] wr fun e w' => e = .returned (.string (segN dir q.1)) ∧ wr.grownBy w' none) := w_segment p d dir cp _ op q.1 hq8 wr (by omega) HTr.out HWr.out
        clear hq
        dsimp only
        go_wp2_with fail
        refine HSG.out.mono ?_
        rintro e w2 ⟨rfl, hg2⟩
        have HG2 : Hid (wr.grownBy w2 none) := hg2
        have HRF : Hid (Calls Tryz.prog 122 #[.pointer (some ⟨p, 0, none⟩), .string (segN dir q.1)] w2 fun e w' => ∃ v a c N, e = .returned (.tuple #[slV v, .slice a (logB frameR q.2).length c, .bool (decide (([] : List Int) ≠ []))]) ∧ RecsOut w2 w' (slV v) N q.2 ∧ Out w2 w' a (logB frameR q.2).length c (logB frameR q.2) ∧ w2.grownBy w' none) := w_replayFile base p d mb n dir cp _ op x B (segN dir q.1) _ syn q.2 [] w2 (HWr.out.kept hg2 (by simp)) (DV.kept HDr.out hg2) hon (seg_name HDIR.out q.1) hV (FileRecs.whole q.2 hlen)
        rw [show decide (([] : List Int) ≠ []) = false from rfl] at HRF
        clear hg2 HSG
        go_wp2_with fail
        refine HRF.out.mono ?_
        rintro e w3 ⟨v3, a3, k3, N3, rfl, hro, _, hg3⟩
        obtain ⟨ts3, ho3, hr3, hn3, hz3⟩ := hro
        obtain ⟨n1, ts1, ho1, hr1, hn1, hz1⟩ := HA2.out.out
        obtain ⟨v3a, v3n, v3c⟩ := v3
        unfold slV at ho3 hr3 hz3 ho1 hr1 hz1 ⊢
        dsimp only at ho3 hr3 hz3 ho1 hr1 hz1 ⊢
        obtain ⟨_, _, e3⟩ := sownSl ho3
        obtain ⟨_, _, e1⟩ := sownSl ho1
        obtain rfl : v3n = N3 := by injection e3
        obtain rfl : vn = n1 := by injection e1
        have HG23 : Hid (wr.grownBy w3 none) := HG2.out.trans hg3
        have HO1 : Hid (SOwn slE 27 w3 w.heap.size (.slice va vn vc) vn ts1) := SOwn.kept ho1 HG23.out (by cases va <;> simp [Value.ownBlock])
        have HB1 : Hid (∀ k, Value.ownBlock (.slice va vn vc) = some k → k < wr.heap.size) := fun k hk => (ho1.block k hk).2
        have HO3 : Hid (SOwn slE 27 w3 w2.heap.size (.slice v3a v3n v3c) v3n ts3) := ho3
        have HR1 : Hid (RecsAt wr w.heap.size (Value.ownBlock (.slice va vn vc)) ts1 (cpRecs K ++ recsOf (Ls.take i))) := hr1
        have HR3 : Hid (RecsAt w3 w2.heap.size (Value.ownBlock (.slice v3a v3n v3c)) ts3 q.2) := hr3
        have HL3 : Hid (ts3.length = v3n) := ho3.len
        have HN3 : Hid (v3n = q.2.length ∧ vn = (cpRecs K ++ recsOf (Ls.take i)).length) := ⟨hn3, hn1⟩
        have HZ3 : Hid (v3n = 0 → v3a = none ∧ v3c = 0) := fun h => by
          have h1 : q.2 = [] := List.eq_nil_of_length_eq_zero (by rw [← hn3]; exact h)
          have h2 := hz3 h1
          injection h2 with h3 h4 h5
          exact ⟨h3, h5⟩
        have HZ1 : Hid ((cpRecs K ++ recsOf (Ls.take i)) = [] → va = none ∧ vc = 0) := fun h => by
          have h2 := hz1 h
          injection h2 with h3 h4 h5
          exact ⟨h3, h5⟩
        have hsum : vn + v3n ≤ 4194304 := by
          have h1 := HSZ.out
          have h2 : (cpRecs K ++ recsOf (Ls.take (i + 1))).length ≤ (cpRecs K ++ recsOf Ls).length := by
            conv => rhs; rw [← List.take_append_drop (i + 1) Ls]
            unfold recsOf
            rw [List.flatMap_append]
            simp
          rw [HTK] at h2
          rw [hn3, hn1]
          simp at h1 h2 ⊢
          omega
        have hwsz : w.heap.size ≤ w3.heap.size := Nat.le_trans HG.out.size HG23.out.size
        clear ho3 hr3 hz3 ho1 hr1 hz1 hg3 hn3 hn1 e1 e3 HRF
        go_wp2_with (at_builtin; refine wpList_append_u slET rfl (.tmp 61) (.tmp 62) rfl w.heap.size va vc vn ts1 rfl HO1.out v3a ts3 v3n v3c rfl HL3.out HO3.out.rd HZ3.out (by omega) (by unfold maxLen; omega) hwsz ?_; intro va' vc' w4 ho4 hg4 hk4 hz4; have HO4 : Hid (SOwn slE 27 w4 w.heap.size (.slice va' (vn + v3n) vc') (vn + v3n) (ts1 ++ ts3)) := ho4; have HG4 : Hid (w3.grownBy w4 (Value.ownBlock (.slice va vn vc))) := hg4; have HK4 : Hid (∀ k, Value.ownBlock (.slice va' (vn + v3n) vc') = some k → w3.heap.size ≤ k ∨ Value.ownBlock (.slice va vn vc) = some k) := hk4; have HZ4 : Hid (v3n = 0 → va' = va ∧ vc' = vc) := hz4; clear ho4 hg4 hk4 hz4)
        go_roundw
        case rel =>
          refine ⟨i + 1, (va', vn + v3n, vc'), by omega, by go_num, rfl, ⟨vn + v3n, ts1 ++ ts3, HO4.out, ?_, ?_, ?_⟩, ?_⟩
          · rw [HTK, ← List.append_assoc]
            have h1 := (HR1.out.kept HG23.out (fun k hk => by cases hk)).step HG4.out HK4.out
            have hb : ∀ k, Value.ownBlock (.slice va vn vc) = some k → k < w2.heap.size := fun k hk => Nat.lt_of_lt_of_le (HB1.out k hk) HG2.out.size
            have h3 : RecsAt w3 w2.heap.size (Value.ownBlock (.slice va vn vc)) ts3 q.2 := HR3.out.turn (Nat.le_refl _) (fun k hk => .inr (.inl (hb k hk)))
            have h4 := (h3.step HG4.out HK4.out).turn (o' := Value.ownBlock (.slice va' (vn + v3n) vc')) (Nat.le_trans HG.out.size HG2.out.size) (fun k hk => .inr (.inr hk))
            exact RecsAt.app h1 h4
          · rw [HTK, ← List.append_assoc, List.length_append, ← HN3.out.1, ← HN3.out.2]
          · intro he
            rw [HTK, ← List.append_assoc] at he
            obtain ⟨he1, he2⟩ := List.append_eq_nil_iff.1 he
            have h0 : v3n = 0 := by rw [HN3.out.1, he2]; rfl
            have h1 : vn = 0 := by rw [HN3.out.2, he1]; rfl
            obtain ⟨e1, e2⟩ := HZ4.out h0
            obtain ⟨e3, e4⟩ := HZ1.out he1
            show Value.slice va' (vn + v3n) vc' = _
            rw [e1, e2, e3, e4, h0, h1]
          · exact gb_trans (HG.out.trans HG23.out) HG4.out (fun k hk => .inl (HO1.out.block k hk).1)
        case measure => simp [intOf]; omega
      · have hii : ¬ (i : Int) < (NL : Int) := by omega
        have HEQ : Hid (cpRecs K ++ recsOf (Ls.take i) = cpRecs K ++ recsOf Ls) := by show _ = _; rw [List.take_of_length_le (by rw [← ENL.out]; omega)]
        go_wp2
        go_ret
        exact ⟨(va, vn, vc), rfl, HEQ.out ▸ HA2.out⟩
end Go.Proofs.YtekejnjaiccnbaaGreatDoor

/- Package wal: dropOld, where nothing is old. -/
namespace Go.Proofs.YtekejnjaiccnbaaGreatDoor
open Go.RowKit Go.Maps Go.Sort
set_option linter.unusedVariables false
set_option maxRecDepth 20000

theorem elem75 : Tryz.prog.elem 75 = 3 := by simp [Program.elem, Tryz.underlying75]
theorem head75 (w : World) (a : Option Addr) (M C : Nat) : (Instr.slice 75 (.slice a M C) none (some (.int .i64 0)) none).run Tryz.prog w = .ok (.slice a 0 C) w := by
  rw [run_slice_h w 75 _ M C (by rw [elem75]; exact Tryz.underlying75) .i64 0 (by omega) (by omega), elem75, Tryz.sizeOf3]
  cases a with
  | none => simp [sliced, Result.andThen]
  | some y => simp [sliced, Result.andThen, Addr.add]
theorem tail75 (w : World) (a : Option Addr) (M C : Nat) (h : M ≤ C) : (Instr.slice 75 (.slice a M C) (some (.int .i64 0)) none none).run Tryz.prog w = .ok (.slice a M C) w := by
  rw [run_slice_l w 75 _ M C (by rw [elem75]; exact Tryz.underlying75) .i64 0 (by omega) (by omega), elem75, Tryz.sizeOf3]
  cases a with
  | none => simp [sliced, Result.andThen]
  | some y => simp [sliced, Result.andThen, Addr.add]
theorem w_searchNil (x : Int) (w : World) : Calls Tryz.prog 121 #[.slice none 0 0, .int .i64 x] w fun e w' => ∃ b, e = .returned (.tuple #[.int .i64 0, .bool b]) ∧ ∃ q, w' = w.drewN q := by
  go_enter Tryz.func121, Tryz.ntmps121
  go_wp2
  go_loopw [7, 8] (fun t7 t8 wr => t7 = .int .i64 0 ∧ t8 = .int .i64 0 ∧ wr = w) (fun _ _ _ => 0)
  case atStart => exact ⟨rfl, rfl, rfl⟩
  case round =>
    obtain ⟨rfl, rfl, rfl⟩ := hrel
    go_wp2
    go_ret2
    exact ⟨_, rfl, 0, rfl⟩
theorem w_search (base n c : Nat) (a : Option Addr) (segs : List Nat) (x : Nat) (w : World) (h : SOwn intE 3 w base (.slice a n c) n (nI segs)) (hs : segs.Pairwise (· < ·)) (hx : ∀ k ∈ segs, x ≤ k) (hn : n ≤ 4194304) (h0 : n = 0 → a = none ∧ c = 0) :
    Calls Tryz.prog 121 #[.slice a n c, .int .i64 (x : Int)] w fun e w' => ∃ b, e = .returned (.tuple #[.int .i64 0, .bool b]) ∧ ∃ q, w' = w.drewN q := by
  have hlen := h.len
  rw [nI_len] at hlen
  rcases Nat.eq_zero_or_pos n with hz | hz
  · subst hz
    obtain ⟨rfl, rfl⟩ := h0 rfl
    exact w_searchNil x w
  · obtain ⟨b, off, rfl, hc⟩ := h.rd.at (by rw [nI_len]; omega)
    refine (Tryz.slices_BinarySearch_int b off n c (nI segs) (x : Int) w (by rw [nI_len]; omega) (by omega) (fun j hj => ?_) ?_).mono ?_
    · have := hc j _ 0 _ (List.getElem?_eq_getElem hj) rfl
      rw [show j * intE.size + 0 = j from Nat.mul_one j] at this
      rw [this, List.getD_eq_getElem?_getD, List.getElem?_eq_getElem hj]
      rfl
    · rw [List.take_of_length_le (by rw [nI_len]; omega)]
      unfold nI
      rw [List.pairwise_map]
      exact hs.imp (fun hab => by show (Int.ofNat _) ≤ Int.ofNat _; exact Int.ofNat_le.2 (Nat.le_of_lt hab))
    · rintro e w' ⟨rfl, q, rfl⟩
      refine ⟨(nI segs).contains (x : Int), ?_, q, rfl⟩
      rw [List.take_of_length_le (by rw [nI_len]; omega)]
      have : (nI segs).countP (fun z => decide (z < (x : Int))) = 0 := by
        rw [List.countP_eq_zero]
        intro z hz
        obtain ⟨k, hk, rfl⟩ := List.mem_map.1 hz
        have := hx k hk
        simp
        omega
      rw [this]
      rfl
def lastN : Option (Nat × List (List Int)) → Nat
  | none => 0
  | some q => q.1
def cpNums : Option (Nat × List (List Int)) → List Nat
  | none => []
  | some q => [q.1]
def cpName (dir : ByteArray) : Option (Nat × List (List Int)) → ByteArray
  | none => ⟨#[]⟩
  | some q => cpN dir q.1
set_option maxHeartbeats 8000000 in
theorem w_dropOld (p d : Nat) (dir : ByteArray) (v : Value) (op : Int) (K : Option (Nat × List (List Int))) (segs : List Nat) (a0 a1 : Option Addr) (k0 k1 base0 b1 : Nat) (dr : Bool) (w : World) (hds : dir.size ≤ 64) (ht : Tab w) (hk8 : lastN K < 100000000) (h : WRow w p d dir ⟨#[]⟩ v op) (ho0 : SOwn intE 3 w base0 (.slice a0 (cpNums K).length k0) (cpNums K).length (nI (cpNums K))) (ho1 : SOwn intE 3 w b1 (.slice a1 segs.length k1) segs.length (nI segs)) (hsg : segs.Pairwise (· < ·)) (hgt : ∀ k ∈ segs, lastN K < k) (hn : segs.length ≤ 4194304) (h0 : segs = [] → a1 = none ∧ k1 = 0) (hpb : p < b1) :
    Calls Tryz.prog 93 #[.pointer (some ⟨p, 0, none⟩), FolderV (.slice a0 (cpNums K).length k0) (.slice a1 segs.length k1) dr] w fun e w' => e = .returned (.int .i64 (lastN K : Int)) ∧ WRow w' p d dir (cpName dir K) (.slice a1 segs.length k1) op ∧ w.grownBy w' (some p) := by
  obtain ⟨L, eL⟩ : ∃ L, L = segs.length := ⟨_, rfl⟩
  have EL : Hid (L = segs.length) := eL
  have hgB : w.grownBy (w.alloc (.cells #[.slice a0 (cpNums K).length k0, .slice a1 L k1, .bool dr] 115)) none := World.grownBy_alloc w _ none
  have HGB : Hid (w.grownBy (w.alloc (.cells #[.slice a0 (cpNums K).length k0, .slice a1 L k1, .bool dr] 115)) none) := hgB
  have hrow := World.rowIs_alloc w #[.slice a0 (cpNums K).length k0, .slice a1 L k1, .bool dr] 115 (lookF (.slice a0 (cpNums K).length k0) (.slice a1 L k1) dr) (three rfl rfl rfl)
  have HROW : Hid ((w.alloc (.cells #[.slice a0 (cpNums K).length k0, .slice a1 L k1, .bool dr] 115)).rowIs w.heap.size 115 3 (lookF (.slice a0 (cpNums K).length k0) (.slice a1 L k1) dr)) := hrow
  have f0 : (w.alloc (.cells #[.slice a0 (cpNums K).length k0, .slice a1 L k1, .bool dr] 115)).cell? ⟨w.heap.size, 0, none⟩ = some (.slice a0 (cpNums K).length k0) := HROW.out.cell (i := 0) (by omega)
  have f1 : (w.alloc (.cells #[.slice a0 (cpNums K).length k0, .slice a1 L k1, .bool dr] 115)).cell? ⟨w.heap.size, 1, none⟩ = some (.slice a1 L k1) := HROW.out.cell (i := 1) (by omega)
  have HW : Hid (WRow (w.alloc (.cells #[.slice a0 (cpNums K).length k0, .slice a1 L k1, .bool dr] 115)) p d dir ⟨#[]⟩ v op) := h.kept hgB (by simp)
  have HPW : Hid (p < w.heap.size) := h.lt
  rw [← eL] at ho1 hn
  have HO1 : Hid (SOwn intE 3 w b1 (.slice a1 L k1) L (nI segs)) := ho1
  have HLK : Hid (L ≤ k1) := (sown_cap ho1).1
  have HS : Hid (∀ W : World, w.grownBy W (some p) → Calls Tryz.prog 121 #[.slice a1 L k1, .int .i64 ((lastN K : Int) + 1)] W fun e w' => ∃ b, e = .returned (.tuple #[.int .i64 0, .bool b]) ∧ ∃ q, w' = W.drewN q) := fun W hg => by
    have := w_search b1 L k1 a1 segs (lastN K + 1) W (SOwn.kept ho1 hg (.inr (fun e => by have := (ho1.block _ e).1; omega))) hsg (fun k hk => hgt k hk) hn (fun e => h0 (List.eq_nil_of_length_eq_zero (by rw [← eL]; exact e)))
    exact this
  have hsl0 : ∀ W : World, (Instr.slice 75 (.slice a1 L k1) none (some (.int .i64 0)) none).run Tryz.prog W = .ok (.slice a1 0 k1) W := fun W => head75 W a1 L k1
  have hsl1 : ∀ W : World, (Instr.slice 75 (.slice a1 L k1) (some (.int .i64 0)) none none).run Tryz.prog W = .ok (.slice a1 L k1) W := fun W => tail75 W a1 L k1 HLK.out
  rw [← eL]
  unfold FolderV
  clear h ho1 hsg hgt h0 eL hgB hrow
  go_enter Tryz.func93, Tryz.ntmps93
  go_upto_if 17 with fail
  go_cut [5] from 6 (fun t5 wc => t5 = .int .i64 (lastN K : Int) ∧ WRow wc p d dir (cpName dir K) v op ∧ wc.cell? ⟨w.heap.size, 1, none⟩ = some (.slice a1 L k1) ∧ w.grownBy wc (some p))
  case first =>
    cases K with
    | none =>
      go_wp2_with fail
      go_meet
      exact ⟨rfl, HW.out, f1, gb_any HGB.out _⟩
    | some q =>
      obtain ⟨b, off, rfl, hcell⟩ := nI_cell ho0.rd (l := cpNums (some q)) (i := 0) (k := q.1) rfl
      have hcell' := HGB.out.cell hcell (by simp)
      have hslc : ∀ W : World, (Instr.slice 75 (.slice (some ⟨b, off, none⟩) (cpNums (some q)).length k0) none (some (.int .i64 0)) none).run Tryz.prog W = .ok (.slice (some ⟨b, off, none⟩) 0 k0) W := fun W => head75 W _ _ k0
      rw [show (cpNums (some q)).length = 1 from rfl] at *
      rw [show decide (0 < 1) = true from rfl]
      have HCN : Hid (Calls Tryz.prog 99 #[.pointer (some ⟨p, 0, none⟩), .int .i64 (q.1 : Int)] (w.alloc (.cells #[.slice (some ⟨b, off, none⟩) 1 k0, .slice a1 L k1, .bool dr] 115)) fun e w' => e = .returned (.string (cpN dir q.1)) ∧ (w.alloc (.cells #[.slice (some ⟨b, off, none⟩) 1 k0, .slice a1 L k1, .bool dr] 115)).grownBy w' none) := w_cpoint p d dir ⟨#[]⟩ v op q.1 hk8 _ hds (ht.grown HGB.out) HW.out
      simp only [Nat.add_zero] at hcell'
      go_wp2_with fail
      refine HCN.out.mono ?_
      rintro e w2 ⟨rfl, hg2⟩
      have hW2 := HW.out.kept hg2 (by simp)
      have z2 := hW2.frozen 2
      have y2 : w2.cell? ⟨p, 2, none⟩ = some (.string ⟨#[]⟩) := hW2.cells.2.2.1
      have hr2 := HROW.out.of_block (hg2.block _ HROW.out.lt (by simp))
      have hr3 := hr2.setOther (a := ⟨p, 2, none⟩) (by have := HPW.out; show w.heap.size ≠ p; omega) (.string (cpN dir q.1))
      have g0 : (w2.setCell ⟨p, 2, none⟩ (.string (cpN dir q.1))).cell? ⟨w.heap.size, 0, none⟩ = some (.slice (some ⟨b, off, none⟩) 1 k0) := hr3.cell (i := 0) (by omega)
      have g1 : (w2.setCell ⟨p, 2, none⟩ (.string (cpN dir q.1))).cell? ⟨w.heap.size, 1, none⟩ = some (.slice a1 L k1) := hr3.cell (i := 1) (by omega)
      have HW3 : Hid (WRow (w2.setCell ⟨p, 2, none⟩ (.string (cpN dir q.1))) p d dir (cpN dir q.1) v op) := (hW2.set 2 (.string (cpN dir q.1))).congr (five rfl rfl rfl rfl rfl)
      have HG3 : Hid (w.grownBy (w2.setCell ⟨p, 2, none⟩ (.string (cpN dir q.1))) (some p)) := gb_trans (gb_any (HGB.out.trans hg2) _) (gb_set rfl) (fun k hk => .inr hk)
      clear hg2 hW2 hr2 hr3
      go_wp2_with fail
      go_loopw [36] (fun t36 wr => t36 = .int .i64 0 ∧ wr = w2.setCell ⟨p, 2, none⟩ (.string (cpN dir q.1))) (fun _ _ => 0)
      case atStart => exact ⟨rfl, rfl⟩
      case round =>
        obtain ⟨rfl, rfl⟩ := hrel
        go_wp2_with fail
        go_meet
        exact ⟨rfl, HW3.out, g1, HG3.out⟩
  case rest =>
    obtain ⟨rfl, hW, f1c, hgc⟩ := hcut
    have HS2 := HS.out wc hgc
    have HWc : Hid (WRow wc p d dir (cpName dir K) v op) := hW
    have HGc : Hid (w.grownBy wc (some p)) := hgc
    clear hW hgc f0 f1
    go_wp2_with fail
    refine HS2.mono ?_
    rintro e w2 ⟨b, rfl, q, rfl⟩
    have f1d : (wc.drewN q).cell? ⟨w.heap.size, 1, none⟩ = some (.slice a1 L k1) := f1c
    have hW2 : WRow (wc.drewN q) p d dir (cpName dir K) v op := HWc.out.kept (gb_drewN wc q) (by simp)
    have y3 := hW2.cells.2.2.2.1
    have z3 := hW2.frozen 3
    have HW3 : Hid (WRow ((wc.drewN q).setCell ⟨p, 3, none⟩ (.slice a1 L k1)) p d dir (cpName dir K) (.slice a1 L k1) op) := (hW2.set 3 (.slice a1 L k1)).congr (five rfl rfl rfl rfl rfl)
    have HG3 : Hid (w.grownBy ((wc.drewN q).setCell ⟨p, 3, none⟩ (.slice a1 L k1)) (some p)) := gb_trans (gb_drewR HGc.out q) (gb_set rfl) (fun k hk => .inr hk)
    clear hW2
    go_wp2_with fail
    go_loopw [63] (fun t63 wr => t63 = .int .i64 0 ∧ wr = wc.drewN q) (fun _ _ => 0)
    case atStart => exact ⟨rfl, rfl⟩
    case round =>
      obtain ⟨rfl, rfl⟩ := hrel
      go_wp2
      go_ret
      exact ⟨rfl, HW3.out, HG3.out⟩
end Go.Proofs.YtekejnjaiccnbaaGreatDoor

