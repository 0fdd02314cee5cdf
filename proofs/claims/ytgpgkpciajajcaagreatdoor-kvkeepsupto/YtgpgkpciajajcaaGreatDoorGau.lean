/- Several texts in one: Zg, Zh. -/
import Derived.Test.YtgpgkpciajajcaaGreatDoorGas
/- Package wal: replayAll, where nothing of the last file is whole. (Printed by mk_tornD.py.) -/
namespace Go.Proofs.YtgpgkpciajajcaaGreatDoor
open Go.RowKit Go.Maps Go.Sort
set_option linter.unusedVariables false
set_option maxRecDepth 20000

theorem head75n (w : World) (a : Option Addr) (M C E : Nat) (h : E ≤ C) (hC : C ≤ 9223372036854775807) : (Instr.slice 44 (.slice a M C) none (some (.int .i64 (E : Int))) none).run Tryz.prog w = .ok (.slice a E C) w := by
  rw [run_slice_h w 44 _ M C (by rw [elem75]; exact Tryz.underlying44) .i64 (E : Int) (by omega) (by omega), elem75, Tryz.sizeOf3]
  cases a with
  | none => simp [sliced, Result.andThen]
  | some y => simp [sliced, Result.andThen, Addr.add]
/-- The struct's segments were made shorter. -/
theorem LogAt.shrink {w : World} {base d mb n : Nat} {x : DSt} {p : Nat} {dir cp : ByteArray} {segs : List Nat} {op : Nat} {A B : Nat → Prop} (h : LogAt w base d mb n x p dir cp segs op A B) (i : Nat) (hi : i ≤ segs.length) : ∃ a c, WRow w p d dir cp (.slice a segs.length c) (op : Int) ∧ c ≤ 9223372036854775807 ∧ i ≤ c ∧ LogAt (w.setCell ⟨p, 3, none⟩ (.slice a i c)) base d mb n x p dir cp (segs.take i) op A B ∧ Step2 w (w.setCell ⟨p, 3, none⟩ (.slice a i c)) A B A B := by
  obtain ⟨a, c, h1, h2, h3, h4⟩ := h.wal
  have hcap : segs.length ≤ c ∧ c ≤ 9223372036854775807 := by
    refine ⟨(iown_cap h2).1, ?_⟩
    rcases h2.2 with ⟨h', _⟩ | ⟨g, off, cap, cur, h', _, _, _, k4, _⟩
    · injection h' with _ _ e
      omega
    · injection h' with _ _ e
      unfold maxLen at k4
      omega
  have hg : w.grownBy (w.setCell ⟨p, 3, none⟩ (.slice a i c)) (some p) := gb_set rfl
  have hk : Kept w (w.setCell ⟨p, 3, none⟩ (.slice a i c)) (fun k => k = p) := Kept.of hg (fun k hk => by cases hk; rfl)
  have hlen : (segs.take i).length = i := by rw [List.length_take]; omega
  have hso := h2.take i hi
  refine ⟨a, c, h1, hcap.2, by omega, ⟨h.disk.others hk (fun k hb e => by subst e; exact h.apart _ h3 hb), ⟨a, c, ?_, ?_, h3, h4⟩, h.apart, fun k hb => Nat.lt_of_lt_of_le (h.ltB k hb) hg.size, fun k ha => Nat.lt_of_lt_of_le (h.ltA k ha) hg.size⟩, ⟨hk.mono (fun k _ e => by subst e; exact .inl h3), fun k _ hb => hb, fun k _ ha => ha⟩⟩
  · rw [hlen]
    exact (h1.set 3 (.slice a i c)).congr (five rfl rfl rfl rfl rfl)
  · rw [hlen]
    have e : nI (segs.take i) = (nI segs).take i := by unfold nI; rw [List.map_take]
    rw [e]
    refine IOwn.kept hso hg ?_
    cases a with
    | none => exact .inl rfl
    | some y => exact .inr (fun e => (h4 y rfl).2 (Option.some.inj e))
set_option maxHeartbeats 4000000 in
theorem w_tearOffD (base d mb n : Nat) (x : DSt) (p : Nat) (dir cp name : ByteArray) (segs : List Nat) (op : Nat) (A B : Nat → Prop) (a : Option Addr) (cd : Nat) (w : World) (h : LogAt w base d mb n x p dir cp segs op A B) (hc : x.Calm) (hname : nameB name = true) (q : List Int × Nat) (hV : x.V name = some q) :
    Calls Tryz.prog 174 #[.pointer (some ⟨p, 0, none⟩), .string name, .slice a 0 cd] w fun e w' => e = .returned (.bool false) ∧ ∃ n' B', n' ≤ n ∧ LogAt w' base d mb n' (x.delete name).2 p dir cp segs op A B' ∧ Step2 w w' A B A B' := by
  have HD0 := fun w => w_done0 w
  have k1 := calm_del x hc name q hV
  have A1 : Hid (∀ w1, w.grownBy w1 none → Calls Tryz.prog 141 #[.pointer (some ⟨d, 0, none⟩), .string name] w1 fun e w' => e = .returned (.int .i64 0) ∧ ∃ n' B', n' ≤ n ∧ LogAt w' base d mb n' (x.delete name).2 p dir cp segs op A B' ∧ Step2 w w' A B A B') := fun w1 hg => by
    have h1 := h.grown hg
    refine (x_deleteN base d mb n x B name w1 h1.disk hc.ok hname).mono ?_
    rintro e w' ⟨rfl, n', B', hn', hd', hst⟩
    obtain ⟨B'', h2, h3⟩ := h1.write hd' hst
    exact ⟨by rw [k1], n', B'', hn', h2, (Step2.grown A B hg).trans h3⟩
  have HGD : ∀ W : World, W.grownBy W none := fun W => World.grownBy.refl _ _
  obtain ⟨a1, c1, hW, _⟩ := h.wal
  have c0 := hW.cells.1
  clear h hW k1 hV
  go_enter Tryz.func174, Tryz.ntmps174
  go_wp2_with fail
  refine (A1.out _ (HGD _)).mono ?_
  rintro e w1 ⟨rfl, n1, B1, hn1, hL1, hS1⟩
  have HL : Hid (LogAt w1 base d mb n1 (x.delete name).2 p dir cp segs op A B1) := hL1
  have HS : Hid (Step2 w w1 A B A B1) := hS1
  clear hL1 hS1 A1
  go_wp2_with fail
  refine (HD0 _).mono ?_
  rintro e w2 ⟨rfl, rfl⟩
  go_wp2
  go_ret
  exact ⟨rfl, n1, B1, hn1, HL.out, HS.out⟩
set_option maxHeartbeats 16000000 in
theorem w_replayAllD (base p d mb n : Nat) (dir cp : ByteArray) (op : Nat) (x : DSt) (A B : Nat → Prop) (K : Kp) (Ls LL : Sg) (kl : Nat) (rl : List (List Int)) (tl : List Int) (sl : Nat) (w : World) (hdir : dirB dir = true) (ht : Tab w) (hLL : LL = Ls ++ [(kl, rl)]) (hL : LogAt w base d mb n x p dir cp (LL.map Prod.fst) op A B) (hcalm : x.Calm) (hw : x.wn ≤ 999999980) (hn : n < 1048576) (hnew : x.V (newN dir) = none) (hK : CpIs x.V dir cp K) (hW : Whole x.V dir Ls) (hTV : x.V (segN dir kl) = some (logB frameR rl ++ tl, sl)) (hTF : FileRecs (logB frameR rl ++ tl) rl tl) (htl : tl ≠ []) (hrl : rl = []) (hkl : kl < 100000000) (hsz : (cpRecs K ++ recsOf LL).length ≤ 4194304) (hln : LL.length ≤ 4194304) (hb : base ≤ w.heap.size) :
    Calls Tryz.prog 152 #[.pointer (some ⟨p, 0, none⟩)] w (TornOut w base d mb n (x.delete (segN dir kl)).2 p dir cp (Ls.map Prod.fst) op A B (cpRecs K ++ recsOf LL)) := by
  obtain ⟨a, c, h, hso, hAp, hAy⟩ := hL.wal
  rw [List.length_map] at h hso
  have hr : SRd intE w a (nI (LL.map Prod.fst)) := hso.rd
  have hd := hL.disk
  have hon := hcalm.on
  have HLA : Hid (LogAt w base d mb n x p dir cp (LL.map Prod.fst) op A B) := hL
  have HTV : Hid (x.V (segN dir kl) = some (logB frameR rl ++ tl, sl)) := hTV
  have HTF : Hid (FileRecs (logB frameR rl ++ tl) rl tl) := hTF
  have HLL : Hid (LL = Ls ++ [(kl, rl)]) := hLL
  have HWLt : Hid (∀ k, A k ∨ B k → k < w.heap.size) := fun k hk => hk.elim (hL.ltA k) (hL.ltB k)
  have HNEW : Hid (x.V (newN dir) = none) := hnew
  have HDT : Hid (decide (tl ≠ []) = true) := decide_eq_true htl
  have HRL : Hid (rl = []) := hrl
  have HCALM : Hid x.Calm := hcalm
  clear hL hTV hTF hLL hso hAp hAy hnew htl hrl hcalm
  have hds : dir.size ≤ 32 := by simp only [dirB, Bool.and_eq_true, decide_eq_true_eq] at hdir; exact hdir.2
  obtain ⟨c0, c1, c2, c3, c4⟩ := h.cells
  have HT : Hid (Tab w) := ht
  have HW : Hid (WRow w p d dir cp (.slice a LL.length c) (op : Int)) := h
  have HR : Hid (SRd intE w a (nI (LL.map Prod.fst))) := hr
  have HD : Hid (DS w base d mb n x B) := hd
  have HWH : Hid (Whole x.V dir Ls) := hW
  have HDIR : Hid (dirB dir = true) := hdir
  have HSZ : Hid ((cpRecs K ++ recsOf LL).length ≤ 4194304) := hsz
  have HCP : Hid (CpIs x.V dir cp K) := hK
  obtain ⟨NL, eNL⟩ : ∃ NL, NL = LL.length := ⟨_, rfl⟩
  have ENL : Hid (NL = LL.length) := eNL
  rw [← eNL] at c3 hln
  clear hK h hr hd hW hdir ht hsz eNL c0 c1 c4
  go_enter Tryz.func152, Tryz.ntmps152
  go_upto_if 16 with fail
  go_cut [3] from 12 (fun t3 wc => ∃ v1 : Sl, t3 = .slice v1.1 v1.2.1 v1.2.2 ∧ AllAt w wc v1 (cpRecs K))
  case first =>
    cases K with
    | none =>
      have hcp : cp = ⟨#[]⟩ := HCP.out
      subst hcp
      have q0 : (ByteArray.toList ⟨#[]⟩).isEmpty = true := by rw [str_none]; rfl
      rw [q0, Bool.not_true]
      go_wp2_with fail
      go_meet
      exact ⟨(none, 0, 0), rfl, ⟨0, [], SOwn.nil 37 _ _, trivial, rfl, fun _ => rfl⟩, World.grownBy.refl _ _⟩
    | some q =>
      obtain ⟨hcp, ⟨syn, hV⟩, hlen, hq8⟩ := HCP.out
      subst hcp
      have q0 : (cpN dir q.1).toList.isEmpty = false := by
        rw [str_none]
        simp only [decide_eq_false_iff_not]
        intro e
        have := congrArg ByteArray.size e
        rw [cpN, bN_size] at this
        simp [d8_len] at this
        have h2 : ByteArray.size ⟨#[]⟩ = 0 := rfl
        omega
      have HRF : Hid (Calls Tryz.prog 172 #[.pointer (some ⟨p, 0, none⟩), .string (cpN dir q.1)] w fun e w' => ∃ v a c N, e = .returned (.tuple #[slV v, .slice a (logB frameR q.2).length c, .bool (decide (([] : List Int) ≠ []))]) ∧ RecsOut w w' (slV v) N q.2 ∧ Out w w' a (logB frameR q.2).length c (logB frameR q.2) ∧ w.grownBy w' none) := w_replayFile base p d mb n dir (cpN dir q.1) _ op x B (cpN dir q.1) _ syn q.2 [] w HW.out HD.out hon (cp_name HDIR.out q.1) hV (FileRecs.whole q.2 hlen)
      rw [show decide (([] : List Int) ≠ []) = false from rfl] at HRF
      rw [q0, Bool.not_false]
      go_wp2_with fail
      refine HRF.out.mono ?_
      rintro e w1 ⟨v1, a1, k1, N1, rfl, hro, _, hg1⟩
      have HRO : Hid (RecsOut w w1 (slV v1) N1 q.2) := hro
      have HG1 : Hid (w.grownBy w1 none) := hg1
      clear hro hg1 HRF
      unfold slV
      go_wp2_with fail
      go_meet
      exact ⟨v1, rfl, ⟨N1, HRO.out⟩, HG1.out⟩
  case rest =>
    obtain ⟨v1, rfl, hA⟩ := hcut
    have HA : Hid (AllAt w wc v1 (cpRecs K)) := hA
    have c3' := (HW.out.kept hA.grown (by simp)).cells.2.2.2.1
    rw [← ENL.out] at c3'
    clear hA c3
    go_wp2_with fail
    go_loopw [3, 47] (fun t3 t47 wr => ∃ (i : Nat) (v : Sl), i < NL ∧ t47 = .int .i64 i ∧ t3 = .slice v.1 v.2.1 v.2.2 ∧ AllAt w wr v (cpRecs K ++ recsOf (LL.take i))) (fun _ t47 _ => NL - (intOf t47).toNat)
    case atStart => exact ⟨0, v1, by rw [ENL.out, HLL.out]; simp, rfl, rfl, by simpa [recsOf] using HA.out⟩
    case round =>
      obtain ⟨i, v, hi, rfl, rfl, hA2⟩ := hrel
      have HA2 : Hid (AllAt w wr v (cpRecs K ++ recsOf (LL.take i))) := hA2
      have hg := hA2.grown
      have HG : Hid (w.grownBy wr none) := hg
      have HWr : Hid (WRow wr p d dir cp (.slice a LL.length c) (op : Int)) := HW.out.kept hg (by simp)
      have HTr : Hid (Tab wr) := HT.out.grown hg
      have HDr : Hid (DS wr base d mb n x B) := DV.kept HD.out hg
      have HRr : Hid (SRd intE wr a (nI (LL.map Prod.fst))) := HR.out.grown hg (by simp)
      clear hA2 hg HA
      obtain ⟨va, vn, vc⟩ := v
      have hlt : i < NL := hi
      by_cases hla : i + 1 < NL
      · have hii : (i : Int) < (NL : Int) := by omega
        obtain ⟨q, hq⟩ : ∃ q, LL[i]? = some q := ⟨_, List.getElem?_eq_getElem (by rw [← ENL.out]; exact hlt)⟩
        obtain ⟨⟨syn, hV⟩, hlen, hq8⟩ := HWH.out q (by have h1 := ENL.out; have h2 := HLL.out; rw [h2] at hq h1; rw [List.length_append, List.length_singleton] at h1; rw [List.getElem?_append_left (by omega)] at hq; exact List.mem_of_getElem? hq)
        obtain ⟨b, off, rfl, hcell⟩ := nI_cell HRr.out (l := LL.map Prod.fst) (i := i) (k := q.1) (by rw [List.getElem?_map, hq]; rfl)
        have HTK := recsOf_take LL i q hq
        have HSG : Hid (Calls Tryz.prog 105 #[.pointer (some ⟨p, 0, none⟩), .int .i64 (q.1 : Int)] wr fun e w' => e = .returned (.string (segN dir q.1)) ∧ wr.grownBy w' none) := w_segment p d dir cp _ (op : Int) q.1 hq8 wr (by omega) HTr.out HWr.out
        clear hq
        dsimp only
        go_wp2_with fail
        refine HSG.out.mono ?_
        rintro e w2 ⟨rfl, hg2⟩
        have HG2 : Hid (wr.grownBy w2 none) := hg2
        have HRF : Hid (Calls Tryz.prog 172 #[.pointer (some ⟨p, 0, none⟩), .string (segN dir q.1)] w2 fun e w' => ∃ v a c N, e = .returned (.tuple #[slV v, .slice a (logB frameR q.2).length c, .bool (decide (([] : List Int) ≠ []))]) ∧ RecsOut w2 w' (slV v) N q.2 ∧ Out w2 w' a (logB frameR q.2).length c (logB frameR q.2) ∧ w2.grownBy w' none) := w_replayFile base p d mb n dir cp _ (op : Int) x B (segN dir q.1) _ syn q.2 [] w2 (HWr.out.kept hg2 (by simp)) (DV.kept HDr.out hg2) hon (seg_name HDIR.out q.1) hV (FileRecs.whole q.2 hlen)
        rw [show decide (([] : List Int) ≠ []) = false from rfl] at HRF
        clear hg2 HSG
        go_wp2_with fail
        refine HRF.out.mono ?_
        rintro e w3 ⟨v3, a3, k3, N3, rfl, hro, _, hg3⟩
        obtain ⟨ts3, ho3, hr3, hn3, hz3⟩ := hro
        obtain ⟨n1, ts1, ho1, hr1, hn1, hz1⟩ := HA2.out.out
        obtain ⟨v3a, v3n, v3c⟩ := v3
        unfold slV at ho3 hr3 hz3 ho1 hr1 hz1 ⊢
        dsimp only at ho3 hr3 hz3 ho1 hr1 hz1 ⊢
        obtain ⟨_, _, e3⟩ := sownSl ho3
        obtain ⟨_, _, e1⟩ := sownSl ho1
        obtain rfl : v3n = N3 := by injection e3
        obtain rfl : vn = n1 := by injection e1
        have HG23 : Hid (wr.grownBy w3 none) := HG2.out.trans hg3
        have HO1 : Hid (SOwn slE 37 w3 w.heap.size (.slice va vn vc) vn ts1) := SOwn.kept ho1 HG23.out (by cases va <;> simp [Value.ownBlock])
        have HB1 : Hid (∀ k, Value.ownBlock (.slice va vn vc) = some k → k < wr.heap.size) := fun k hk => (ho1.block k hk).2
        have HO3 : Hid (SOwn slE 37 w3 w2.heap.size (.slice v3a v3n v3c) v3n ts3) := ho3
        have HR1 : Hid (RecsAt wr w.heap.size (Value.ownBlock (.slice va vn vc)) ts1 (cpRecs K ++ recsOf (LL.take i))) := hr1
        have HR3 : Hid (RecsAt w3 w2.heap.size (Value.ownBlock (.slice v3a v3n v3c)) ts3 q.2) := hr3
        have HL3 : Hid (ts3.length = v3n) := ho3.len
        have HN3 : Hid (v3n = q.2.length ∧ vn = (cpRecs K ++ recsOf (LL.take i)).length) := ⟨hn3, hn1⟩
        have HZ3 : Hid (v3n = 0 → v3a = none ∧ v3c = 0) := fun h => by
          have h1 : q.2 = [] := List.eq_nil_of_length_eq_zero (by rw [← hn3]; exact h)
          have h2 := hz3 h1
          injection h2 with h3 h4 h5
          exact ⟨h3, h5⟩
        have HZ1 : Hid ((cpRecs K ++ recsOf (LL.take i)) = [] → va = none ∧ vc = 0) := fun h => by
          have h2 := hz1 h
          injection h2 with h3 h4 h5
          exact ⟨h3, h5⟩
        have hsum : vn + v3n ≤ 4194304 := by
          have h1 := HSZ.out
          have h2 : (cpRecs K ++ recsOf (LL.take (i + 1))).length ≤ (cpRecs K ++ recsOf LL).length := by
            conv => rhs; rw [← List.take_append_drop (i + 1) LL]
            unfold recsOf
            rw [List.flatMap_append]
            simp
          rw [HTK] at h2
          rw [hn3, hn1]
          simp at h1 h2 ⊢
          omega
        have hwsz : w.heap.size ≤ w3.heap.size := Nat.le_trans HG.out.size HG23.out.size
        clear ho3 hr3 hz3 ho1 hr1 hz1 hg3 hn3 hn1 e1 e3 HRF
        go_wp2_with (at_builtin; refine wpList_append_u slET rfl (.tmp 61) (.tmp 62) rfl w.heap.size va vc vn ts1 rfl HO1.out v3a ts3 v3n v3c rfl HL3.out HO3.out.rd HZ3.out (by omega) (by unfold maxLen; omega) hwsz ?_; intro va' vc' w4 ho4 hg4 hk4 hz4; have HO4 : Hid (SOwn slE 37 w4 w.heap.size (.slice va' (vn + v3n) vc') (vn + v3n) (ts1 ++ ts3)) := ho4; have HG4 : Hid (w3.grownBy w4 (Value.ownBlock (.slice va vn vc))) := hg4; have HK4 : Hid (∀ k, Value.ownBlock (.slice va' (vn + v3n) vc') = some k → w3.heap.size ≤ k ∨ Value.ownBlock (.slice va vn vc) = some k) := hk4; have HZ4 : Hid (v3n = 0 → va' = va ∧ vc' = vc) := hz4; clear ho4 hg4 hk4 hz4)
        go_roundw
        case rel =>
          refine ⟨i + 1, (va', vn + v3n, vc'), by omega, by go_num, rfl, ⟨vn + v3n, ts1 ++ ts3, HO4.out, ?_, ?_, ?_⟩, ?_⟩
          · rw [HTK, ← List.append_assoc]
            have h1 := (HR1.out.kept HG23.out (fun k hk => by cases hk)).step HG4.out HK4.out
            have hb : ∀ k, Value.ownBlock (.slice va vn vc) = some k → k < w2.heap.size := fun k hk => Nat.lt_of_lt_of_le (HB1.out k hk) HG2.out.size
            have h3 : RecsAt w3 w2.heap.size (Value.ownBlock (.slice va vn vc)) ts3 q.2 := HR3.out.turn (Nat.le_refl _) (fun k hk => .inr (.inl (hb k hk)))
            have h4 := (h3.step HG4.out HK4.out).turn (o' := Value.ownBlock (.slice va' (vn + v3n) vc')) (Nat.le_trans HG.out.size HG2.out.size) (fun k hk => .inr (.inr hk))
            exact RecsAt.app h1 h4
          · rw [HTK, ← List.append_assoc, List.length_append, ← HN3.out.1, ← HN3.out.2]
          · intro he
            rw [HTK, ← List.append_assoc] at he
            obtain ⟨he1, he2⟩ := List.append_eq_nil_iff.1 he
            have h0 : v3n = 0 := by rw [HN3.out.1, he2]; rfl
            have h1 : vn = 0 := by rw [HN3.out.2, he1]; rfl
            obtain ⟨e1, e2⟩ := HZ4.out h0
            obtain ⟨e3, e4⟩ := HZ1.out he1
            show Value.slice va' (vn + v3n) vc' = _
            rw [e1, e2, e3, e4, h0, h1]
          · exact gb_trans (HG.out.trans HG23.out) HG4.out (fun k hk => .inl (HO1.out.block k hk).1)
        case measure => simp [intOf]; omega
      · have hii : (i : Int) < (NL : Int) := by omega
        have hq : LL[i]? = some (kl, rl) := by
          have h1 := ENL.out
          have h2 := HLL.out
          rw [h2] at h1 ⊢
          rw [List.length_append, List.length_singleton] at h1
          have h3 : i = Ls.length := by omega
          rw [h3]
          simp
        obtain ⟨q, eq⟩ : ∃ q, q = (kl, rl) := ⟨_, rfl⟩
        rw [← eq] at hq
        have EQ : Hid (q = (kl, rl)) := eq
        have hq8 : q.1 < 100000000 := by rw [eq]; exact hkl
        have hV : x.V (segN dir q.1) = some (logB frameR q.2 ++ tl, sl) := by rw [eq]; exact HTV.out
        have hF2 : FileRecs (logB frameR q.2 ++ tl) q.2 tl := by rw [eq]; exact HTF.out
        clear eq
        obtain ⟨b, off, rfl, hcell⟩ := nI_cell HRr.out (l := LL.map Prod.fst) (i := i) (k := q.1) (by rw [List.getElem?_map, hq]; rfl)
        have HTK := recsOf_take LL i q hq
        have HSG : Hid (Calls Tryz.prog 105 #[.pointer (some ⟨p, 0, none⟩), .int .i64 (q.1 : Int)] wr fun e w' => e = .returned (.string (segN dir q.1)) ∧ wr.grownBy w' none) := w_segment p d dir cp _ (op : Int) q.1 hq8 wr (by omega) HTr.out HWr.out
        clear hq
        dsimp only
        go_wp2_with fail
        refine HSG.out.mono ?_
        rintro e w2 ⟨rfl, hg2⟩
        have HG2 : Hid (wr.grownBy w2 none) := hg2
        have HRF : Hid (Calls Tryz.prog 172 #[.pointer (some ⟨p, 0, none⟩), .string (segN dir q.1)] w2 fun e w' => ∃ v a c N, e = .returned (.tuple #[slV v, .slice a (logB frameR q.2).length c, .bool (decide (tl ≠ []))]) ∧ RecsOut w2 w' (slV v) N q.2 ∧ Out w2 w' a (logB frameR q.2).length c (logB frameR q.2) ∧ w2.grownBy w' none) := w_replayFile base p d mb n dir cp _ (op : Int) x B (segN dir q.1) _ sl q.2 tl w2 (HWr.out.kept hg2 (by simp)) (DV.kept HDr.out hg2) hon (seg_name HDIR.out q.1) hV hF2
        rw [HDT.out] at HRF
        clear hg2 HSG
        go_wp2_with fail
        refine HRF.out.mono ?_
        rintro e w3 ⟨v3, a3, k3, N3, rfl, hro, hout, hg3⟩
        obtain ⟨ts3, ho3, hr3, hn3, hz3⟩ := hro
        obtain ⟨n1, ts1, ho1, hr1, hn1, hz1⟩ := HA2.out.out
        obtain ⟨v3a, v3n, v3c⟩ := v3
        unfold slV at ho3 hr3 hz3 ho1 hr1 hz1 ⊢
        dsimp only at ho3 hr3 hz3 ho1 hr1 hz1 ⊢
        obtain ⟨_, _, e3⟩ := sownSl ho3
        obtain ⟨_, _, e1⟩ := sownSl ho1
        obtain rfl : v3n = N3 := by injection e3
        obtain rfl : vn = n1 := by injection e1
        have HG23 : Hid (wr.grownBy w3 none) := HG2.out.trans hg3
        have HO1 : Hid (SOwn slE 37 w3 w.heap.size (.slice va vn vc) vn ts1) := SOwn.kept ho1 HG23.out (by cases va <;> simp [Value.ownBlock])
        have HB1 : Hid (∀ k, Value.ownBlock (.slice va vn vc) = some k → k < wr.heap.size) := fun k hk => (ho1.block k hk).2
        have HO3 : Hid (SOwn slE 37 w3 w2.heap.size (.slice v3a v3n v3c) v3n ts3) := ho3
        have HR1 : Hid (RecsAt wr w.heap.size (Value.ownBlock (.slice va vn vc)) ts1 (cpRecs K ++ recsOf (LL.take i))) := hr1
        have HR3 : Hid (RecsAt w3 w2.heap.size (Value.ownBlock (.slice v3a v3n v3c)) ts3 q.2) := hr3
        have HL3 : Hid (ts3.length = v3n) := ho3.len
        have HN3 : Hid (v3n = q.2.length ∧ vn = (cpRecs K ++ recsOf (LL.take i)).length) := ⟨hn3, hn1⟩
        have HZ3 : Hid (v3n = 0 → v3a = none ∧ v3c = 0) := fun h => by
          have h1 : q.2 = [] := List.eq_nil_of_length_eq_zero (by rw [← hn3]; exact h)
          have h2 := hz3 h1
          injection h2 with h3 h4 h5
          exact ⟨h3, h5⟩
        have HZ1 : Hid ((cpRecs K ++ recsOf (LL.take i)) = [] → va = none ∧ vc = 0) := fun h => by
          have h2 := hz1 h
          injection h2 with h3 h4 h5
          exact ⟨h3, h5⟩
        have hsum : vn + v3n ≤ 4194304 := by
          have h1 := HSZ.out
          have h2 : (cpRecs K ++ recsOf (LL.take (i + 1))).length ≤ (cpRecs K ++ recsOf LL).length := by
            conv => rhs; rw [← List.take_append_drop (i + 1) LL]
            unfold recsOf
            rw [List.flatMap_append]
            simp
          rw [HTK] at h2
          rw [hn3, hn1]
          simp at h1 h2 ⊢
          omega
        have hwsz : w.heap.size ≤ w3.heap.size := Nat.le_trans HG.out.size HG23.out.size
        have hM0 : (logB frameR q.2).length = 0 := by rw [EQ.out]; show (logB frameR rl).length = 0; rw [HRL.out]; rfl
        rw [hM0]
        clear hM0 hout
        clear hF2 hV ho3 hr3 hz3 ho1 hr1 hz1 hg3 hn3 hn1 e1 e3 HRF
        go_wp2_with (at_builtin; refine wpList_append_u slET rfl (.tmp 61) (.tmp 62) rfl w.heap.size va vc vn ts1 rfl HO1.out v3a ts3 v3n v3c rfl HL3.out HO3.out.rd HZ3.out (by omega) (by unfold maxLen; omega) hwsz ?_; intro va' vc' w4 ho4 hg4 hk4 hz4; have HO4 : Hid (SOwn slE 37 w4 w.heap.size (.slice va' (vn + v3n) vc') (vn + v3n) (ts1 ++ ts3)) := ho4; have HG4 : Hid (w3.grownBy w4 (Value.ownBlock (.slice va vn vc))) := hg4; have HK4 : Hid (∀ k, Value.ownBlock (.slice va' (vn + v3n) vc') = some k → w3.heap.size ≤ k ∨ Value.ownBlock (.slice va vn vc) = some k) := hk4; have HZ4 : Hid (v3n = 0 → va' = va ∧ vc' = vc) := hz4; clear ho4 hg4 hk4 hz4)
        have HG04 : Hid (w.grownBy w4 none) := gb_trans (HG.out.trans HG23.out) HG4.out (fun k hk => .inl (HO1.out.block k hk).1)
        have HRO4 : Hid (RecsOut w w4 (.slice va' (vn + v3n) vc') (vn + v3n) (cpRecs K ++ recsOf LL)) := by
          have HTK2 : recsOf LL = recsOf (LL.take i) ++ q.2 := by
            rw [← HTK, List.take_of_length_le (by rw [← ENL.out]; omega)]
          refine ⟨ts1 ++ ts3, HO4.out, ?_, ?_, ?_⟩
          · rw [HTK2, ← List.append_assoc]
            have h1 := (HR1.out.kept HG23.out (fun k hk => by cases hk)).step HG4.out HK4.out
            have hb : ∀ k, Value.ownBlock (.slice va vn vc) = some k → k < w2.heap.size := fun k hk => Nat.lt_of_lt_of_le (HB1.out k hk) HG2.out.size
            have h3 : RecsAt w3 w2.heap.size (Value.ownBlock (.slice va vn vc)) ts3 q.2 := HR3.out.turn (Nat.le_refl _) (fun k hk => .inr (.inl (hb k hk)))
            have h4 := (h3.step HG4.out HK4.out).turn (o' := Value.ownBlock (.slice va' (vn + v3n) vc')) (Nat.le_trans HG.out.size HG2.out.size) (fun k hk => .inr (.inr hk))
            exact RecsAt.app h1 h4
          · rw [HTK2, ← List.append_assoc, List.length_append, ← HN3.out.1, ← HN3.out.2]
          · intro he
            rw [HTK2, ← List.append_assoc] at he
            obtain ⟨he1, he2⟩ := List.append_eq_nil_iff.1 he
            have h0 : v3n = 0 := by rw [HN3.out.1, he2]; rfl
            have h1 : vn = 0 := by rw [HN3.out.2, he1]; rfl
            obtain ⟨e1, e2⟩ := HZ4.out h0
            obtain ⟨e3, e4⟩ := HZ1.out he1
            show Value.slice va' (vn + v3n) vc' = _
            rw [e1, e2, e3, e4, h0, h1]
        have hL4 := HLA.out.grown HG04.out
        have hdn := w_dropNone base d mb n x p dir cp _ op A B NL w4 hL4 (by rw [List.length_map]; exact ENL.out.symm)
        have e47 : ((NL : Nat) : Int) = (i : Int) + 1 := by omega
        rw [e47] at hdn
        refine hdn.mono ?_
        rintro e _ ⟨rfl, rfl⟩
        have hsg2 := w_segment p d dir cp _ (op : Int) q.1 hq8 w4 (by omega) (HT.out.grown HG04.out) (HW.out.kept HG04.out (by simp))
        have HL4 : Hid (LogAt w4 base d mb n x p dir cp (LL.map Prod.fst) op A B) := hL4
        clear hdn hL4
        go_wp2_with fail
        refine hsg2.mono ?_
        rintro e w5 ⟨rfl, hg5⟩
        have hto := w_tearOffD base d mb n x p dir cp (segN dir q.1) _ op A B a3 k3 w5 (HL4.out.grown hg5) HCALM.out (seg_name HDIR.out q.1) _ (by rw [EQ.out]; exact HTV.out)
        have HG5 : Hid (w4.grownBy w5 none) := hg5
        clear hsg2 hg5
        go_wp2_with fail
        refine hto.mono ?_
        rintro e w6 ⟨rfl, n6, B6, hn6, hL6, hS6⟩
        obtain ⟨a6, c6, hW6, hc6, hic6, hL7, hS7⟩ := hL6.shrink i (by rw [List.length_map, ← ENL.out]; omega)
        have x3 := hW6.cells.2.2.2.1
        have z3 := hW6.frozen 3
        rw [List.length_map, ← ENL.out] at x3
        have hsl : ∀ W : World, (Instr.slice 44 (.slice a6 NL c6) none (some (.int .i64 (i : Int))) none).run Tryz.prog W = .ok (.slice a6 i c6) W := fun W => head75n W a6 NL c6 i hic6 hc6
        have HFIN : Hid (TornOut w base d mb n (x.delete (segN dir kl)).2 p dir cp (Ls.map Prod.fst) op A B (cpRecs K ++ recsOf LL) (.returned (.slice va' (vn + v3n) vc')) (w6.setCell ⟨p, 3, none⟩ (.slice a6 i c6))) := by
          have hS67 := hS6.trans hS7
          refine ⟨(va', vn + v3n, vc'), vn + v3n, n6, B6, rfl, (HRO4.out.grown HG5.out).keptK hS67.kept (fun k hk hX => by have := HWLt.out k hX; omega), by omega, ?_, (Step2.grown A B (HG04.out.trans HG5.out)).trans hS67⟩
          have e := EQ.out
          rw [e] at hL7
          have e2 : (LL.map Prod.fst).take i = Ls.map Prod.fst := by
            have h1 := ENL.out
            have h2 := HLL.out
            rw [h2] at h1 ⊢
            rw [List.length_append, List.length_singleton] at h1
            rw [List.map_append, List.take_left' (by rw [List.length_map]; omega)]
          rw [e2] at hL7
          exact hL7
        clear hto hL6 hS6 hL7 hS7 hW6
        go_wp2
        go_ret
        exact HFIN.out
end Go.Proofs.YtgpgkpciajajcaaGreatDoor

/- Package wal: mend and Open, where nothing of the last file is whole. (Printed by mk_tornD.py.) -/
namespace Go.Proofs.YtgpgkpciajajcaaGreatDoor
open Go.RowKit Go.Maps Go.Sort
set_option linter.unusedVariables false
set_option maxRecDepth 20000

set_option maxHeartbeats 16000000 in
theorem w_mendD (base d mb n : Nat) (dir : ByteArray) (x : DSt) (B : Nat → Prop) (K : Kp) (Ls LL : Sg) (kl : Nat) (rl : List (List Int)) (tl : List Int) (sl : Nat) (w W0 : World) (p : Nat) (hdir : dirB dir = true) (ht : Tab W0) (hMI : MendIn w W0 p d dir) (hd : DS W0 base d mb n x B) (hlp : ∀ k, B k → k < p) (hcalm : x.Calm) (hw : x.wn ≤ 999999980) (hn : n < 1048576) (hlog : TornLog x.V dir K Ls LL kl rl tl sl) (htl : tl ≠ []) (hrl : rl = []) (hsz : (cpRecs K ++ recsOf LL).length ≤ 4194304) (hln : LL.length ≤ 4194304) (hb : base ≤ W0.heap.size) :
    Calls Tryz.prog 121 #[.pointer (some ⟨p, 0, none⟩)] W0 fun e w' => ∃ v : Sl, e = .returned (slV v) ∧ TornMend base d mb n (x.delete (segN dir kl)).2 dir K Ls B W0 p v w' ∧ ∀ k, p < k → k < W0.heap.size → w'.heap[k]? = W0.heap[k]? := by
  have h := hMI.row
  have hon := hcalm.on
  have hltB : ∀ k, B k → k < W0.heap.size := fun k hk => Nat.lt_trans (hlp k hk) h.lt
  have hBp : ¬ B p := fun hk => Nat.lt_irrefl _ (hlp p hk)
  have HLTB : Hid (∀ k, B k → k < W0.heap.size) := hltB
  have HCALM : Hid x.Calm := hcalm
  have HTL : Hid (tl ≠ []) := htl
  have HRL : Hid (rl = []) := hrl
  have HLP : Hid (∀ k, B k → k < p) := hlp
  clear hMI hltB hlp hcalm htl hrl
  have hds : dir.size ≤ 32 := by simp only [dirB, Bool.and_eq_true, decide_eq_true_eq] at hdir; exact hdir.2
  have HLK : Hid (Calls Tryz.prog 149 #[.pointer (some ⟨p, 0, none⟩)] W0 (LookOut W0 (cpNums K) (LL.map Prod.fst) false)) := w_look base p d mb n dir ⟨#[]⟩ (.slice none 0 0) 0 x B (cpNums K) (LL.map Prod.fst) false W0 hdir h hd hon hlog.folder (by omega) (fun k hk => by obtain ⟨q, hq, rfl⟩ := List.mem_map.1 hk; have := hlog.above q hq; omega)
  have HW : Hid (WRow W0 p d dir ⟨#[]⟩ (.slice none 0 0) 0) := h
  have HD : Hid (DS W0 base d mb n x B) := hd
  have HT : Hid (Tab W0) := ht
  have HB : Hid (¬ B p) := hBp
  have HDIR : Hid (dirB dir = true) := hdir
  have HLOG : Hid (TornLog x.V dir K Ls LL kl rl tl sl) := hlog
  have eL2 : (LL.map Prod.fst).length = LL.length := List.length_map _
  have HBIG := HLOG.out.big
  clear h hd ht hBp hdir hlog
  go_enter Tryz.func121, Tryz.ntmps121
  go_wp2_with fail
  refine HLK.out.mono ?_
  rintro e w1 ⟨a0, k0, a1, k1, b1, rfl, ho0, ho1, hb0, hb1, hg1, hnil⟩
  have hga : w1.grownBy (w1.alloc (.cells #[.slice a0 (cpNums K).length k0, .slice a1 LL.length k1, .bool false] 169)) none := World.grownBy_alloc w1 _ none
  have hgw := hg1.trans hga
  have HGW : Hid (W0.grownBy (w1.alloc (.cells #[.slice a0 (cpNums K).length k0, .slice a1 LL.length k1, .bool false] 169)) none) := hgw
  have hpb : p < b1 := Nat.lt_of_lt_of_le HW.out.lt hb1
  have hs1 := SOwn.kept ho1 hga (by cases a1 <;> simp [Value.ownBlock])
  have HWA : Hid (WRow (w1.alloc (.cells #[.slice a0 (cpNums K).length k0, .slice a1 LL.length k1, .bool false] 169)) p d dir ⟨#[]⟩ (.slice none 0 0) 0) := HW.out.kept hgw (by simp)
  have HTA : Hid (Tab (w1.alloc (.cells #[.slice a0 (cpNums K).length k0, .slice a1 LL.length k1, .bool false] 169))) := HT.out.grown hgw
  have HDO : Hid (Calls Tryz.prog 151 #[.pointer (some ⟨p, 0, none⟩), FolderV (.slice a0 (cpNums K).length k0) (.slice a1 LL.length k1) false] (w1.alloc (.cells #[.slice a0 (cpNums K).length k0, .slice a1 LL.length k1, .bool false] 169)) fun e w' => e = .returned (.int .i64 (lastN K : Int)) ∧ WRow w' p d dir (cpName dir K) (.slice a1 LL.length k1) 0 ∧ (w1.alloc (.cells #[.slice a0 (cpNums K).length k0, .slice a1 LL.length k1, .bool false] 169)).grownBy w' (some p)) := by
    have := w_dropOld p d dir (.slice none 0 0) 0 K (LL.map Prod.fst) a0 a1 k0 k1 W0.heap.size b1 false (w1.alloc (.cells #[.slice a0 (cpNums K).length k0, .slice a1 LL.length k1, .bool false] 169)) (by omega) HTA.out HBIG HWA.out (SOwn.kept ho0 hga (by cases a0 <;> simp [Value.ownBlock])) hs1 HLOG.out.folder.segr.1 (fun k hk => by obtain ⟨q, hq, rfl⟩ := List.mem_map.1 hk; exact HLOG.out.above q hq) (by rw [eL2]; exact hln) hnil hpb
    rw [eL2] at this
    exact this
  rw [eL2] at hs1 ho1 ⊢
  have HS1 : Hid (SOwn intE 3 (w1.alloc (.cells #[.slice a0 (cpNums K).length k0, .slice a1 LL.length k1, .bool false] 169)) b1 (.slice a1 LL.length k1) LL.length (nI (LL.map Prod.fst))) := hs1
  have HB1 : Hid (∀ y, a1 = some y → y.block < w1.heap.size) := fun y hy => by subst hy; exact (ho1.block _ rfl).2
  have HNIL : Hid (LL.map Prod.fst = [] → a1 = none ∧ k1 = 0) := hnil
  clear ho0 ho1 hb0 hg1 hnil HLK hga hgw hs1
  unfold FolderV at HDO ⊢
  go_wp2_with fail
  refine HDO.out.mono ?_
  rintro e w3 ⟨rfl, hW3, hg3⟩
  have hgw3 : W0.grownBy w3 (some p) := gb_trans (gb_any HGW.out _) hg3 (fun k hk => .inr hk)
  have hs3 := SOwn.kept HS1.out hg3 (.inr (fun e => by have := (HS1.out.block _ e).1; omega))
  have hB3 : ∀ k, B k → ¬ (k = p) := fun k hk e => HB.out (e ▸ hk)
  have hL3 : LogAt w3 base d mb n x p dir (cpName dir K) (LL.map Prod.fst) 0 (fun k => k = p ∨ ∃ y, a1 = some y ∧ k = y.block) B := by
    refine ⟨HD.out.others (Kept.of hgw3 (X := fun k => k = p) (fun k hk => by cases hk; rfl)) hB3, ⟨a1, k1, by rw [eL2]; exact hW3, by rw [eL2]; exact (IOwn.of hs3).base (Nat.zero_le _), .inl rfl, fun y hy => ⟨.inr ⟨y, hy, rfl⟩, fun e => ?_⟩⟩, ?_, fun k hk => Nat.lt_of_lt_of_le (HLTB.out k hk) hgw3.size, ?_⟩
    · subst hy
      have := (HS1.out.block y.block rfl).1
      omega
    · rintro k (rfl | ⟨y, rfl, rfl⟩) hk
      · exact HB.out hk
      · have h1 := (HS1.out.block y.block rfl).1
        have h2 := HLTB.out _ hk
        omega
    · rintro k (rfl | ⟨y, rfl, rfl⟩)
      · exact hW3.lt
      · exact (hs3.block y.block rfl).2
  have HA : Hid (∀ k, (k = p ∨ ∃ y, a1 = some y ∧ k = y.block) → k = p ∨ W0.heap.size ≤ k) := by
    show ∀ k, _ → _
    rintro k (rfl | ⟨y, rfl, rfl⟩)
    · exact .inl rfl
    · exact .inr (Nat.le_trans hb1 (HS1.out.block y.block rfl).1)
  obtain ⟨A, eA⟩ : ∃ A : Nat → Prop, A = fun k => k = p ∨ ∃ y, a1 = some y ∧ k = y.block := ⟨_, rfl⟩
  rw [← eA] at hL3
  have HA : Hid (∀ k, A k → k = p ∨ W0.heap.size ≤ k) := by rw [eA]; exact HA.out
  have HRA : Hid (Calls Tryz.prog 152 #[.pointer (some ⟨p, 0, none⟩)] w3 (TornOut w3 base d mb n (x.delete (segN dir kl)).2 p dir (cpName dir K) (Ls.map Prod.fst) 0 A B (cpRecs K ++ recsOf LL))) := w_replayAllD base p d mb n dir (cpName dir K) 0 x A B K Ls LL kl rl tl sl w3 HDIR.out (HTA.out.row HWA.out hg3) HLOG.out.all hL3 HCALM.out hw hn HLOG.out.noNew HLOG.out.cp HLOG.out.whole HLOG.out.last HLOG.out.recs HTL.out HRL.out HLOG.out.num hsz hln (Nat.le_trans hb hgw3.size)
  have HG3 : Hid (W0.grownBy w3 (some p)) := hgw3
  have HLT3 : Hid (∀ k, A k ∨ B k → k < w3.heap.size) := fun k hk => hk.elim (hL3.ltA k) (hL3.ltB k)
  clear hL3 hW3 hg3 hgw3 hs3 HDO HS1 HWA HTA HGW hB3 eA HB1 HNIL
  go_wp2_with fail
  refine HRA.out.mono ?_
  rintro e w4 ⟨rv, m, n4, B4, rfl, hro, hn4, hL4, hS4⟩
  have HRO : Hid (RecsOut w3 w4 (slV rv) m (cpRecs K ++ recsOf LL)) := hro
  have HS4 : Hid (Step2 w3 w4 A B A B4) := hS4
  have hLa := hL4.setOpen (lastN K + 1) ((lastN K : Int) + 1) (by omega)
  have ERL : recsOf LL = recsOf Ls := by
    rw [HLOG.out.all, HRL.out]
    unfold recsOf
    rw [List.flatMap_append]
    simp
  rw [ERL] at HRO
  have eLs : (Ls.map Prod.fst).length = Ls.length := List.length_map _
  have hlnS : Ls.length ≤ 4194304 := by rw [HLOG.out.all, List.length_append] at hln; omega
  have HFIN : Hid (∀ w6 k, Kept w4 w6 (fun j => j = p) → LogAt w6 base d mb n4 (x.delete (segN dir kl)).2 p dir (cpName dir K) (Ls.map Prod.fst) k A B4 → Step2 w3 w6 A B A B4 → k = openN K Ls → TornMend base d mb n (x.delete (segN dir kl)).2 dir K Ls B W0 p rv w6 ∧ ∀ j, p < j → j < W0.heap.size → w6.heap[j]? = W0.heap[j]?) := by
    intro w6 k hk46 hLb hS6 hop
    have hp3 : p < w3.heap.size := Nat.lt_of_lt_of_le HW.out.lt HG3.out.size
    have hk06 : Kept W0 w6 (fun j => j = p ∨ B j) := (Kept.of HG3.out (X := fun j => j = p ∨ B j) (fun j hj => by cases hj; exact .inl rfl)).trans hS6.kept (fun j hj hX => hX.elim (fun ha => (HA.out j ha).elim .inl (fun h => by omega)) .inr)
    obtain ⟨ts, t1, t2, t3, t4⟩ := HRO.out.keptK hk46 (fun j hj e => by omega)
    exact ⟨⟨m, n4, A, B4, w3.heap.size, ⟨ts, t1, t2, t3, t4⟩, hn4, hop ▸ hLb, hk06, HA.out, fun j hj hb => hS6.oldB j (Nat.lt_of_lt_of_le hj HG3.out.size) hb, HG3.out.size⟩, fun j h1 h2 => hk06.block j h2 (fun hX => hX.elim (fun e => by omega) (fun hb => by have := HLP.out j hb; omega))⟩
  obtain ⟨a4, k4, hW4, _, _, _⟩ := hL4.wal
  obtain ⟨a5, k5, hW5, hso5, _, hay5⟩ := hLa.1.wal
  rw [eLs] at hW4 hW5 hso5
  have y4 := hW4.cells.2.2.2.2
  have z4 := hW4.frozen 4
  have y5 := hW5.cells.2.2.2.1
  have x5 := hW5.cells.2.2.2.2
  have z5 := hW5.frozen 4
  have q5 : -9223372036854775808 ≤ (lastN K : Int) + 1 ∧ (lastN K : Int) + 1 ≤ 9223372036854775807 := by omega
  have hka : Kept w4 (w4.setCell ⟨p, 4, none⟩ (.int .i64 ((lastN K : Int) + 1))) (fun j => j = p) := Kept.of (gb_set rfl) (fun j hj => by cases hj; rfl)
  rcases Nat.eq_zero_or_pos Ls.length with h0 | hpos
  · have hnil : Ls = [] := List.eq_nil_of_length_eq_zero h0
    rw [h0] at y5
    have HF2 : Hid (TornMend base d mb n (x.delete (segN dir kl)).2 dir K Ls B W0 p rv (w4.setCell ⟨p, 4, none⟩ (.int .i64 ((lastN K : Int) + 1))) ∧ ∀ j, p < j → j < W0.heap.size → (w4.setCell ⟨p, 4, none⟩ (.int .i64 ((lastN K : Int) + 1))).heap[j]? = W0.heap[j]?) := HFIN.out _ _ hka hLa.1 (hS4.trans hLa.2) (by rw [hnil]; rfl)
    clear hro hL4 hS4 hLa hW4 hW5 hso5 hay5 HRA HFIN hka
    go_wp2
    go_ret
    exact ⟨rv, rfl, HF2.out.1, HF2.out.2⟩
  · obtain ⟨L', eL'⟩ : ∃ L', Ls.length = L' + 1 := ⟨Ls.length - 1, by omega⟩
    obtain ⟨k, hk⟩ : ∃ k, (Ls.map Prod.fst)[Ls.length - 1]? = some k := ⟨_, List.getElem?_eq_getElem (by rw [eLs]; omega)⟩
    have HOP : Hid (k = openN K Ls) := by
      show _ = _
      unfold openN
      rw [List.getLast?_eq_getElem?, eLs, hk]
    have hLb := hLa.1.setOpen k (k : Int) rfl
    obtain ⟨b, off, rfl, hcell5⟩ := nI_cell hso5.rd hk
    rw [eL'] at y5
    rw [eL', show L' + 1 - 1 = L' from rfl] at hcell5
    have qL : (L' : Int) < (L' : Int) + 1 := by omega
    have hL4' : (L' : Int) ≤ 4194304 := by omega
    have HF2 : Hid (TornMend base d mb n (x.delete (segN dir kl)).2 dir K Ls B W0 p rv ((w4.setCell ⟨p, 4, none⟩ (.int .i64 ((lastN K : Int) + 1))).setCell ⟨p, 4, none⟩ (.int .i64 (k : Int))) ∧ ∀ j, p < j → j < W0.heap.size → ((w4.setCell ⟨p, 4, none⟩ (.int .i64 ((lastN K : Int) + 1))).setCell ⟨p, 4, none⟩ (.int .i64 (k : Int))).heap[j]? = W0.heap[j]?) := HFIN.out _ _ (Kept.of (gb_trans (gb_set rfl) (gb_set rfl) (fun j hj => .inr hj)) (fun j hj => by cases hj; rfl)) hLb.1 ((hS4.trans hLa.2).trans hLb.2) HOP.out
    clear hro hL4 hS4 hLa hLb hW4 hW5 hso5 hay5 hk HRA HFIN hka
    go_wp2
    go_ret
    exact ⟨rv, rfl, HF2.out.1, HF2.out.2⟩
theorem tornD_log {x : DSt} {dir : ByteArray} {K : Kp} {Ls LL : Sg} {kl : Nat} {rl : List (List Int)} {tl : List Int} {sl : Nat} (h : TornLog x.V dir K Ls LL kl rl tl sl) (hc : x.Calm) (hw : x.wn ≤ 999999980) : Log (x.delete (segN dir kl)).2.V dir K Ls ∧ (x.delete (segN dir kl)).2.Calm ∧ (x.delete (segN dir kl)).2.wn = x.wn + 1 := by
  rw [calm_del x hc _ _ h.last]
  refine ⟨?_, calm_next x hc (by omega) _, rfl⟩
  have h1 := h.folder.segr
  rw [h.all, List.map_append] at h1
  have hne : ∀ q ∈ Ls, q.1 ≠ kl := by
    intro q hq
    have h2 := h1.1
    rw [List.pairwise_append] at h2
    have := h2.2.2 q.1 (List.mem_map.2 ⟨q, hq, rfl⟩) kl (by simp)
    omega
  have hLs : ∀ q ∈ Ls, q ∈ LL := fun q hq => by rw [h.all]; simp [hq]
  show Log (setV x.V (segN dir kl) none) dir K Ls
  refine ⟨⟨h.folder.cpr, ⟨(List.pairwise_append.1 h1.1).1, fun k hk => h1.2 k (by simp [hk])⟩, fun s => ?_⟩, ?_, fun q hq => ?_, fun q hq => h.above q (hLs q hq), h.big⟩
  · have hm := h.folder.mem s
    have e0 : namesL dir (cpNums K) false (LL.map Prod.fst) = namesL dir (cpNums K) false (Ls.map Prod.fst) ++ [segN dir kl] := by
      rw [h.all]
      unfold namesL
      simp
    rw [e0, List.mem_append, List.mem_singleton] at hm
    by_cases e : s = segN dir kl
    · subst e
      rw [setV_same]
      constructor
      · rintro ⟨h2, _⟩
        cases h2
      · intro h2
        exfalso
        unfold namesL at h2
        simp only [Bool.false_eq_true, if_false, List.nil_append, List.mem_append, List.mem_map] at h2
        rcases h2 with ⟨j, _, e⟩ | ⟨j, ⟨q, hq, rfl⟩, e⟩
        · exact cp_ne_seg dir _ _ e
        · have h8 := h.folder.segr.2 q.1 (List.mem_map.2 ⟨q, hLs q hq, rfl⟩)
          exact hne q hq (seg_inj dir h8 h.num e)
    · rw [setV_other _ _ e, hm]
      simp [e]
  · have hcp := h.cp
    cases K with
    | none => exact hcp
    | some q =>
      obtain ⟨h1, ⟨syn, h2⟩, h3⟩ := hcp
      exact ⟨h1, ⟨syn, by rw [setV_other _ _ (cp_ne_seg dir q.1 kl)]; exact h2⟩, h3⟩
  · obtain ⟨⟨syn, h2⟩, h3, h4⟩ := h.whole q hq
    exact ⟨⟨syn, by rw [setV_other _ _ (fun e => hne q hq (seg_inj dir h4 h.num e))]; exact h2⟩, h3, h4⟩
set_option maxHeartbeats 4000000 in
theorem s_openT2 {W w : World} {d mb n : Nat} {x : DSt} {dir : ByteArray} {K : Kp} {Ls LL : Sg} {kl : Nat} {rl : List (List Int)} {tl : List Int} {sl : Nat} {B : Nat → Prop} (hd : DS w W.heap.size d mb n x B) (hT : TornLog x.V dir K Ls LL kl rl tl sl) (hc : x.Calm) (hfrom : W.grownBy w none) (hlow : ∀ k, B k → W.heap.size ≤ k) (hltB : ∀ k, B k → k < w.heap.size) (ht : Tab W) (hdir : dirB dir = true) (hw : x.wn ≤ 999999980) (hn : n < 1048576) (htl : tl ≠ []) (hrl : rl ≠ []) (hlb : (logB frameR rl).length ≤ 4194304) (hsz : (cpRecs K ++ recsOf LL).length ≤ 4194304) (hln : LL.length ≤ 4194304) :
    Calls Tryz.prog 80 #[.pointer (some ⟨d, 0, none⟩), .string dir] w fun e w' => ∃ (p : Nat) (v : Sl) (m lo n' : Nat) (x' : DSt) (B' : Nat → Prop), e = .returned (.tuple #[.pointer (some ⟨p, 0, none⟩), slV v, .int .i64 0]) ∧ De W w' d mb n' x' dir K LL B' ∧ RecsLo lo w' (slV v) m (cpRecs K ++ recsOf LL) ∧ n' ≤ n + 2 ∧ x'.wn ≤ x.wn + 3 ∧ Kept w w' B ∧ (∀ k, k < w.heap.size → B' k → B k) ∧ w.heap.size ≤ lo := by
  refine (w_openG d dir w hdir (fun W4 p v w5 => TornMend W.heap.size d mb n (putX x dir (segN dir kl) (logB frameR rl)) dir K LL B W4 p v w5) (fun W4 p hMI => ?_)).mono ?_
  · exact w_mendT W.heap.size d mb n dir x B K Ls LL kl rl tl sl w W4 p hdir (ht.grown (hfrom.trans hMI.grown)) hMI (DV.kept hd hMI.grown) (fun k hk => Nat.lt_of_lt_of_le (hltB k hk) hMI.new_) hc hw hn hT htl hrl hlb hsz hln (Nat.le_trans hfrom.size hMI.grown.size)
  · rintro e w' ⟨W4, p, v, w5, hMI, ⟨m, n', A, B', lo, h1, h2, h3, h4, h5, h6, h7⟩, rfl, rfl⟩
    have hk := openW_kept w5 p v
    obtain ⟨t1, t2, t3⟩ := torn_log hT hc hw
    have hBp : ∀ k, B' k → ¬ (k = p + 2 ∨ k = p + 3) := fun k hb hX => by
      have hs := hMI.size
      have := hltB k (h6 k (by omega) hb)
      have := hMI.new_
      omega
    obtain ⟨ts, r1, r2, r3, r4⟩ := h1
    have hs := hMI.size
    refine ⟨p, v, m, lo, n', _, B', rfl, ⟨h3.disk.others hk hBp, t1, t2, ?_, ?_, fun k hb => Nat.lt_of_lt_of_le (h3.ltB k hb) hk.size, ht⟩, ⟨ts, sown_keptK r1 hk (fun k hkb hX => by have := (r1.block k hkb).1; omega), r2.keptK hk (fun k hkl _ hX => by omega), r3, r4⟩, h2, by omega, ?_, fun k hkl hb => h6 k (Nat.lt_of_lt_of_le hkl hMI.grown.size) hb, Nat.le_trans hMI.grown.size h7⟩
    · have g4 := hfrom.trans hMI.grown
      refine ⟨hk.os.trans (h4.os.trans g4.os), hk.tape.trans (h4.tape.trans g4.tape), hk.output.trans (h4.output.trans g4.output), Nat.le_trans g4.size (Nat.le_trans h4.size hk.size), fun k hkl _ => ?_⟩
      have hkp : k < p := Nat.lt_of_lt_of_le hkl (Nat.le_trans hfrom.size hMI.new_)
      rw [hk.block k (by have := h4.size; omega) (by omega), h4.block k (by omega) (fun hX => hX.elim (fun e => by omega) (fun hb => by have := hlow k hb; omega))]
      exact g4.block k hkl (by simp)
    · intro k hb
      rcases Nat.lt_or_ge k W4.heap.size with hl | hl
      · exact hlow k (h6 k hl hb)
      · exact Nat.le_trans (Nat.le_trans hfrom.size hMI.grown.size) hl
    · have g4 := hMI.grown
      refine ⟨hk.os.trans (h4.os.trans g4.os), hk.tape.trans (h4.tape.trans g4.tape), hk.output.trans (h4.output.trans g4.output), Nat.le_trans g4.size (Nat.le_trans h4.size hk.size), fun k hkl hX => ?_⟩
      have hkp : k < p := Nat.lt_of_lt_of_le hkl hMI.new_
      rw [hk.block k (by have := h4.size; omega) (by omega), h4.block k (by omega) (fun hY => hY.elim (fun e => by omega) (fun hb => hX hb))]
      exact g4.block k hkl (by simp)
set_option maxHeartbeats 4000000 in
theorem s_openD2 {W w : World} {d mb n : Nat} {x : DSt} {dir : ByteArray} {K : Kp} {Ls LL : Sg} {kl : Nat} {rl : List (List Int)} {tl : List Int} {sl : Nat} {B : Nat → Prop} (hd : DS w W.heap.size d mb n x B) (hT : TornLog x.V dir K Ls LL kl rl tl sl) (hc : x.Calm) (hfrom : W.grownBy w none) (hlow : ∀ k, B k → W.heap.size ≤ k) (hltB : ∀ k, B k → k < w.heap.size) (ht : Tab W) (hdir : dirB dir = true) (hw : x.wn ≤ 999999980) (hn : n < 1048576) (htl : tl ≠ []) (hrl : rl = []) (hsz : (cpRecs K ++ recsOf LL).length ≤ 4194304) (hln : LL.length ≤ 4194304) :
    Calls Tryz.prog 80 #[.pointer (some ⟨d, 0, none⟩), .string dir] w fun e w' => ∃ (p : Nat) (v : Sl) (m lo n' : Nat) (x' : DSt) (B' : Nat → Prop), e = .returned (.tuple #[.pointer (some ⟨p, 0, none⟩), slV v, .int .i64 0]) ∧ De W w' d mb n' x' dir K Ls B' ∧ RecsLo lo w' (slV v) m (cpRecs K ++ recsOf Ls) ∧ n' ≤ n + 2 ∧ x'.wn ≤ x.wn + 3 ∧ Kept w w' B ∧ (∀ k, k < w.heap.size → B' k → B k) ∧ w.heap.size ≤ lo := by
  refine (w_openG d dir w hdir (fun W4 p v w5 => TornMend W.heap.size d mb n (x.delete (segN dir kl)).2 dir K Ls B W4 p v w5) (fun W4 p hMI => ?_)).mono ?_
  · exact w_mendD W.heap.size d mb n dir x B K Ls LL kl rl tl sl w W4 p hdir (ht.grown (hfrom.trans hMI.grown)) hMI (DV.kept hd hMI.grown) (fun k hk => Nat.lt_of_lt_of_le (hltB k hk) hMI.new_) hc hw hn hT htl hrl hsz hln (Nat.le_trans hfrom.size hMI.grown.size)
  · rintro e w' ⟨W4, p, v, w5, hMI, ⟨m, n', A, B', lo, h1, h2, h3, h4, h5, h6, h7⟩, rfl, rfl⟩
    have hk := openW_kept w5 p v
    obtain ⟨t1, t2, t3⟩ := tornD_log hT hc hw
    have hBp : ∀ k, B' k → ¬ (k = p + 2 ∨ k = p + 3) := fun k hb hX => by
      have hs := hMI.size
      have := hltB k (h6 k (by omega) hb)
      have := hMI.new_
      omega
    obtain ⟨ts, r1, r2, r3, r4⟩ := h1
    have hs := hMI.size
    refine ⟨p, v, m, lo, n', _, B', rfl, ⟨h3.disk.others hk hBp, t1, t2, ?_, ?_, fun k hb => Nat.lt_of_lt_of_le (h3.ltB k hb) hk.size, ht⟩, ⟨ts, sown_keptK r1 hk (fun k hkb hX => by have := (r1.block k hkb).1; omega), r2.keptK hk (fun k hkl _ hX => by omega), r3, r4⟩, h2, by omega, ?_, fun k hkl hb => h6 k (Nat.lt_of_lt_of_le hkl hMI.grown.size) hb, Nat.le_trans hMI.grown.size h7⟩
    · have g4 := hfrom.trans hMI.grown
      refine ⟨hk.os.trans (h4.os.trans g4.os), hk.tape.trans (h4.tape.trans g4.tape), hk.output.trans (h4.output.trans g4.output), Nat.le_trans g4.size (Nat.le_trans h4.size hk.size), fun k hkl _ => ?_⟩
      have hkp : k < p := Nat.lt_of_lt_of_le hkl (Nat.le_trans hfrom.size hMI.new_)
      rw [hk.block k (by have := h4.size; omega) (by omega), h4.block k (by omega) (fun hX => hX.elim (fun e => by omega) (fun hb => by have := hlow k hb; omega))]
      exact g4.block k hkl (by simp)
    · intro k hb
      rcases Nat.lt_or_ge k W4.heap.size with hl | hl
      · exact hlow k (h6 k hl hb)
      · exact Nat.le_trans (Nat.le_trans hfrom.size hMI.grown.size) hl
    · have g4 := hMI.grown
      refine ⟨hk.os.trans (h4.os.trans g4.os), hk.tape.trans (h4.tape.trans g4.tape), hk.output.trans (h4.output.trans g4.output), Nat.le_trans g4.size (Nat.le_trans h4.size hk.size), fun k hkl hX => ?_⟩
      have hkp : k < p := Nat.lt_of_lt_of_le hkl hMI.new_
      rw [hk.block k (by have := h4.size; omega) (by omega), h4.block k (by omega) (fun hY => hY.elim (fun e => by omega) (fun hb => hX hb))]
      exact g4.block k hkl (by simp)
end Go.Proofs.YtgpgkpciajajcaaGreatDoor

