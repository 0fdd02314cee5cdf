/- Several texts in one: Zp, Zq. -/
import Derived.Test.YtekejnjaiccnbaaGreatDoorYf
import Derived.Test.YtekejnjaiccnbaaGreatDoorNj
/- The document's Name; CopyLists; Open of any name. -/
namespace Go.Proofs.YtekejnjaiccnbaaGreatDoor
open Go.RowKit Go.Maps Go.Sort
set_option linter.unusedVariables false
set_option maxRecDepth 20000

set_option maxHeartbeats 4000000 in
theorem r_name (s : ByteArray) (hs : (s.size : Int) ≤ 9223372036854775807) (w : World) : Calls Tryz.prog 28 #[.string s] w fun e w' => e = .returned (.bool (nameB s)) ∧ w = w' := by
  by_cases h1 : 1 ≤ s.size
  · by_cases h2 : s.size ≤ 64
    · have q1 : decide ((s.size : Int) < 1) = false := by simp; omega
      have q2 : decide ((64 : Int) < (s.size : Int)) = false := by simp; omega
      have hix := fun i hi w => idx9 s i hi w
      have HN : Hid (nameB s = (sInts s).all nameC) := by
        show _ = _
        unfold nameB
        rw [decide_eq_true h1, decide_eq_true h2]
        simp
      go_enter Tryz.func28, Tryz.ntmps28
      go_wp2
      go_loopw [3] (fun i wr => ∃ k : Nat, k ≤ s.size ∧ i = .int .i64 k ∧ ((sInts s).take k).all nameC = true ∧ wr = w) (fun i _ => s.size - (intOf i).toNat)
      case atStart => exact ⟨0, Nat.zero_le _, rfl, rfl, rfl⟩
      case round =>
        obtain ⟨k, hk, rfl, hall, rfl⟩ := hrel
        have HALL : Hid (((sInts s).take k).all nameC = true) := hall
        clear hall
        by_cases hlt : k < s.size
        · have hi : (k : Int) < (s.size : Int) := by omega
          have hix2 := hix k hlt wr
          have hT : ((sInts s).take (k + 1)).all nameC = (((sInts s).take k).all nameC && nameC (byteAt s k)) := all_take s k hlt
          obtain ⟨z, ez⟩ : ∃ z, z = byteAt s k := ⟨_, rfl⟩
          rw [← ez] at hix2 hT
          have HT : Hid (((sInts s).take (k + 1)).all nameC = (((sInts s).take k).all nameC && nameC z)) := hT
          clear hix ez hT
          cases hc : nameC z with
          | true =>
            have HC : Hid (((sInts s).take (k + 1)).all nameC = true) := by show _ = _; rw [HT.out, HALL.out, hc]; rfl
            clear HT
            unfold nameC at hc
            simp only [Bool.or_eq_true, Bool.and_eq_true, decide_eq_true_eq] at hc
            rcases hc with (((⟨a1, a2⟩ | ⟨a1, a2⟩) | rfl) | rfl) | rfl
            · have b1 : (97 : Int) ≤ z := by omega
              have b2 : z ≤ 122 := by omega
              go_wp2
              go_roundw
              case rel => exact ⟨k + 1, by omega, by go_num, HC.out, (by trivial)⟩
              case measure => simp [intOf]; omega
            · have b0 : ¬ (97 : Int) ≤ z := by omega
              have b1 : (48 : Int) ≤ z := by omega
              have b2 : z ≤ 57 := by omega
              go_wp2
              go_roundw
              case rel => exact ⟨k + 1, by omega, by go_num, HC.out, (by trivial)⟩
              case measure => simp [intOf]; omega
            · go_wp2
              go_roundw
              case rel => exact ⟨k + 1, by omega, by go_num, HC.out, (by trivial)⟩
              case measure => simp [intOf]; omega
            · go_wp2
              go_roundw
              case rel => exact ⟨k + 1, by omega, by go_num, HC.out, (by trivial)⟩
              case measure => simp [intOf]; omega
            · go_wp2
              go_roundw
              case rel => exact ⟨k + 1, by omega, by go_num, HC.out, (by trivial)⟩
              case measure => simp [intOf]; omega
          | false =>
            have HC : Hid ((sInts s).all nameC = false) := by
              show _ = _
              rw [← List.take_append_drop (k + 1) (sInts s), List.all_append, HT.out, HALL.out, hc]
              rfl
            clear HT
            have hn : ¬ (((((97 ≤ z ∧ z ≤ 122) ∨ (48 ≤ z ∧ z ≤ 57)) ∨ z = 47) ∨ z = 46) ∨ z = 45) := by
              intro h
              have : nameC z = true := by
                unfold nameC
                simp only [Bool.or_eq_true, Bool.and_eq_true, decide_eq_true_eq]
                exact h
              rw [this] at hc
              cases hc
            have e1 : (z == 47) = false := by simp; omega
            have e2 : (z == 46) = false := by simp; omega
            have e3 : (z == 45) = false := by simp; omega
            rcases Int.lt_or_le z 97 with g1 | g1
            · have b1 : ¬ (97 : Int) ≤ z := by omega
              rcases Int.lt_or_le z 48 with g2 | g2
              · have b2 : ¬ (48 : Int) ≤ z := by omega
                clear hc hn
                go_wp2
                go_ret
                exact ⟨ret_bool (by rw [HN.out, HC.out]), rfl⟩
              · have b2 : (48 : Int) ≤ z := by omega
                have b3 : ¬ z ≤ 57 := by omega
                clear hc hn
                go_wp2
                go_ret
                exact ⟨ret_bool (by rw [HN.out, HC.out]), rfl⟩
            · have b1 : (97 : Int) ≤ z := by omega
              have b2 : ¬ z ≤ 122 := by omega
              have b3 : (48 : Int) ≤ z := by omega
              have b4 : ¬ z ≤ 57 := by omega
              clear hc hn
              go_wp2
              go_ret
              exact ⟨ret_bool (by rw [HN.out, HC.out]), rfl⟩
        · have hkk : k = s.size := by omega
          have HC : Hid ((sInts s).all nameC = true) := by
            have h := HALL.out
            rw [hkk, ← sInts_len s, List.take_length] at h
            exact h
          have hi : ¬ (k : Int) < (s.size : Int) := by omega
          clear hix
          go_wp2
          go_ret
          exact ⟨ret_bool (by rw [HN.out, HC.out]), rfl⟩
    · have q1 : decide ((s.size : Int) < 1) = false := by simp; omega
      have q2 : decide ((64 : Int) < (s.size : Int)) = true := by simp; omega
      have HN : Hid (nameB s = false) := by
        show _ = _
        unfold nameB
        rw [decide_eq_false h2]
        simp
      go_enter Tryz.func28, Tryz.ntmps28
      go_wp2
      go_ret
      exact ⟨ret_bool HN.out.symm, rfl⟩
  · have q1 : decide ((s.size : Int) < 1) = true := by simp; omega
    have HN : Hid (nameB s = false) := by
      show _ = _
      unfold nameB
      rw [decide_eq_false h1]
      simp
    go_enter Tryz.func28, Tryz.ntmps28
    go_wp2
    go_ret
    exact ⟨ret_bool HN.out.symm, rfl⟩
set_option maxHeartbeats 4000000 in
theorem l_copyLists (a : Option Addr) (ts : List Sl) (recs : List (List Int)) (N c : Nat) (W w : World) (hr : RecsIn W a ts recs) (hg : W.grownBy w none) (hN : recs.length = N) (hN4 : N ≤ 4194304) :
    Calls Tryz.prog 24 #[.slice a N c] w fun e w' => ∃ v : Sl, e = .returned (slV v) ∧ RecsLo w.heap.size w' (slV v) N recs ∧ w.grownBy w' none := by
  have HR : Hid (RecsIn W a ts recs) := hr
  have HG0 : Hid (W.grownBy w none) := hg
  have HN : Hid (recs.length = N) := hN
  clear hr hg hN
  go_enter Tryz.func24, Tryz.ntmps24
  go_wp2_with fail
  go_loopw [3, 4] (fun t3 t4 wr => ∃ (i : Nat) (v : Sl) (ts' : List Sl), i ≤ N ∧ t3 = .slice v.1 v.2.1 v.2.2 ∧ t4 = .int .i64 i ∧ SOwn slE 27 wr w.heap.size (slV v) i ts' ∧ RecsAt wr w.heap.size (slV v).ownBlock ts' (recs.take i) ∧ w.grownBy wr none ∧ (i = 0 → v = (none, 0, 0))) (fun _ t4 _ => N - (intOf t4).toNat)
  case atStart => exact ⟨0, (none, 0, 0), [], Nat.zero_le _, rfl, rfl, SOwn.nil 27 _ _, trivial, World.grownBy.refl _ _, fun _ => rfl⟩
  case round =>
    obtain ⟨i, v, ts', hi, rfl, rfl, hso, hre, hgr, hi0⟩ := hrel
    have HSO : Hid (SOwn slE 27 wr w.heap.size (slV v) i ts') := hso
    have HRE : Hid (RecsAt wr w.heap.size (slV v).ownBlock ts' (recs.take i)) := hre
    have HG : Hid (w.grownBy wr none) := hgr
    have HI0 : Hid (i = 0 → v = (none, 0, 0)) := hi0
    clear hi0
    by_cases hlt : i < N
    · have hii : (i : Int) < (N : Int) := by omega
      obtain ⟨b1, o1, t, r, rfl, hcl, hri, hl, hrd, hnil, hlen⟩ := HR.out.get (i := i) (by rw [HN.out]; exact hlt)
      obtain ⟨ta, tn, tc⟩ := t
      dsimp only at hcl hl hrd hnil
      have c1 := hcl wr (HG0.out.trans hgr)
      have HTK : Hid (recs.take (i + 1) = recs.take i ++ [r]) := by show _ = _; rw [List.take_add_one, hri]; rfl
      have HC : Hid (Calls Tryz.prog 18 #[.slice ta tn tc] wr fun e w' => ∃ g c, e = .returned (.slice (some ⟨g, 0, none⟩) tn c) ∧ Own w' wr.heap.size g tn c r ∧ wr.grownBy w' none) := by
        show Calls _ _ _ _ _
        rw [hl]
        exact copy_any ta r tc wr (hrd.grown (HG0.out.trans hgr) (by simp)) hnil (by omega)
      have HL : Hid (tn = r.length) := hl
      clear hso hre hgr hcl hri hl hrd hnil
      obtain ⟨va, vn, vc⟩ := v
      go_wp2_with fail
      refine HC.out.mono ?_
      rintro e w2 ⟨g2, c2, rfl, hown, hg2⟩
      have HOWN : Hid (Own w2 wr.heap.size g2 tn c2 r) := hown
      have HG2 : Hid (wr.grownBy w2 none) := hg2
      have hsz : w.heap.size ≤ w2.heap.size + 1 := by have h1 := HG.out.size; have h2 := hg2.size; omega
      have HSO2 : Hid (SOwn slE 27 (w2.alloc (.cells #[.slice (some ⟨g2, 0, none⟩) tn c2] 27)) w.heap.size (slV (va, vn, vc)) i ts') := SOwn.kept HSO.out (hg2.trans (World.grownBy_alloc w2 _ none)) (by cases va <;> simp [slV, Value.ownBlock])
      clear hown hg2 HC
      go_wp2_with (at_builtin; refine wpList_append_t slET rfl (.tmp 11) (.tmp 17) rfl w.heap.size (slV (va, vn, vc)) i ts' rfl HSO2.out ⟨w2.heap.size, 0, none⟩ [(some ⟨g2, 0, none⟩, tn, c2)] 1 1 rfl rfl (sllit w2 [(some ⟨g2, 0, none⟩, tn, c2)]) (by omega) (by omega) (by unfold maxLen; omega) (by rw [show ((w2.alloc (.cells #[.slice (some ⟨g2, 0, none⟩) tn c2] 27)).heap.size) = w2.heap.size + 1 from Array.size_push _]; exact hsz) ?_; intro g3 k3 w3 ho3 hg3 hgg; have HO3 : Hid (SOwn slE 27 w3 w.heap.size (.slice (some ⟨g3, 0, none⟩) (i + 1) k3) (i + 1) (ts' ++ [(some ⟨g2, 0, none⟩, tn, c2)])) := ho3; have HG3 : Hid ((w2.alloc (.cells #[.slice (some ⟨g2, 0, none⟩) tn c2] 27)).grownBy w3 (Value.ownBlock (slV (va, vn, vc)))) := hg3; have HGG : Hid (Value.ownBlock (slV (va, vn, vc)) = some g3 ∨ g3 = (w2.alloc (.cells #[.slice (some ⟨g2, 0, none⟩) tn c2] 27)).heap.size) := hgg; clear ho3 hg3 hgg)
      go_roundw
      case rel =>
        refine ⟨i + 1, (some ⟨g3, 0, none⟩, i + 1, k3), ts' ++ [((some (⟨g2, 0, none⟩ : Addr)), tn, c2)], by omega, rfl, by go_num, HO3.out, ?_, ?_, fun h => by omega⟩
        · rw [HTK.out]
          have hal := World.grownBy_alloc w2 (.cells #[.slice (some ⟨g2, 0, none⟩) tn c2] 27) none
          have hbl := HSO.out.block
          have hsa : (w2.alloc (.cells #[.slice (some ⟨g2, 0, none⟩) tn c2] 27)).heap.size = w2.heap.size + 1 := Array.size_push _
          have ho : ∀ k', (slV (some ⟨g3, 0, none⟩, i + 1, k3)).ownBlock = some k' → (w2.alloc (.cells #[.slice (some ⟨g2, 0, none⟩) tn c2] 27)).heap.size ≤ k' ∨ (slV (va, vn, vc)).ownBlock = some k' := fun k' hk => by
            have e : g3 = k' := Option.some.inj hk
            subst e
            rcases HGG.out with h | h
            · exact .inr h
            · exact .inl (Nat.le_of_eq h.symm)
          refine RecsAt.app ((HRE.out.kept (HG2.out.trans hal) (fun k hk => by cases hk)).step HG3.out ho) ⟨?_, trivial⟩
          have hge := HOWN.out.ge
          have hcap := HOWN.out.cap
          refine ⟨HL.out, by have := HL.out; dsimp only; omega, (fun h => by cases h), ?_, ?_⟩
          · refine rd_block HOWN.out.rd (fun hr x hx => ?_)
            have hx' : x = ⟨g2, 0, none⟩ := (Option.some.inj hx).symm
            subst hx'
            show w3.heap[g2]? = w2.heap[g2]?
            rw [HG3.out.block g2 (by omega) (fun e => by have h1 := (hbl _ e.symm).2; omega)]
            exact hal.block g2 hge.2 (by simp)
          · intro hr x hx
            have hx' : x = ⟨g2, 0, none⟩ := (Option.some.inj hx).symm
            subst hx'
            have hg1 := HG.out.size
            refine ⟨by show w.heap.size ≤ g2; omega, fun e => ?_⟩
            have e' : g2 = g3 := Option.some.inj e
            rcases HGG.out with h | h
            · have h1 := (hbl _ h).2
              omega
            · omega
        · exact gb_trans (gb_trans (HG.out.trans HG2.out) (World.grownBy_alloc w2 _ none) (fun k hk => by cases hk)) HG3.out (fun k hk => .inl (HSO.out.block k hk).1)
      case measure => simp [intOf]; omega
    · have hii : ¬ (i : Int) < (N : Int) := by omega
      have hiN : i = N := by omega
      subst hiN
      have htake : recs.take i = recs := List.take_of_length_le (by rw [HN.out]; exact Nat.le_refl _)
      rw [htake] at hre
      have HF : Hid (RecsLo w.heap.size wr (slV v) i recs) := ⟨ts', hso, hre, HN.out.symm, fun h => by rw [HI0.out (by rw [← HN.out, h]; rfl)]; rfl⟩
      clear hso hre hgr
      go_wp2
      go_ret
      exact ⟨v.1, v.2.1, v.2.2, rfl, HF.out, HG.out⟩
set_option maxHeartbeats 4000000 in
theorem w_openNot (d : Nat) (dir : ByteArray) (w : World) (hs : dir.size ≤ 1048576) (hdir : dirB dir = false) :
    Calls Tryz.prog 13 #[.pointer (some ⟨d, 0, none⟩), .string dir] w fun e w' => e = .returned (.tuple #[.pointer none, .slice none 0 0, .int .i64 71]) ∧ w.grownBy w' none := by
  have HIF : Hid (Calls Tryz.prog 42 #[.string dir] w fun e w' => e = .returned (.bool false) ∧ w.grownBy w' none) := by
    have := w_isFolder dir (by omega) w
    rw [hdir] at this
    exact this
  go_enter Tryz.func13, Tryz.ntmps13
  go_wp2_with fail
  refine HIF.out.mono ?_
  rintro e w1 ⟨rfl, hg1⟩
  have HG1 : Hid (w.grownBy w1 none) := hg1
  clear hg1 HIF
  go_wp2
  go_ret3
  exact ⟨rfl, HG1.out⟩
end Go.Proofs.YtekejnjaiccnbaaGreatDoor

/- Two logs on one disk. -/
namespace Go.Proofs.YtekejnjaiccnbaaGreatDoor
open Go.RowKit Go.Maps Go.Sort
set_option linter.unusedVariables false
set_option maxRecDepth 20000

theorem RecsAt.get {w : World} {lo : Nat} {o : Option Nat} : ∀ {ts : List Sl} {rs : List (List Int)}, RecsAt w lo o ts rs → ∀ (j : Nat) (t : Sl) (r : List Int), ts[j]? = some t → rs[j]? = some r → RecAt w lo o t r
  | t :: ts, r :: rs, h, 0, t', r', ht, hr => by
    simp only [List.getElem?_cons_zero, Option.some.injEq] at ht hr
    subst ht hr
    exact h.1
  | t :: ts, r :: rs, h, j + 1, t', r', ht, hr => RecsAt.get h.2 j t' r' (by simpa using ht) (by simpa using hr)
  | [], _, _, _, _, _, ht, _ => by simp at ht
/-- A log is told by the files of its folder. -/
theorem Log.congr {V V' : Cont} {dir : ByteArray} {K : Kp} {Ls : Sg} (h : Log V dir K Ls) (he : ∀ s : ByteArray, Lib.hasPrefix s.data.toList (inN dir).data.toList = true → V' s = V s) : Log V' dir K Ls := by
  refine ⟨⟨h.folder.cpr, h.folder.segr, fun t => ?_⟩, ?_, fun q hq => ?_, h.above, h.big⟩
  · rw [← h.folder.mem t]
    constructor
    · rintro ⟨h1, h2⟩
      exact ⟨by rw [← he t h2]; exact h1, h2⟩
    · rintro ⟨h1, h2⟩
      exact ⟨by rw [he t h2]; exact h1, h2⟩
  · have hcp := h.cp
    cases K with
    | none => exact hcp
    | some q =>
      obtain ⟨h1, ⟨syn, h2⟩, h3⟩ := hcp
      exact ⟨h1, ⟨syn, by rw [he _ (cp_in dir q.1)]; exact h2⟩, h3⟩
  · obtain ⟨⟨syn, h2⟩, h3, h4⟩ := h.whole q hq
    exact ⟨⟨syn, by rw [he _ (seg_in dir q.1)]; exact h2⟩, h3, h4⟩
/-- Names of one folder are none of the other. -/
def Apart (dir dir2 : ByteArray) : Prop := ∀ s : ByteArray, Lib.hasPrefix s.data.toList (inN dir2).data.toList = true → Lib.hasPrefix s.data.toList (inN dir).data.toList = false
theorem appX_away {x : DSt} {dir : ByteArray} {op : Nat} {rec : List Int} (hc : x.Calm) (hw : x.wn ≤ 999999980) {s : ByteArray} (hs : Lib.hasPrefix s.data.toList (inN dir).data.toList = false) : (appX x dir op rec).V s = x.V s := by
  have hne : ∀ k, s ≠ segN dir k := fun k e => by
    rw [e, seg_in] at hs
    cases hs
  have h1 : (rollX x dir op).1.V s = x.V s ∧ (rollX x dir op).1.Calm := by
    unfold rollX
    cases hV : x.V (segN dir op) with
    | none => exact ⟨rfl, hc⟩
    | some q =>
      dsimp only
      split
      · rw [calm_sync x hc (segN dir op) q hV]
        exact ⟨setV_other _ _ (hne op), calm_next x hc (by omega) _⟩
      · exact ⟨rfl, hc⟩
  unfold appX
  rw [calm_app _ h1.2]
  exact (setV_other _ _ (hne _)).trans h1.1
/-- Two logs open over one disk. -/
structure S2 (W w : World) (d mb n : Nat) (x : DSt) (p : Nat) (dir : ByteArray) (Ls : Sg) (A : Nat → Prop) (q : Nat) (dir2 : ByteArray) (Ls2 : Sg) (A2 B : Nat → Prop) : Prop where
  one : Se W w d mb n x p dir none Ls A B
  wal : WalA w q d dir2 (cpName dir2 none) (Ls2.map Prod.fst) (openN none Ls2) A2
  log : Log x.V dir2 none Ls2
  apart : ∀ k, A2 k → ¬ A k ∧ ¬ B k
  lt : ∀ k, A2 k → k < w.heap.size ∧ W.heap.size ≤ k
theorem S2.swap {W w : World} {d mb n : Nat} {x : DSt} {p : Nat} {dir : ByteArray} {Ls : Sg} {A : Nat → Prop} {q : Nat} {dir2 : ByteArray} {Ls2 : Sg} {A2 B : Nat → Prop} (h : S2 W w d mb n x p dir Ls A q dir2 Ls2 A2 B) : S2 W w d mb n x q dir2 Ls2 A2 p dir Ls A B :=
  ⟨⟨⟨h.one.at_.disk, h.wal, fun k ha => (h.apart k ha).2, h.one.at_.ltB, fun k ha => (h.lt k ha).1⟩, h.log, h.one.calm, h.one.from_, fun k hk => hk.elim (fun ha => (h.lt k ha).2) (fun hb => h.one.low k (.inr hb)), h.one.tab⟩, h.one.at_.wal, h.one.log, fun k ha => ⟨fun ha2 => (h.apart k ha2).1 ha, h.one.at_.apart k ha⟩, fun k ha => ⟨h.one.at_.ltA k ha, h.one.low k (.inl ha)⟩⟩
theorem S2.grown {W w w' : World} {d mb n : Nat} {x : DSt} {p : Nat} {dir : ByteArray} {Ls : Sg} {A : Nat → Prop} {q : Nat} {dir2 : ByteArray} {Ls2 : Sg} {A2 B : Nat → Prop} (h : S2 W w d mb n x p dir Ls A q dir2 Ls2 A2 B) (hg : w.grownBy w' none) : S2 W w' d mb n x p dir Ls A q dir2 Ls2 A2 B :=
  ⟨h.one.grown hg, h.wal.kept (Kept.of hg (X := fun _ => False) (fun k hk => by cases hk)) (fun _ _ h => h), h.log, h.apart, fun k ha => ⟨Nat.lt_of_lt_of_le (h.lt k ha).1 hg.size, (h.lt k ha).2⟩⟩
/-- Append to one of them. -/
theorem s2_append {W w : World} {d mb n : Nat} {x : DSt} {p : Nat} {dir : ByteArray} {Ls : Sg} {A : Nat → Prop} {q : Nat} {dir2 : ByteArray} {Ls2 : Sg} {A2 B : Nat → Prop} (h : S2 W w d mb n x p dir Ls A q dir2 Ls2 A2 B) (hdir : dirB dir = true) (hap : Apart dir dir2) (a : Option Addr) (zs : List Int) (L cap : Nat) (hw : x.wn ≤ 999999900) (hop : openN none Ls < 99999998) (hn : n < 1048576) (hsg : Ls.length ≤ 4194304) (hr : Rd w a zs) (hL : zs.length = L) (hnil : a = none → cap = 0) (hz : L ≤ 65536) :
    Calls Tryz.prog 17 #[.pointer (some ⟨p, 0, none⟩), .slice a L cap] w fun e w' => e = .returned (.int .i64 0) ∧ ∃ n' x' A' B', n' ≤ n + 1 ∧ x'.wn ≤ x.wn + 2 ∧ S2 W w' d mb n' x' p dir (addL none Ls zs) A' q dir2 Ls2 A2 B' := by
  refine (s_append h.one hdir a zs L cap hw hop hn hsg hr hL hnil hz).mono ?_
  rintro e w' ⟨rfl, n', A', B', k1, k2, k3, k4⟩
  refine ⟨rfl, n', _, A', B', k1, k2, k3, h.wal.kept k4.kept (fun k ha hX => hX.elim (h.apart k ha).1 (h.apart k ha).2), h.log.congr (fun s hs => appX_away h.one.calm (by omega) (hap s hs)), fun k ha => ⟨fun h' => (h.apart k ha).1 (k4.oldA k (h.lt k ha).1 h'), fun h' => (h.apart k ha).2 (k4.oldB k (h.lt k ha).1 h')⟩, fun k ha => ⟨Nat.lt_of_lt_of_le (h.lt k ha).1 k4.kept.size, (h.lt k ha).2⟩⟩
def dirY : ByteArray := ⟨#[121, 47, 122]⟩
theorem dirY_ok : dirB dirY = true := by decide
theorem apartXY : Apart dirX dirY := by
  intro s hs
  unfold Lib.hasPrefix at hs ⊢
  rw [List.isPrefixOf_iff_prefix] at hs
  obtain ⟨t, e⟩ := hs
  rw [← e]
  rfl
theorem apartYX : Apart dirY dirX := by
  intro s hs
  unfold Lib.hasPrefix at hs ⊢
  rw [List.isPrefixOf_iff_prefix] at hs
  obtain ⟨t, e⟩ := hs
  rw [← e]
  rfl
/-- The two logs, with their records. -/
def FoAt (W wr : World) (d mb p q : Nat) (ra rb : List (List Int)) : Prop := ∃ (n : Nat) (x : DSt) (Ls Ls2 : Sg) (A A2 B : Nat → Prop),
  S2 W wr d mb n x p dirX Ls A q dirY Ls2 A2 B ∧ recsOf Ls = ra ∧ recsOf Ls2 = rb ∧ n ≤ ra.length + rb.length ∧ x.wn ≤ 2 * ((ra.length + rb.length : Nat) : Int) ∧ openN none Ls ≤ ra.length + 1 ∧ openN none Ls2 ≤ rb.length + 1 ∧ Ls.length ≤ ra.length ∧ Ls2.length ≤ rb.length
theorem FoAt.from_ {W w : World} {d mb p q : Nat} {ra rb : List (List Int)} (h : FoAt W w d mb p q ra rb) : W.grownBy w none := by
  obtain ⟨n, x, Ls, Ls2, A, A2, B, h1, _⟩ := h
  exact h1.one.from_
theorem FoAt.grown {W w w' : World} {d mb p q : Nat} {ra rb : List (List Int)} (h : FoAt W w d mb p q ra rb) (hg : w.grownBy w' none) : FoAt W w' d mb p q ra rb := by
  obtain ⟨n, x, Ls, Ls2, A, A2, B, h1, h2⟩ := h
  exact ⟨n, x, Ls, Ls2, A, A2, B, h1.grown hg, h2⟩
theorem openN_add {W w : World} {d mb n : Nat} {x : DSt} {p : Nat} {dir : ByteArray} {Ls : Sg} {A B : Nat → Prop} (h : Se W w d mb n x p dir none Ls A B) (r : List Int) (hw : x.wn ≤ 999999980) (hr : r.length ≤ 65536) (hop : openN none Ls < 99999998) : openN none (addL none Ls r) ≤ openN none Ls + 1 := by
  have had := log_add (rec := r) h.log h.calm hw hr hop
  rw [← had.op]
  exact rollX_le x dir _
theorem fo_appendX {W w : World} {d mb p q : Nat} {ra rb : List (List Int)} (h : FoAt W w d mb p q ra rb) (a : Option Addr) (r : List Int) (L c : Nat) (hr : Rd w a r) (hL : r.length = L) (hnil : a = none → c = 0) (hz : L ≤ 65536) (hi : ra.length + rb.length < 1048576) :
    Calls Tryz.prog 17 #[.pointer (some ⟨p, 0, none⟩), .slice a L c] w fun e w' => e = .returned (.int .i64 0) ∧ FoAt W w' d mb p q (ra ++ [r]) rb := by
  obtain ⟨n, x, Ls, Ls2, A, A2, B, h1, h2, h3, h4, h5, h6, h7, h8, h9⟩ := h
  have hop := openN_add h1.one r (by omega) (by omega) (by omega)
  have hlen := addL_len none Ls r
  refine (s2_append h1 dirX_ok apartXY a r L c (by omega) (by omega) (by omega) (by omega) hr hL hnil hz).mono ?_
  rintro e w' ⟨rfl, n', x', A', B', k1, k2, k3⟩
  exact ⟨rfl, n', x', _, Ls2, A', A2, B', k3, by rw [recsOf_add, h2], h3, by simp; omega, by simp; omega, by simp; omega, h7, by simp; omega, h9⟩
theorem fo_appendY {W w : World} {d mb p q : Nat} {ra rb : List (List Int)} (h : FoAt W w d mb p q ra rb) (a : Option Addr) (r : List Int) (L c : Nat) (hr : Rd w a r) (hL : r.length = L) (hnil : a = none → c = 0) (hz : L ≤ 65536) (hi : ra.length + rb.length < 1048576) :
    Calls Tryz.prog 17 #[.pointer (some ⟨q, 0, none⟩), .slice a L c] w fun e w' => e = .returned (.int .i64 0) ∧ FoAt W w' d mb p q ra (rb ++ [r]) := by
  obtain ⟨n, x, Ls, Ls2, A, A2, B, h1, h2, h3, h4, h5, h6, h7, h8, h9⟩ := h
  have hop := openN_add h1.swap.one r (by omega) (by omega) (by omega)
  have hlen := addL_len none Ls2 r
  refine (s2_append h1.swap dirY_ok apartYX a r L c (by omega) (by omega) (by omega) (by omega) hr hL hnil hz).mono ?_
  rintro e w' ⟨rfl, n', x', A', B', k1, k2, k3⟩
  exact ⟨rfl, n', x', Ls, _, A, A', B', k3.swap, h2, by rw [recsOf_add, h3], by simp; omega, by simp; omega, h6, by simp; omega, h8, by simp; omega⟩
/-- The second log is opened beside the first one. -/
theorem fo_open {W w : World} {d mb p : Nat} {A B : Nat → Prop} (h : Se W w d mb 0 x0 p dirX none [] A B) :
    Calls Tryz.prog 13 #[.pointer (some ⟨d, 0, none⟩), .string dirY] w fun e w' => ∃ (q : Nat) (v : Sl), e = .returned (.tuple #[.pointer (some ⟨q, 0, none⟩), slV v, .int .i64 0]) ∧ FoAt W w' d mb p q [] [] := by
  have hDe : De W w d mb 0 x0 dirY none [] B := ⟨h.at_.disk, log0 dirY, h.calm, h.from_, fun k hk => h.low k (.inr hk), h.at_.ltB, h.tab⟩
  refine (s_open hDe dirY_ok (by decide) (by decide) (by decide)).mono ?_
  rintro e w' ⟨q, v, m, lo, A2, rfl, k1, k2, k3, k4, k5⟩
  have h' := h.grown k3
  have hs : S2 W w' d mb 0 x0 q dirY [] A2 p dirX [] A B := ⟨k1, h'.at_.wal, log0 dirX, fun k ha => ⟨fun ha2 => by have h1 := (k4 k ha2).1; have h2 := h.at_.ltA k ha; omega, h.at_.apart k ha⟩, fun k ha => ⟨h'.at_.ltA k ha, h.low k (.inl ha)⟩⟩
  exact ⟨q, v, rfl, 0, x0, [], [], A, A2, B, hs.swap, rfl, rfl, Nat.le_refl _, by decide, by decide, by decide, by decide, by decide⟩
/-- Behind the cut: the disk with two folders. -/
def FdAt (W wr : World) (d mb : Nat) (ra rb : List (List Int)) : Prop := ∃ (n : Nat) (x : DSt) (K : Kp) (Ls Ls2 : Sg) (B : Nat → Prop),
  De W wr d mb n x dirX K Ls B ∧ cpRecs K ++ recsOf Ls = ra ∧ Log x.V dirY none Ls2 ∧ recsOf Ls2 = rb ∧ n ≤ ra.length + rb.length + 2 ∧ Ls.length ≤ ra.length ∧ Ls2.length ≤ rb.length
theorem recs_short {V : Cont} {dir : ByteArray} {Ls : Sg} (h : Log V dir none Ls) : ∀ r ∈ recsOf Ls, r.length ≤ 65536 := by
  intro r hr
  simp only [recsOf, List.mem_flatMap] at hr
  obtain ⟨q, hq, hr⟩ := hr
  exact (h.whole q hq).2.1 r hr
theorem logB_len : ∀ (recs : List (List Int)), (∀ r ∈ recs, r.length ≤ 500) → (logB frameR recs).length ≤ 600 * recs.length
  | [], _ => by simp [logB]
  | r :: recs, h => by
    have h1 := logB_len recs (fun x hx => h x (by simp [hx]))
    have h2 := enc_len_le 2 r.length (by have := h r (by simp); omega)
    have h3 := h r (by simp)
    have h4 : (four (sumR r)).length = 4 := rfl
    rw [logB_cons, List.length_append, frameR]
    simp only [List.length_append, h4, List.length_cons]
    omega
theorem fo_cut {W w : World} {d mb p q : Nat} {ra rb : List (List Int)} (h : FoAt W w d mb p q ra rb) (ka : Option Addr) (kn kc : Nat) (ts : List Sl) (w1 : World) (hg : w.grownBy w1 none) (hk : KeepIs w1 ka ts ra) (hkn : ra.length = kn) (hi : ra.length + rb.length ≤ 1048573) (hr5 : ∀ r ∈ ra, r.length ≤ 500) :
    Calls Tryz.prog 23 #[.pointer (some ⟨p, 0, none⟩), .slice ka kn kc] w1 fun e w' => ∃ c, e = .returned (.int .i64 c) ∧ FdAt W w' d mb ra rb := by
  obtain ⟨n, x, Ls, Ls2, A, A2, B, h0, h2, h3, h4, h5, h6, h7, h8, h9⟩ := h
  have h1 := h0.grown hg
  have hr6 : ∀ r ∈ ra, r.length ≤ 65536 := fun r hr => by have := hr5 r hr; omega
  have hlb := logB_len ra hr5
  obtain ⟨c1, c2, c3, c4, c5⟩ := log_cut (recs := ra) h1.one.log dirX_ok h1.one.calm (by omega) hr6 (by omega)
  have hfar := h1.one.far
  have hs8 : ∀ k ∈ Ls.map Prod.fst, k < 100000000 := h1.one.log.folder.segr.2
  have hcp : (cpName dirX none).size ≤ 64 := show (0 : Nat) ≤ 64 by omega
  have hsg : (Ls.map Prod.fst).length ≤ 4194304 := by rw [List.length_map]; omega
  have hlog2 : Log (cutX x dirX (cpName dirX none) (Ls.map Prod.fst) (openN none Ls) (logB frameR ra)).V dirY none Ls2 := h1.log.congr (fun s hs => c5 s (apartXY s hs))
  have fin : ∀ (e : Ending) (w' : World), e = .returned (.int .i64 0) ∧ CutEnd w1 W.heap.size d mb (n + 2) (cutX x dirX (cpName dirX none) (Ls.map Prod.fst) (openN none Ls) (logB frameR ra)) A B w' → ∃ c, e = .returned (.int .i64 c) ∧ FdAt W w' d mb ra rb := by
    rintro e w' ⟨rfl, n', B', hn', hd', hS', ha', hb'⟩
    exact ⟨0, rfl, n', _, some (openN none Ls, ra), [], Ls2, B', ⟨hd', c2, c3, hS'.from_ h1.one.from_ h1.one.low, fun k hk => hS'.low h1.one.from_ h1.one.low k (.inr hk), hb', h1.one.tab⟩, by simp [cpRecs, recsOf], hlog2, h3, by omega, by simp, h9⟩
  by_cases hne : ra = []
  · subst hne
    have hk0 : kn = 0 := by simpa using hkn.symm
    subst hk0
    exact (w_cutCN ka kc W.heap.size d mb n x p dirX (cpName dirX none) (Ls.map Prod.fst) (openN none Ls) A B w1 dirX_ok hfar.1 hfar.2 h1.one.at_ h1.one.calm (by omega) (by omega) (by omega) h1.one.log.noNew hsg hs8 hcp c1 h1.one.from_.size).mono fin
  · by_cases hbig : (logB frameR ra).length ≤ 4194304
    · exact (w_cutC W.heap.size d mb n x p dirX (cpName dirX none) (Ls.map Prod.fst) (openN none Ls) A B ka kn kc ts ra w1 dirX_ok hfar.1 hfar.2 h1.one.at_ h1.one.calm (by omega) (by omega) (by omega) h1.one.log.noNew hsg hs8 hcp c1 hk hkn (by omega) hne hbig h1.one.from_.size).mono fin
    · refine (w_cutCF W.heap.size d mb n x p dirX (cpName dirX none) (Ls.map Prod.fst) (openN none Ls) A B ka kn kc ts ra w1 dirX_ok hfar.1 h1.one.at_ h1.one.calm (by omega) (by omega) h1.one.log.noNew hk hkn (by omega) (by omega) (by omega)).mono ?_
      rintro e w' ⟨rfl, hg'⟩
      exact ⟨63, rfl, n, x, none, Ls, Ls2, B, h1.one.de.grown hg', h2, h1.log, h3, by omega, h8, h9⟩
end Go.Proofs.YtekejnjaiccnbaaGreatDoor

