/- Several texts in one: Qj, Qk, Ql, Qm. -/
import Derived.Test.YtekejnjaiccnbaaGreatDoorNm
import Derived.Test.YtekejnjaiccnbaaGreatDoorNj
import Derived.Test.YtekejnjaiccnbaaGreatDoorNh
import Derived.Test.YtekejnjaiccnbaaGreatDoorNk
import Derived.Test.YtekejnjaiccnbaaGreatDoorYf
/- Open where a checkpoint stands with old segments; Append and Sync behind it. -/
namespace Go.Proofs.YtekejnjaiccnbaaGreatDoor
open Go.RowKit Go.Maps Go.Sort
set_option linter.unusedVariables false
set_option maxRecDepth 20000

/-- A log open over its disk, its numbers read alone. -/
structure Sr (W w : World) (d mb n : Nat) (x : DSt) (p : Nat) (dir : ByteArray) (K : Kp) (Ls : Sg) (A B : Nat → Prop) : Prop where
  at_ : LogR w W.heap.size d mb n x p dir (cpName dir K) (Ls.map Prod.fst) (openN K Ls) A B
  log : Log x.V dir K Ls
  calm : x.Calm
  from_ : W.grownBy w none
  low : ∀ k, A k ∨ B k → W.heap.size ≤ k
  tab : Tab W
theorem Sr.de {W w : World} {d mb n : Nat} {x : DSt} {p : Nat} {dir : ByteArray} {K : Kp} {Ls : Sg} {A B : Nat → Prop} (h : Sr W w d mb n x p dir K Ls A B) : De W w d mb n x dir K Ls B :=
  ⟨h.at_.disk, h.log, h.calm, h.from_, fun k hk => h.low k (.inr hk), h.at_.ltB, h.tab⟩
theorem Sr.grown {W w w' : World} {d mb n : Nat} {x : DSt} {p : Nat} {dir : ByteArray} {K : Kp} {Ls : Sg} {A B : Nat → Prop} (h : Sr W w d mb n x p dir K Ls A B) (hg : w.grownBy w' none) : Sr W w' d mb n x p dir K Ls A B :=
  ⟨h.at_.grown hg, h.log, h.calm, h.from_.trans hg, h.low, h.tab⟩
theorem Sr.far {W w : World} {d mb n : Nat} {x : DSt} {p : Nat} {dir : ByteArray} {K : Kp} {Ls : Sg} {A B : Nat → Prop} (h : Sr W w d mb n x p dir K Ls A B) : Tab w ∧ Far A B :=
  ⟨h.tab.grown h.from_, fun g hg => ⟨fun ha => by have := h.low g (.inl ha); have := h.tab.lt hg; omega, fun hb => by have := h.low g (.inr hb); have := h.tab.lt hg; omega⟩⟩
/-- Open, of a folder with a checkpoint and old segments. -/
theorem s_openB {W w : World} {d mb n : Nat} {x : DSt} {dir : ByteArray} {q : Nat × List (List Int)} {segs : List Nat} {B : Nat → Prop} (hd : DS w W.heap.size d mb n x B) (hL : OldLog x.V dir q segs) (hc : x.Calm) (hfrom : W.grownBy w none) (hlow : ∀ k, B k → W.heap.size ≤ k) (hltB : ∀ k, B k → k < w.heap.size) (ht : Tab W) (hdir : dirB dir = true) (hw : x.wn + segs.length ≤ 999999980) (hn : n < 1048576) (hsz : q.2.length ≤ 4194304) (hln : segs.length ≤ 4194304) :
    Calls Tryz.prog 13 #[.pointer (some ⟨d, 0, none⟩), .string dir] w fun e w' => ∃ (p : Nat) (v : Sl) (m lo n' : Nat) (x' : DSt) (A B' : Nat → Prop), e = .returned (.tuple #[.pointer (some ⟨p, 0, none⟩), slV v, .int .i64 0]) ∧ Sr W w' d mb n' x' p dir (some q) [] A B' ∧ RecsLo lo w' (slV v) m q.2 ∧ n' ≤ n ∧ x'.wn = x.wn + segs.length ∧ Kept w w' B ∧ (∀ k, k < w.heap.size → B' k → B k) ∧ w.heap.size ≤ lo ∧ (∀ k, A k ∨ B' k → k < lo) := by
  obtain ⟨t0, t1, t2, t3⟩ := old_del hL hdir hc hw
  refine (w_openG d dir w hdir (fun W4 p v w5 => OldMend W.heap.size d mb n (delAll x (segs.map (segN dir))) dir q B W4 p v w5) (fun W4 p hMI => ?_)).mono ?_
  · have hlp : ∀ k, B k → k < p := fun k hk => Nat.lt_of_lt_of_le (hltB k hk) hMI.new_
    exact w_mendB W.heap.size d mb n dir x B q segs w W4 p hdir (ht.grown (hfrom.trans hMI.grown)) hMI (DV.kept hd hMI.grown) hlp hc hn hL t0 t3.cp t1.on (fun g hg => ⟨fun hb => by have h1 := hlow g hb; have h2 := ht.lt hg; omega, fun e => by have h2 := ht.lt hg; have h3 := hMI.new_; have h4 := hfrom.size; omega⟩) hsz hln
  · rintro e w' ⟨W4, p, v, w5, hMI, ⟨m, n', B', lo, a', c', h1, h2, hD, hW, hy, hnone, hcm, h4, h6, h7, h8⟩, rfl, rfl⟩
    have hk := openW_kept w5 p v
    have hs := hMI.size
    have hnew := hMI.new_
    have hBp : ∀ k, B' k → ¬ (k = p + 2 ∨ k = p + 3) := fun k hb hX => by
      have := hltB k (h6 k (by omega) hb)
      omega
    have hBpp : ¬ B' p := fun hb => by
      have := hltB p (h6 p (by omega) hb)
      omega
    obtain ⟨ts, r1, r2, r3, r4⟩ := h1
    have g4 := hMI.grown
    have hz5 := h4.size
    have hkw : Kept w (openW w5 p v) B := by
      refine ⟨hk.os.trans (h4.os.trans g4.os), hk.tape.trans (h4.tape.trans g4.tape), hk.output.trans (h4.output.trans g4.output), Nat.le_trans g4.size (Nat.le_trans h4.size hk.size), fun k hkl hX => ?_⟩
      have hkp : k < p := Nat.lt_of_lt_of_le hkl hMI.new_
      rw [hk.block k (by have := h4.size; omega) (by omega), h4.block k (by omega) (fun hY => hY.elim (fun e => by omega) (fun hb => hX hb))]
      exact g4.block k hkl (by simp)
    have hyl : ∀ y, a' = some y → y.block < w5.heap.size := fun y hy' => by
      obtain ⟨_, _, _, _, cur, u4, _⟩ := hy y hy'
      exact (Array.getElem?_eq_some_iff.1 u4).1
    have hdb := (hD.others hk hBp).bound
    refine ⟨p, v, m, lo, n', _, fun k => k = p ∨ ∃ y, a' = some y ∧ k = y.block, fun k => B' k ∧ k < (openW w5 p v).heap.size, rfl, ⟨⟨hdb, ⟨a', c', ?_, ⟨.inl rfl, fun _ => ⟨fun y hy' => ?_, hnone, hcm⟩⟩, .inl rfl, fun y hy' => ⟨.inr ⟨y, hy', rfl⟩, ?_⟩⟩, ?_, fun k hb => hb.2, ?_⟩, t3, t1, ?_, ?_, ht⟩, ⟨ts, sown_keptK r1 hk (fun k hkb hX => by have := (r1.block k hkb).1; omega), r2.keptK hk (fun k hkl _ hX => by omega), r3, r4⟩, by omega, t2, hkw, fun k hkl hb => h6 k (Nat.lt_of_lt_of_le hkl g4.size) hb.1, Nat.le_trans g4.size h7, ?_⟩
    · exact hW.of_block (hk.block p hW.lt (by omega))
    · obtain ⟨u1, u2, u3, u4, cur, u5, u6⟩ := hy y hy'
      exact ⟨u4, cur, by rw [hk.block _ (hyl y hy') (by omega)]; exact u5, u6⟩
    · have := (hy y hy').1
      omega
    · rintro k (rfl | ⟨y, hy', rfl⟩) hb
      · exact hBpp hb.1
      · exact (hy y hy').2.2.1 hb.1
    · rintro k (rfl | ⟨y, hy', rfl⟩)
      · exact Nat.lt_of_lt_of_le hW.lt hk.size
      · exact Nat.lt_of_lt_of_le (hyl y hy') hk.size
    · exact ⟨hkw.os.trans hfrom.os, hkw.tape.trans hfrom.tape, hkw.output.trans hfrom.output, Nat.le_trans hfrom.size hkw.size, fun k hkl _ => (hkw.block k (Nat.lt_of_lt_of_le hkl hfrom.size) (fun hb => by have := hlow k hb; omega)).trans (hfrom.block k hkl (by simp))⟩
    · have hf4 := Nat.le_trans hfrom.size g4.size
      rintro k ((rfl | ⟨y, hy', rfl⟩) | hb)
      · exact Nat.le_trans hfrom.size hnew
      · exact Nat.le_trans hf4 (hy y hy').1
      · rcases Nat.lt_or_ge k W4.heap.size with hl | hl
        · exact hlow k (h6 k hl hb.1)
        · exact Nat.le_trans hf4 hl
    · rintro k ((rfl | ⟨y, hy', rfl⟩) | hb)
      · omega
      · exact (hy y hy').2.1
      · exact h8 k hb.1
/-- Append, with no segments. -/
theorem r_append {W w : World} {d mb n : Nat} {x : DSt} {p : Nat} {dir : ByteArray} {K : Kp} {A B : Nat → Prop} (h : Sr W w d mb n x p dir K [] A B) (hdir : dirB dir = true) (a : Option Addr) (zs : List Int) (L cap : Nat) (hw : x.wn ≤ 999999900) (hop : openN K [] < 99999998) (hn : n < 1048576) (hr : Rd w a zs) (hL : zs.length = L) (hnil : a = none → cap = 0) (hz : L ≤ 65536) :
    Calls Tryz.prog 17 #[.pointer (some ⟨p, 0, none⟩), .slice a L cap] w fun e w' => e = .returned (.int .i64 0) ∧ ∃ n' A' B', n' ≤ n + 1 ∧ (appX x dir (openN K []) zs).wn ≤ x.wn + 2 ∧ Sr W w' d mb n' (appX x dir (openN K []) zs) p dir K (addL K [] zs) A' B' ∧ Step2 w w' A B A' B' := by
  have had := log_add (rec := zs) h.log h.calm (by omega) (by omega) hop
  have hfar := h.far
  have hfl : (frameR zs).length ≤ 65543 := by
    have hu : zs.length ≤ 65536 := by omega
    exact frame_len zs hu
  refine (w_appendR W.heap.size d mb n x p dir (cpName dir K) (openN K []) A B a zs L cap w hdir hfar.1 hfar.2 h.at_ h.calm.on h.calm.free h.calm.ok (by omega) hop hn hr hL hnil hz (by have := had.room; omega) h.from_.size).mono ?_
  rintro e w' ⟨rfl, n', A', B', hn', hL', hS'⟩
  have hsg : [(rollX x dir (openN K [])).2] = (addL K [] zs).map Prod.fst := by
    have h1 := had.segs
    have h2 : segsX (([] : Sg).map Prod.fst) (rollX x dir (openN K [])).2 = [(rollX x dir (openN K [])).2] := rfl
    rw [h2] at h1
    exact h1
  rw [hsg, had.op] at hL'
  exact ⟨rfl, n', A', B', hn', had.wn, ⟨hL', had.log, had.calm, hS'.from_ h.from_ h.low, hS'.low h.from_ h.low, h.tab⟩, hS'⟩
/-- Sync. -/
theorem r_sync {W w : World} {d mb n : Nat} {x : DSt} {p : Nat} {dir : ByteArray} {K : Kp} {Ls : Sg} {A B : Nat → Prop} (h : Sr W w d mb n x p dir K Ls A B) (hdir : dirB dir = true) (hw : x.wn ≤ 999999900) (hop : openN K Ls < 99999998) (hsg : Ls.length ≤ 4194304) :
    Calls Tryz.prog 19 #[.pointer (some ⟨p, 0, none⟩)] w fun e w' => e = .returned (.int .i64 0) ∧ ∃ n' B', n' ≤ n ∧ (syncX x dir (Ls.map Prod.fst) (openN K Ls)).wn ≤ x.wn + 1 ∧ Sr W w' d mb n' (syncX x dir (Ls.map Prod.fst) (openN K Ls)) p dir K Ls A B' ∧ Step2 w w' A B A B' := by
  obtain ⟨s1, s2, s3, s4⟩ := log_sync h.log h.calm (by omega)
  have hfar := h.far
  refine (w_syncR W.heap.size d mb n x p dir (cpName dir K) (Ls.map Prod.fst) (openN K Ls) A B w hdir hfar.1 h.at_ h.calm.ok (by omega) (by rw [List.length_map]; exact hsg) s4).mono ?_
  rintro e w' ⟨rfl, n', B', hn', hL', hS'⟩
  exact ⟨rfl, n', B', hn', s3, ⟨hL', s1, s2, hS'.from_ h.from_ h.low, hS'.low h.from_ h.low, h.tab⟩, hS'⟩
end Go.Proofs.YtekejnjaiccnbaaGreatDoor

/- Cut, of a record that is too long. (Printed by mk_long.py.) -/
namespace Go.Proofs.YtekejnjaiccnbaaGreatDoor
open Go.RowKit Go.Maps Go.Sort
set_option linter.unusedVariables false
set_option maxRecDepth 20000

def KeepL (w : World) (ka : Option Addr) (ts : List Sl) (recs : List (List Int)) : Prop := SRd slE w ka ts ∧ ts.length = recs.length ∧ ∀ (i : Nat) (t : Sl) (r : List Int), ts[i]? = some t → recs[i]? = some r → t.2.1 = r.length ∧ Rd w t.1 r ∧ (t.1 = none → t.2.2 = 0) ∧ r.length ≤ 1048576
theorem KeepL.grown {w w' : World} {ka : Option Addr} {ts : List Sl} {recs : List (List Int)} (h : KeepL w ka ts recs) (hg : w.grownBy w' none) : KeepL w' ka ts recs :=
  ⟨h.1.grown hg (by simp), h.2.1, fun i t r h1 h2 => ⟨(h.2.2 i t r h1 h2).1, (h.2.2 i t r h1 h2).2.1.grown hg (by simp), (h.2.2 i t r h1 h2).2.2⟩⟩
theorem logB_le : ∀ (l : List (List Int)), (∀ r ∈ l, r.length ≤ 65536) → (logB frameR l).length ≤ 65543 * l.length
  | [], _ => by simp [logB]
  | r :: l, h => by
    have h1 := frame_len r (h r (by simp))
    have h2 := logB_le l (fun z hz => h z (by simp [hz]))
    have e : logB frameR (r :: l) = frameR r ++ logB frameR l := by simp [logB]
    rw [e, List.length_append, List.length_cons]
    omega
set_option maxHeartbeats 8000000 in
theorem w_cutL (p : Nat) (ka : Option Addr) (kn kc : Nat) (ts : List Sl) (recs : List (List Int)) (w : World) (hk : KeepL w ka ts recs) (hn : recs.length = kn) (hkn : kn ≤ 1048576) (J : Nat) (rj : List Int) (hj : recs[J]? = some rj) (hjb : 65536 < rj.length) (hsm : ∀ (i : Nat) (r : List Int), i < J → recs[i]? = some r → r.length ≤ 65536) :
    Calls Tryz.prog 23 #[.pointer (some ⟨p, 0, none⟩), .slice ka kn kc] w fun e w' => e = .returned (.int .i64 70) ∧ w.grownBy w' none := by
  have HK : Hid (KeepL w ka ts recs) := hk
  have HN : Hid (recs.length = kn) := hn
  have HJ : Hid (recs[J]? = some rj) := hj
  have hJk : J < kn := by rw [← hn]; exact (List.getElem?_eq_some_iff.1 hj).1
  have HSM : Hid (∀ (i : Nat) (r : List Int), i < J → recs[i]? = some r → r.length ≤ 65536) := hsm
  have hmf : ∀ (fn : Fn) (first cap : Array Value) (w : World), (Instr.makeFunc fn first cap).run Tryz.prog w = .ok (.func fn first cap) w := fun _ _ _ _ => rfl
  obtain ⟨W2, eW2⟩ : ∃ W2, W2 = (w.alloc (.cells #[.pointer (some ⟨p, 0, none⟩)] 36)).alloc (.cells #[.slice none 0 0] 27) := ⟨_, rfl⟩
  have hs1 : ∀ (w : World) o, (w.alloc o).heap.size = w.heap.size + 1 := fun w o => Array.size_push _
  have HF0 : Hid (FrAt w W2 p (w.heap.size + 1) (logB frameR (recs.take 0))) := by
    rw [eW2]
    refine ⟨⟨none, 0, ?_, SOwn.nil 5 _ _⟩, by simp [logB], (World.grownBy_alloc w _ none).trans (World.grownBy_alloc _ _ none), rfl, (row1 w (.pointer (some ⟨p, 0, none⟩)) 36).alloc _⟩
    have := row1 (w.alloc (.cells #[.pointer (some ⟨p, 0, none⟩)] 36)) (.slice none 0 0) 27
    rw [hs1] at this
    exact this
  have EW2 : Hid (W2 = (w.alloc (.cells #[.pointer (some ⟨p, 0, none⟩)] 36)).alloc (.cells #[.slice none 0 0] 27)) := eW2
  clear hk hn hj hsm eW2 hs1
  go_enter Tryz.func23, Tryz.ntmps23
  go_wp2_with fail
  rw [← EW2.out]
  go_loopw [12] (fun t12 wr => ∃ i : Nat, i ≤ J ∧ t12 = .int .i64 i ∧ FrAt w wr p (w.heap.size + 1) (logB frameR (recs.take i))) (fun t12 _ => kn - (intOf t12).toNat)
  case atStart => exact ⟨0, Nat.zero_le _, rfl, HF0.out⟩
  case round =>
    obtain ⟨i, hi, rfl, hF⟩ := hrel
    have HF : Hid (FrAt w wr p (w.heap.size + 1) (logB frameR (recs.take i))) := hF
    have hlt : i < kn := by omega
    by_cases hJ : i < J
    · have hii : (i : Int) < (kn : Int) := by omega
      have hkl := HK.out.2.1
      have hnn := HN.out
      obtain ⟨r, hr⟩ : ∃ r, recs[i]? = some r := ⟨_, List.getElem?_eq_getElem (by omega)⟩
      obtain ⟨t, ht⟩ : ∃ t, ts[i]? = some t := ⟨_, List.getElem?_eq_getElem (by omega)⟩
      have hKr := HK.out.grown hF.grown
      obtain ⟨kb, koff, rfl, hkc⟩ := hKr.1.at (by omega)
      have a0 : wr.cell? ⟨kb, koff + i, none⟩ = some (.slice t.1 t.2.1 t.2.2) := by have h := hkc i _ 0 _ ht rfl; simpa [slE, slV] using h
      obtain ⟨h1, h2, h3, h4⟩ := hKr.2.2 i t r ht hr
      have hr5 : r.length ≤ 65536 := HSM.out i r hJ hr
      have hfl : flist r = frameR r := by unfold flist; rw [if_neg (by omega)]
      have hfc : fcode r = 0 := by unfold fcode; rw [if_neg (by omega)]
      have HFR : Hid (Calls Tryz.prog 25 #[.slice t.1 t.2.1 t.2.2] wr fun e w' => ∃ v N c, e = .returned (.tuple #[.slice v N c, .int .i64 0]) ∧ Out wr w' v N c (frameR r) ∧ wr.grownBy w' none) := f_frame t.1 r t.2.1 t.2.2 (frameR r) 0 wr h2 h1.symm h3 (by omega) hfl hfc
      have HT : Hid (logB frameR (recs.take (i + 1)) = logB frameR (recs.take i) ++ frameR r) := logB_take recs i r hr
      have hsum : (logB frameR (recs.take i)).length + (frameR r).length ≤ 100000000000 := by
        have h6 := frame_len r hr5
        have h7 := logB_le (recs.take i) (fun z hz => by
          obtain ⟨k, hk⟩ := List.mem_iff_getElem?.1 hz
          rw [List.getElem?_take] at hk
          split at hk
          · exact HSM.out k z (by omega) hk
          · cases hk)
        have h8 : (recs.take i).length ≤ 1048576 := by rw [List.length_take]; omega
        omega
      clear hKr hkc ht hr h1 h2 h3 h4 hfl hfc hkl hnn hF
      go_wp2_with fail
      refine HFR.out.mono ?_
      rintro e w1 ⟨fv, FN, fc, rfl, hout, hg1⟩
      obtain ⟨⟨fa, fcc, hrow, hso⟩, hby, hgr, hold, hhd⟩ := HF.out
      have hrow1 := hrow.of_block (hg1.block _ hrow.lt (by simp))
      obtain ⟨L, eL⟩ : ∃ L, L = (logB frameR (recs.take i)).length := ⟨_, rfl⟩
      rw [← eL] at hrow1 hso hsum
      have y0 : w1.cell? ⟨w.heap.size + 1, 0, none⟩ = some (.slice fa L fcc) := hrow1.cell (i := 0) (by omega)
      have HSO : Hid (SOwn byteE 5 w1 (w.heap.size + 1 + 1) (.slice fa L fcc) L (logB frameR (recs.take i))) := SOwn.kept hso hg1 (by cases fa <;> simp [Value.ownBlock])
      have HFL : Hid ((frameR r).length = FN) := hout.1
      have HRD : Hid (SRd byteE w1 fv (frameR r)) := rd_srd hout.2.1
      have HFN : Hid (fv = none → fc = 0) := hout.2.2.1
      have hFN2 : L + FN ≤ 100000000000 := by rw [← hout.1]; exact hsum
      have hsz : w.heap.size + 1 + 1 ≤ w1.heap.size := by have := hrow1.lt; omega
      have HSTEP : Hid (∀ (v3 : Value) (w3 : World), SOwn byteE 5 w3 (w.heap.size + 1 + 1) v3 (L + FN) (logB frameR (recs.take i) ++ frameR r) → w1.grownBy w3 (Value.ownBlock (.slice fa L fcc)) → ∃ a3 k3, v3 = .slice a3 (L + FN) k3 ∧ w3.cell? ⟨w.heap.size + 1, 0, none⟩ = some (.slice fa L fcc) ∧ w3.frozen? ⟨w.heap.size + 1, 0, none⟩ = false ∧ FrAt w (w3.setCell ⟨w.heap.size + 1, 0, none⟩ (.slice a3 (L + FN) k3)) p (w.heap.size + 1) (logB frameR (recs.take (i + 1)))) := fun v3 w3 ho3 hg3 => by
        obtain ⟨a3, k3, rfl⟩ := sownSl ho3
        have hne : some (w.heap.size + 1) ≠ Value.ownBlock (.slice fa L fcc) := ownNe HSO.out (Nat.lt_succ_self _)
        have hr3 := hrow1.of_block (hg3.block _ hrow1.lt hne)
        have hgs : w3.grownBy (w3.setCell ⟨w.heap.size + 1, 0, none⟩ (.slice a3 (L + FN) k3)) (some (w.heap.size + 1)) := gb_set rfl
        have el : (logB frameR (recs.take (i + 1))).length = L + FN := by rw [HT.out, List.length_append, ← eL, HFL.out]
        refine ⟨a3, k3, rfl, hr3.cell (i := 0) (by omega), hr3.frozen 0, ⟨a3, k3, ?_, ?_⟩, ?_, ?_, hold, ?_⟩
        · rw [el]
          exact (hr3.set 0 (.slice a3 (L + FN) k3)).congr (fun j hj => by have h0 : j = 0 := by omega
                                                                          subst h0; rfl)
        · rw [el, HT.out]
          exact SOwn.kept ho3 hgs (.inr (fun e => ownNe ho3 (Nat.lt_succ_self _) e.symm))
        · rw [HT.out]
          intro z hz
          rcases List.mem_append.1 hz with h | h
          · exact hby z h
          · exact hout.2.1.2 z h
        · exact gb_trans (gb_trans (hgr.trans hg1) hg3 (fun k hk => .inl (by have := (HSO.out.block k hk).1; omega))) hgs (fun k hk => .inl (by cases hk; omega))
        · exact (((hhd.of_block (hg1.block _ hhd.lt (by simp))).of_block (hg3.block _ (Nat.lt_of_lt_of_le hhd.lt hg1.size) (ownNe HSO.out (by omega)))).setOther (a := ⟨w.heap.size + 1, 0, none⟩) (by show w.heap.size ≠ w.heap.size + 1; omega) _)
      clear hhd hout hg1 hrow hso hby hgr hold hrow1 eL HFR HF
      go_wp2_with (at_builtin; refine wpList_append_s byteET rfl (.tmp 23) (.tmp 24) rfl (w.heap.size + 1 + 1) (.slice fa L fcc) L (logB frameR (recs.take i)) rfl HSO.out fv (frameR r) FN fc rfl HFL.out HRD.out HFN.out (by omega) (by unfold maxLen; omega) hsz ?_; intro v3 w3 ho3 hg3 hn3; obtain ⟨a3, k3, rfl, y3, z3, hfr⟩ := HSTEP.out v3 w3 ho3 hg3; have HFR3 : Hid (FrAt w (w3.setCell ⟨w.heap.size + 1, 0, none⟩ (.slice a3 (L + FN) k3)) p (w.heap.size + 1) (logB frameR (recs.take (i + 1)))) := hfr; clear ho3 hg3 hn3 hfr)
      go_roundw
      case rel => exact ⟨i + 1, by omega, by go_num, HFR3.out⟩
      case measure => simp [intOf]; omega
    · have hii : (i : Int) < (kn : Int) := by omega
      have hiJ : i = J := by omega
      subst hiJ
      have hkl := HK.out.2.1
      have hnn := HN.out
      obtain ⟨t, ht⟩ : ∃ t, ts[i]? = some t := ⟨_, List.getElem?_eq_getElem (by omega)⟩
      have hKr := HK.out.grown hF.grown
      obtain ⟨kb, koff, rfl, hkc⟩ := hKr.1.at (by omega)
      have a0 : wr.cell? ⟨kb, koff + i, none⟩ = some (.slice t.1 t.2.1 t.2.2) := by have h := hkc i _ 0 _ ht rfl; simpa [slE, slV] using h
      obtain ⟨h1, h2, h3, h4⟩ := hKr.2.2 i t rj ht HJ.out
      have hfc : fcode rj = 23 := by unfold fcode; rw [if_pos hjb]
      have HFR : Hid (Calls Tryz.prog 25 #[.slice t.1 t.2.1 t.2.2] wr fun e w' => ∃ v N c, e = .returned (.tuple #[.slice v N c, .int .i64 23]) ∧ Out wr w' v N c (flist rj) ∧ wr.grownBy w' none) := f_frame t.1 rj t.2.1 t.2.2 (flist rj) 23 wr h2 h1.symm h3 (by omega) rfl hfc
      have HG : Hid (w.grownBy wr none) := hF.grown
      clear hKr hkc ht h1 h2 h3 h4 hfc hkl hnn hF
      go_wp2_with fail
      refine HFR.out.mono ?_
      rintro e w1 ⟨fv, FN, fc, rfl, hout, hg1⟩
      have HG1 : Hid (w.grownBy w1 none) := HG.out.trans hg1
      clear hout hg1 HFR
      go_wp2
      go_ret
      exact ⟨rfl, HG1.out⟩
end Go.Proofs.YtekejnjaiccnbaaGreatDoor

/- WalCuts: the states of its walk. -/
namespace Go.Proofs.YtekejnjaiccnbaaGreatDoor
open Go.RowKit Go.Maps Go.Sort
set_option linter.unusedVariables false
set_option maxRecDepth 20000

/-- The log behind i records, and what is synced of it. -/
def TsAt (W wr : World) (d mb i : Nat) (m : Int) (p : Nat) (rs : List (List Int)) : Prop := ∃ (n : Nat) (x : DSt) (Ls : Sg) (A B : Nat → Prop), Se W wr d mb n x p dirX none Ls A B ∧ Sy x.V dirX Ls 0 ∧ recsOf Ls = rs ∧ n ≤ i ∧ x.wn ≤ m ∧ openN none Ls ≤ i + 1 ∧ Ls.length ≤ i
theorem TsAt.grown {W w w' : World} {d mb i p : Nat} {m : Int} {rs : List (List Int)} (h : TsAt W w d mb i m p rs) (hg : w.grownBy w' none) : TsAt W w' d mb i m p rs := by
  obtain ⟨n, x, Ls, A, B, h1, h2⟩ := h
  exact ⟨n, x, Ls, A, B, h1.grown hg, h2⟩
theorem TsAt.from_ {W w : World} {d mb i p : Nat} {m : Int} {rs : List (List Int)} (h : TsAt W w d mb i m p rs) : W.grownBy w none := by
  obtain ⟨n, x, Ls, A, B, h1, h2⟩ := h
  exact h1.from_
theorem ts_append {W w : World} {d mb i p : Nat} {m : Int} {rs : List (List Int)} (h : TsAt W w d mb i m p rs) (a : Option Addr) (r : List Int) (L c : Nat) (hr : Rd w a r) (hL : r.length = L) (hnil : a = none → c = 0) (hz : L ≤ 65536) (hi : i < 1048576) (hm : m ≤ 999999900) :
    Calls Tryz.prog 17 #[.pointer (some ⟨p, 0, none⟩), .slice a L c] w fun e w' => e = .returned (.int .i64 0) ∧ TsAt W w' d mb (i + 1) (m + 2) p (rs ++ [r]) := by
  obtain ⟨n, x, Ls, A, B, h1, hs, h2, h6, h7, h8, h9⟩ := h
  have had := log_add (rec := r) h1.log h1.calm (by omega) (by omega) (by omega)
  have hsy := sy_add (rec := r) h1.log h1.calm (by omega) (by omega) hs
  refine (s_append h1 dirX_ok a r L c (by omega) (by omega) (by omega) (by omega) hr hL hnil hz).mono ?_
  rintro e w' ⟨rfl, n', A', B', k1, k2, k3, k4⟩
  have hop : openN none (addL none Ls r) ≤ i + 1 + 1 := by
    rw [← had.op]
    have := rollX_le x dirX (openN none Ls)
    omega
  have := addL_len none Ls r
  exact ⟨rfl, n', _, _, A', B', k3, hsy, by rw [recsOf_add, h2], by omega, by omega, hop, by omega⟩
theorem all_sy {V : Cont} {dir : ByteArray} {Ls : Sg} (h : Sy V dir Ls (recsOf Ls).length) : AllSy V dir Ls := by
  rcases h with ⟨rfl, _⟩ | ⟨L0, k, rl, j, rfl, h0, h1, hj, hsafe⟩
  · intro q hq
    cases hq
  · have e : (recsOf (L0 ++ [(k, rl)])).length = (recsOf L0).length + rl.length := by
      unfold recsOf
      rw [List.flatMap_append, List.length_append]
      simp
    rw [e] at hsafe
    have hj2 : rl.take j = rl := List.take_of_length_le (by omega)
    rw [hj2] at h1
    intro q hq
    rcases List.mem_append.1 hq with hq | hq
    · exact h0 q hq
    · simp only [List.mem_singleton] at hq
      subst hq
      exact h1
/-- .. all of it synced, its disk armed. -/
def CaAt (W wr : World) (d mb i : Nat) (m : Int) (p : Nat) (rs : List (List Int)) : Prop := ∃ (n : Nat) (x : DSt) (Ls : Sg) (A B : Nat → Prop), Sb W wr d mb n x p Ls (recsOf Ls).length A B ∧ AllSy x.V dirX Ls ∧ recsOf Ls = rs ∧ n ≤ i ∧ x.wn ≤ m ∧ openN none Ls ≤ i + 1 ∧ Ls.length ≤ i
def CsAt (W wr : World) (d mb i : Nat) (m : Int) (p : Nat) (rs : List (List Int)) : Prop := ∃ (n : Nat) (x : DSt) (Ls : Sg) (A B : Nat → Prop), Se W wr d mb n x p dirX none Ls A B ∧ Sy x.V dirX Ls (recsOf Ls).length ∧ recsOf Ls = rs ∧ n ≤ i ∧ x.wn ≤ m ∧ openN none Ls ≤ i + 1 ∧ Ls.length ≤ i
theorem CsAt.grown {W w w' : World} {d mb i p : Nat} {m : Int} {rs : List (List Int)} (h : CsAt W w d mb i m p rs) (hg : w.grownBy w' none) : CsAt W w' d mb i m p rs := by
  obtain ⟨n, x, Ls, A, B, h1, h2⟩ := h
  exact ⟨n, x, Ls, A, B, h1.grown hg, h2⟩
theorem CaAt.grown {W w w' : World} {d mb i p : Nat} {m : Int} {rs : List (List Int)} (h : CaAt W w d mb i m p rs) (hg : w.grownBy w' none) : CaAt W w' d mb i m p rs := by
  obtain ⟨n, x, Ls, A, B, h1, h2⟩ := h
  exact ⟨n, x, Ls, A, B, h1.grown hg, h2⟩
theorem CaAt.from_ {W w : World} {d mb i p : Nat} {m : Int} {rs : List (List Int)} (h : CaAt W w d mb i m p rs) : W.grownBy w none := by
  obtain ⟨n, x, Ls, A, B, h1, h2⟩ := h
  exact h1.from_
theorem ts_sync {W w : World} {d mb i p : Nat} {m : Int} {rs : List (List Int)} (h : TsAt W w d mb i m p rs) (hi : i ≤ 1048576) (hm : m ≤ 999999900) :
    Calls Tryz.prog 19 #[.pointer (some ⟨p, 0, none⟩)] w fun e w' => e = .returned (.int .i64 0) ∧ CsAt W w' d mb i (m + 1) p rs := by
  obtain ⟨n, x, Ls, A, B, h1, hs, h2, h6, h7, h8, h9⟩ := h
  refine (s_sync h1 dirX_ok (by omega) (by omega) (by omega)).mono ?_
  rintro e w' ⟨rfl, n', B', k1, k2, k3, k4⟩
  obtain ⟨_, _, _, s4⟩ := log_sync h1.log h1.calm (by omega)
  rcases sync_case h1.log h1.calm.on h1.calm.ok (by omega) hs with ⟨_, _, _, _, s5, _, _⟩ | ⟨ho, hsy⟩
  · exact ⟨rfl, n', _, Ls, A, B', k3, s5, h2, by omega, by omega, by omega, by omega⟩
  · exfalso
    have := s4 ho
    rw [hsy] at this
    cases this
theorem cs_arm {W w : World} {d mb i p : Nat} {m : Int} {rs : List (List Int)} (h : CsAt W w d mb i m p rs) (ah kp : Int) (ha : 0 ≤ ah ∧ ah ≤ 9223372036854775807) (hk : -9223372036854775808 ≤ kp ∧ kp ≤ 9223372036854775807) :
    Calls Tryz.prog 14 #[.pointer (some ⟨d, 0, none⟩), .int .i64 ah, .int .i64 kp] w fun e w' => e = .returned (.tuple #[]) ∧ CaAt W w' d mb i m p rs := by
  obtain ⟨n, x, Ls, A, B, h1, hs, h2, h6, h7, h8, h9⟩ := h
  refine (x_arm W.heap.size d mb n x B ah kp w h1.at_.disk).mono ?_
  rintro e w' ⟨rfl, hd', hs'⟩
  obtain ⟨B'', hL, hS⟩ := h1.at_.write hd' hs'
  have ex : x.arm ah kp = { x with set := true, ah := ah, kp := kp } := by
    unfold DSt.arm
    rw [if_neg (by omega)]
  rw [ex] at hL
  exact ⟨rfl, n, _, Ls, A, B'', ⟨hL, h1.log, hs, h1.calm.on, ⟨h1.calm.ok.1, fun _ => ha, hk⟩, hS.from_ h1.from_ h1.low, hS.low h1.from_ h1.low, h1.tab⟩, all_sy hs, h2, h6, h7, h8, h9⟩
/-- Behind the Cut: done, or the power has gone. -/
def CdAt (W wr : World) (d mb i : Nat) (m : Int) (up : Bool) (rs kept : List (List Int)) : Prop := ∃ (n : Nat) (y : DSt) (B : Nat → Prop) (Ls : Sg), Cd W wr d mb n y B ∧ Tab W ∧ recsOf Ls = rs ∧ n ≤ i + 2 ∧ y.wn ≤ m + 3 + i ∧ 0 ≤ y.wn ∧ openN none Ls ≤ i + 1 ∧ Ls.length ≤ i ∧
  ((up = true ∧ y.off = false ∧ y.ok ∧ ∀ keep, OldLog (lostV keep y.V) dirX (openN none Ls, kept) []) ∨ (up = false ∧ (∃ V, y = ⟨true, false, 0, 0, y.wn, V⟩) ∧ CutV y.V dirX Ls kept))
theorem ca_cut {W w : World} {d mb i p : Nat} {m : Int} {rs : List (List Int)} (h : CaAt W w d mb i m p rs) (ka : Option Addr) (kn kc : Nat) (ts : List Sl) (kept : List (List Int)) (hk : KeepIs w ka ts kept) (hkn : kept.length = kn) (hk4 : kn ≤ 4194304) (hlen : (logB frameR kept).length ≤ 4194304) (hr : ∀ r ∈ kept, r.length ≤ 65536) (hi : i ≤ 1048572) (hm : m ≤ 9999999) :
    Calls Tryz.prog 23 #[.pointer (some ⟨p, 0, none⟩), .slice ka kn kc] w fun e w' => (e = .returned (.int .i64 0) ∧ CdAt W w' d mb i m true rs kept) ∨ (e = .returned (.int .i64 60) ∧ CdAt W w' d mb i m false rs kept) := by
  obtain ⟨n, x, Ls, A, B, h1, hs, h2, h6, h7, h8, h9⟩ := h
  refine (sb_cut h1 hs ka kn kc ts kept (by omega) (by omega) (by omega) (by omega) hk hkn hk4 hlen hr).mono ?_
  rintro e w' ⟨n', y, B', k1, k2, k3, k4, ⟨rfl, k5⟩ | ⟨rfl, k5⟩⟩
  · exact .inl ⟨rfl, n', y, B', Ls, k2, h1.tab, h2, by omega, by omega, k4, h8, h9, .inl ⟨rfl, k5⟩⟩
  · exact .inr ⟨rfl, n', y, B', Ls, k2, h1.tab, h2, by omega, by omega, k4, h8, h9, .inr ⟨rfl, k5⟩⟩
theorem cd_up {W w : World} {d mb i : Nat} {m : Int} {up : Bool} {rs kept : List (List Int)} (h : CdAt W w d mb i m up rs kept) : Calls Tryz.prog 16 #[.pointer (some ⟨d, 0, none⟩)] w fun e w' => e = .returned (.bool up) ∧ w = w' := by
  obtain ⟨n, y, B, Ls, h1, ht, h2, h3, h4, h5, h6, h7, h8⟩ := h
  have := x_up h1.disk
  rcases h8 with ⟨rfl, e, _⟩ | ⟨rfl, ⟨V, e⟩, _⟩
  · rw [e] at this
    exact this
  · rw [e] at this
    exact this
/-- The power is off. -/
def CfAt (W wr : World) (d mb i : Nat) (m : Int) (up : Bool) (rs kept : List (List Int)) : Prop := ∃ (n : Nat) (y : DSt) (B : Nat → Prop) (Ls : Sg), Cd W wr d mb n y B ∧ Tab W ∧ recsOf Ls = rs ∧ n ≤ i + 2 ∧ y.wn ≤ m + 3 + i ∧ 0 ≤ y.wn ∧ openN none Ls ≤ i + 1 ∧ Ls.length ≤ i ∧ (∃ V, y = ⟨true, false, 0, 0, y.wn, V⟩) ∧
  ((∃ segs, OldLog y.V dirX (openN none Ls, kept) segs ∧ segs.length ≤ i) ∨ (up = false ∧ DraftLog y.V dirX Ls))
theorem cd_off {W w : World} {d mb i : Nat} {m : Int} {up : Bool} {rs kept : List (List Int)} (h : CdAt W w d mb i m up rs kept) (keep : Int) (hk : -9223372036854775808 ≤ keep ∧ keep ≤ 9223372036854775807) :
    Calls Tryz.prog 20 #[.pointer (some ⟨d, 0, none⟩), .int .i64 keep] w fun e w' => e = .returned (.tuple #[]) ∧ CfAt W w' d mb i m up rs kept := by
  obtain ⟨n, y, B, Ls, h1, ht, h2, h3, h4, h5, h6, h7, h8⟩ := h
  refine (x_off W.heap.size d mb n y B keep w h1.disk hk).mono ?_
  rintro e w' ⟨rfl, hd', hs'⟩
  rcases h8 with ⟨rfl, ho, hok, hl⟩ | ⟨rfl, ⟨V, e⟩, hc⟩
  · have e1 : y.power keep = ⟨true, false, 0, 0, y.wn, lostV keep y.V⟩ := by
      unfold DSt.power
      rw [ho]
      rfl
    rw [e1] at hd'
    exact ⟨rfl, n, _, B, Ls, ⟨hd', hs'.from_ h1.from_ h1.low, h1.low, fun k hb => Nat.lt_of_lt_of_le (h1.ltB k hb) hs'.1.size⟩, ht, h2, h3, h4, h5, h6, h7, ⟨_, rfl⟩, .inl ⟨[], hl keep, Nat.zero_le _⟩⟩
  · have e1 : y.power keep = y := by
      rw [e]
      rfl
    rw [e1] at hd'
    refine ⟨rfl, n, y, B, Ls, ⟨hd', hs'.from_ h1.from_ h1.low, h1.low, fun k hb => Nat.lt_of_lt_of_le (h1.ltB k hb) hs'.1.size⟩, ht, h2, h3, h4, h5, h6, h7, ⟨V, e⟩, ?_⟩
    rcases hc with hc | ⟨segs, hc, hl⟩
    · exact .inr ⟨rfl, hc⟩
    · exact .inl ⟨segs, hc, by omega⟩
/-- .. and on again. -/
def CnAt (W wr : World) (d mb i : Nat) (m : Int) (up : Bool) (rs kept : List (List Int)) : Prop := ∃ (n : Nat) (y : DSt) (B : Nat → Prop) (Ls : Sg), Cd W wr d mb n y B ∧ Tab W ∧ recsOf Ls = rs ∧ n ≤ i + 2 ∧ y.wn ≤ m + 3 + i ∧ y.Calm ∧ openN none Ls ≤ i + 1 ∧ Ls.length ≤ i ∧
  ((∃ segs, OldLog y.V dirX (openN none Ls, kept) segs ∧ segs.length ≤ i) ∨ (up = false ∧ DraftLog y.V dirX Ls))
theorem cf_on {W w : World} {d mb i : Nat} {m : Int} {up : Bool} {rs kept : List (List Int)} (h : CfAt W w d mb i m up rs kept) (hi : i ≤ 1048572) (hm : m ≤ 9999999) :
    Calls Tryz.prog 21 #[.pointer (some ⟨d, 0, none⟩)] w fun e w' => e = .returned (.tuple #[]) ∧ CnAt W w' d mb i m up rs kept := by
  obtain ⟨n, y, B, Ls, h1, ht, h2, h3, h4, h5, h6, h7, ⟨V, ey⟩, h8⟩ := h
  refine (x_on W.heap.size d mb n y B w h1.disk).mono ?_
  rintro e w' ⟨rfl, hd', hs'⟩
  have ey2 : { y with off := false } = (⟨false, false, 0, 0, y.wn, V⟩ : DSt) := by rw [ey]
  have eV : y.V = V := by rw [ey]
  rw [ey2] at hd'
  rw [eV] at h8
  exact ⟨rfl, n, _, B, Ls, ⟨hd', hs'.from_ h1.from_ h1.low, h1.low, fun k hb => Nat.lt_of_lt_of_le (h1.ltB k hb) hs'.1.size⟩, ht, h2, h3, h4, ⟨rfl, rfl, ⟨⟨h5, by dsimp only; omega⟩, (fun h => by cases h), by dsimp only; decide⟩⟩, h6, h7, h8⟩
/-- The log that is open then, and what it told. -/
def VoAt (W wr : World) (d mb p : Nat) (R : List (List Int)) (lo : Nat) : Prop := ∃ (n : Nat) (x : DSt) (K : Kp) (Ls : Sg) (A B : Nat → Prop), (Se W wr d mb n x p dirX K Ls A B ∨ (Sr W wr d mb n x p dirX K Ls A B ∧ Ls = [])) ∧ cpRecs K ++ recsOf Ls = R ∧ n ≤ 1048574 ∧ x.wn ≤ 99999999 ∧ openN K Ls ≤ 2097152 ∧ Ls.length ≤ 1048573 ∧ ∀ k, A k ∨ B k → k < lo
theorem cn_open {W w : World} {d mb i : Nat} {m : Int} {up : Bool} {rs kept : List (List Int)} (h : CnAt W w d mb i m up rs kept) (hi : i ≤ 1048572) (hm : m ≤ 9999999) (hrs : rs.length ≤ 1048576) (hkp : kept.length ≤ 1048576) :
    Calls Tryz.prog 13 #[.pointer (some ⟨d, 0, none⟩), .string dirX] w fun e w' => ∃ (p : Nat) (v : Sl) (mm lo : Nat) (R : List (List Int)), e = .returned (.tuple #[.pointer (some ⟨p, 0, none⟩), slV v, .int .i64 0]) ∧ VoAt W w' d mb p R lo ∧ RecsLo lo w' (slV v) mm R ∧ (R = kept ∨ (up = false ∧ R = rs)) ∧ W.heap.size ≤ lo := by
  obtain ⟨n, y, B, Ls, h1, ht, h2, h3, h4, h5, h6, h7, h8⟩ := h
  rcases h8 with ⟨segs, hL, hsl⟩ | ⟨rfl, hL⟩
  · refine (s_openB h1.disk hL h5 h1.from_ h1.low h1.ltB ht dirX_ok (by omega) (by omega) (by dsimp only; omega) (by omega)).mono ?_
    rintro e w' ⟨p, v, mm, lo, n', x', A, B', rfl, k1, k2, k3, k4, k5, k6, k7, k8⟩
    refine ⟨p, v, mm, lo, kept, rfl, ⟨n', x', _, [], A, B', .inr ⟨k1, rfl⟩, List.append_nil _, by omega, by omega, ?_, by decide, k8⟩, k2, .inl rfl, Nat.le_trans h1.from_.size k7⟩
    show openN none Ls + 1 ≤ _
    omega
  · refine (s_openA h1.disk hL h5 h1.from_ h1.low h1.ltB ht dirX_ok (by omega) (by omega) (by rw [h2]; omega) (by omega)).mono ?_
    rintro e w' ⟨p, v, mm, lo, n', x', A, B', rfl, k1, k2, k3, k4, k5, k6, k7, k8⟩
    exact ⟨p, v, mm, lo, rs, rfl, ⟨n', x', none, Ls, A, B', .inl k1, h2, by omega, by omega, by omega, by omega, k8⟩, h2 ▸ k2, .inr ⟨rfl, rfl⟩, Nat.le_trans h1.from_.size k7⟩
theorem VoAt.grown {W w w' : World} {d mb p lo : Nat} {R : List (List Int)} (h : VoAt W w d mb p R lo) (hg : w.grownBy w' none) : VoAt W w' d mb p R lo := by
  obtain ⟨n, x, K, Ls, A, B, h1, h2⟩ := h
  exact ⟨n, x, K, Ls, A, B, h1.elim (fun h => .inl (h.grown hg)) (fun h => .inr ⟨h.1.grown hg, h.2⟩), h2⟩
theorem VoAt.from_ {W w : World} {d mb p lo : Nat} {R : List (List Int)} (h : VoAt W w d mb p R lo) : W.grownBy w none := by
  obtain ⟨n, x, K, Ls, A, B, h1, h2⟩ := h
  exact h1.elim (fun h => h.from_) (fun h => h.1.from_)
/-- .. with a record more. -/
def VpAt (W wr : World) (d mb p : Nat) (R : List (List Int)) (lo s : Nat) : Prop := ∃ (n : Nat) (x : DSt) (K : Kp) (Ls : Sg) (A B : Nat → Prop), (Se W wr d mb n x p dirX K Ls A B ∨ Sr W wr d mb n x p dirX K Ls A B) ∧ cpRecs K ++ recsOf Ls = R ∧ n ≤ 1048575 ∧ x.wn ≤ 199999999 ∧ openN K Ls ≤ 2097153 ∧ Ls.length ≤ 1048574 ∧ ∀ k, k < s → A k ∨ B k → k < lo
theorem vo_append {W w : World} {d mb p lo : Nat} {R : List (List Int)} (h : VoAt W w d mb p R lo) (a : Option Addr) (zs : List Int) (L cap : Nat) (hr : Rd w a zs) (hL : zs.length = L) (hnil : a = none → cap = 0) (hz : L ≤ 65536) :
    Calls Tryz.prog 17 #[.pointer (some ⟨p, 0, none⟩), .slice a L cap] w fun e w' => e = .returned (.int .i64 0) ∧ VpAt W w' d mb p (R ++ [zs]) lo w.heap.size ∧ Kept w w' (fun k => k < lo) := by
  obtain ⟨n, x, K, Ls, A, B, h1, h2, h3, h4, h5, h6, h7⟩ := h
  have hlen := addL_len K Ls zs
  have hrec : cpRecs K ++ recsOf (addL K Ls zs) = R ++ [zs] := by rw [recsOf_add, ← List.append_assoc, h2]
  have hlog : Log x.V dirX K Ls := h1.elim (fun h => h.log) (fun h => h.1.log)
  have hcalm : x.Calm := h1.elim (fun h => h.calm) (fun h => h.1.calm)
  have had := log_add (rec := zs) hlog hcalm (by omega) (by omega) (by omega)
  have hop : openN K (addL K Ls zs) ≤ 2097153 := by
    rw [← had.op]
    have := rollX_le x dirX (openN K Ls)
    omega
  rcases h1 with h1 | ⟨h1, rfl⟩
  · refine (s_append h1 dirX_ok a zs L cap (by omega) (by omega) (by omega) (by omega) hr hL hnil hz).mono ?_
    rintro e w' ⟨rfl, n', A', B', k1, k2, k3, k4⟩
    exact ⟨rfl, ⟨n', _, K, _, A', B', .inl k3, hrec, by omega, by omega, hop, by omega, fun k hk hx => h7 k (hx.elim (fun ha => .inl (k4.oldA k hk ha)) (fun hb => .inr (k4.oldB k hk hb)))⟩, k4.kept.mono (fun k _ hx => h7 k hx)⟩
  · refine (r_append h1 dirX_ok a zs L cap (by omega) (by omega) (by omega) hr hL hnil hz).mono ?_
    rintro e w' ⟨rfl, n', A', B', k1, k2, k3, k4⟩
    exact ⟨rfl, ⟨n', _, K, _, A', B', .inr k3, hrec, by omega, by omega, hop, by omega, fun k hk hx => h7 k (hx.elim (fun ha => .inl (k4.oldA k hk ha)) (fun hb => .inr (k4.oldB k hk hb)))⟩, k4.kept.mono (fun k _ hx => h7 k hx)⟩
/-- .. and synced. -/
def VdAt (W wr : World) (d mb : Nat) (R : List (List Int)) : Prop := ∃ (n : Nat) (x : DSt) (K : Kp) (Ls : Sg) (B : Nat → Prop), De W wr d mb n x dirX K Ls B ∧ cpRecs K ++ recsOf Ls = R ∧ n ≤ 1048575 ∧ Ls.length ≤ 1048574
theorem vp_sync {W w : World} {d mb p lo s : Nat} {R : List (List Int)} (h : VpAt W w d mb p R lo s) :
    Calls Tryz.prog 19 #[.pointer (some ⟨p, 0, none⟩)] w fun e w' => e = .returned (.int .i64 0) ∧ VdAt W w' d mb R ∧ Kept w w' (fun k => k < lo ∨ s ≤ k) := by
  obtain ⟨n, x, K, Ls, A, B, h1, h2, h3, h4, h5, h6, h7⟩ := h
  have hX : ∀ k, A k ∨ B k → k < lo ∨ s ≤ k := fun k hx => by
    rcases Nat.lt_or_ge k s with h | h
    · exact .inl (h7 k h hx)
    · exact .inr h
  rcases h1 with h1 | h1
  · refine (s_sync h1 dirX_ok (by omega) (by omega) (by omega)).mono ?_
    rintro e w' ⟨rfl, n', B', k1, k2, k3, k4⟩
    exact ⟨rfl, ⟨n', _, K, Ls, B', k3.de, h2, by omega, h6⟩, k4.kept.mono (fun k _ hx => hX k hx)⟩
  · refine (r_sync h1 dirX_ok (by omega) (by omega) (by omega)).mono ?_
    rintro e w' ⟨rfl, n', B', k1, k2, k3, k4⟩
    exact ⟨rfl, ⟨n', _, K, Ls, B', k3.de, h2, by omega, h6⟩, k4.kept.mono (fun k _ hx => hX k hx)⟩
theorem vd_open {W w : World} {d mb : Nat} {R : List (List Int)} (h : VdAt W w d mb R) (hR : R.length ≤ 4194304) :
    Calls Tryz.prog 13 #[.pointer (some ⟨d, 0, none⟩), .string dirX] w fun e w' => ∃ (p : Nat) (v : Sl) (mm lo : Nat), e = .returned (.tuple #[.pointer (some ⟨p, 0, none⟩), slV v, .int .i64 0]) ∧ RecsLo lo w' (slV v) mm R ∧ w.grownBy w' none ∧ W.grownBy w' none := by
  obtain ⟨n, x, K, Ls, B, h1, h2, h3, h4⟩ := h
  refine (s_open h1 dirX_ok (by omega) (by rw [h2]; exact hR) (by omega)).mono ?_
  rintro e w' ⟨p, v, m, lo, A, rfl, k1, k2, k3, k4, k5⟩
  rw [h2] at k2
  exact ⟨p, v, m, lo, rfl, k2, k3, k1.from_⟩
theorem VdAt.from_ {W w : World} {d mb : Nat} {R : List (List Int)} (h : VdAt W w d mb R) : W.grownBy w none := by
  obtain ⟨n, x, K, Ls, B, h1, h2⟩ := h
  exact h1.from_
theorem RecsLo.keptK {w w' : World} {lo m : Nat} {v : Sl} {R : List (List Int)} {X : Nat → Prop} (h : RecsLo lo w (slV v) m R) (hk : Kept w w' X) (hX : ∀ k, lo ≤ k → k < w.heap.size → ¬ X k) : RecsLo lo w' (slV v) m R := by
  obtain ⟨ts, r1, r2, r3, r4⟩ := h
  exact ⟨ts, sown_keptK r1 hk (fun k hkb => hX k (r1.block k hkb).1 (r1.block k hkb).2), r2.keptK hk (fun k hkl hk2 => hX k hkl hk2), r3, r4⟩
theorem RecsLo.inn {w : World} {lo m : Nat} {v : Sl} {R : List (List Int)} (h : RecsLo lo w (slV v) m R) (hlen : ∀ r ∈ R, r.length ≤ 65536) : ∃ ts, RecsIn w v.1 ts R ∧ R.length = v.2.1 := by
  obtain ⟨ts, k1, k2, k3, k4⟩ := h
  obtain ⟨va, vn, vc⟩ := v
  obtain ⟨_, _, e4⟩ := sownSl k1
  have e5 : vn = m := by unfold slV at e4; injection e4
  subst e5
  refine ⟨ts, ⟨SOwn.rd k1, k2.len, fun j t r ht hr => ?_⟩, k3.symm⟩
  have := k2.get j t r ht hr
  exact ⟨this.1, this.2.2.2.1, this.2.2.1, by have := hlen r (List.mem_of_getElem? hr); omega⟩
theorem RecsLo.keep {w : World} {lo m : Nat} {v : Sl} {R : List (List Int)} (h : RecsLo lo w (slV v) m R) (hlen : ∀ r ∈ R, r.length ≤ 65536) : ∃ ts, KeepIs w v.1 ts R := by
  obtain ⟨ts, h1, h2⟩ := h.inn hlen
  exact ⟨ts, h1.rd, h1.len, fun j t r ht hr => ⟨(h1.at_ j t r ht hr).1, (h1.at_ j t r ht hr).2.1, (h1.at_ j t r ht hr).2.2.1, hlen r (List.mem_of_getElem? hr)⟩⟩
/-- A copy, and one record behind it. -/
theorem nine_reads {w2 w3 : World} {lo m g k3 : Nat} {v : Sl} {R : List (List Int)} {ts : List Sl} (z : Int) (hz : 0 ≤ z ∧ z ≤ 255) (h1 : SOwn slE 27 w2 lo (slV v) m ts) (h2 : RecsAt w2 lo (slV v).ownBlock ts R) (hlen : ∀ r ∈ R, r.length ≤ 65536) (hlo : lo ≤ w2.heap.size)
    (ho3 : SOwn slE 27 w3 lo (.slice (some ⟨g, 0, none⟩) (m + 1) k3) (m + 1) (ts ++ [(some ⟨w2.heap.size, 0, none⟩, 1, 1)])) (hg3 : ((w2.alloc (.cells #[.int .u8 z] 5)).alloc (.cells #[.slice (some ⟨w2.heap.size, 0, none⟩) 1 1] 27)).grownBy w3 (Value.ownBlock (slV v))) (hgg : Value.ownBlock (slV v) = some g ∨ g = ((w2.alloc (.cells #[.int .u8 z] 5)).alloc (.cells #[.slice (some ⟨w2.heap.size, 0, none⟩) 1 1] 27)).heap.size) :
    Reads w3 (some ⟨g, 0, none⟩) (ts ++ [(some ⟨w2.heap.size, 0, none⟩, 1, 1)]) (R ++ [[z]]) ∧ w2.grownBy w3 (Value.ownBlock (slV v)) := by
  have hal1 := World.grownBy_alloc w2 (.cells #[.int .u8 z] 5) none
  have hal2 := World.grownBy_alloc (w2.alloc (.cells #[.int .u8 z] 5)) (.cells #[.slice (some ⟨w2.heap.size, 0, none⟩) 1 1] 27) none
  have hs1 : (w2.alloc (.cells #[.int .u8 z] 5)).heap.size = w2.heap.size + 1 := Array.size_push _
  have hs2 : ((w2.alloc (.cells #[.int .u8 z] 5)).alloc (.cells #[.slice (some ⟨w2.heap.size, 0, none⟩) 1 1] 27)).heap.size = w2.heap.size + 1 + 1 := by rw [← hs1]; exact Array.size_push _
  have hbl := h1.block
  refine ⟨⟨SOwn.rd ho3, ?_, fun j t r ht hr => ?_⟩, ?_⟩
  · rw [List.length_append, List.length_append, h2.len]
    rfl
  · have h2' : RecsAt w3 lo (some g) ts R := by
      refine (h2.kept (hal1.trans hal2) (fun k hk => by cases hk)).step hg3 (fun k' hk => ?_)
      have e : g = k' := Option.some.inj hk
      subst e
      rcases hgg with h | h
      · exact .inr h
      · exact .inl (Nat.le_of_eq h.symm)
    rcases Nat.lt_or_ge j ts.length with hj | hj
    · rw [List.getElem?_append_left hj] at ht
      rw [List.getElem?_append_left (by rw [← h2.len]; exact hj)] at hr
      have := h2'.get j t r ht hr
      exact ⟨this.1, this.2.2.2.1, by have := hlen r (List.mem_of_getElem? hr); omega⟩
    · rw [List.getElem?_append_right hj] at ht
      rw [List.getElem?_append_right (by rw [← h2.len]; exact hj), ← h2.len] at hr
      have e0 : j - ts.length = 0 := by
        have := (List.getElem?_eq_some_iff.1 ht).1
        simp at this
        omega
      rw [e0] at ht hr
      cases ht
      cases hr
      refine ⟨rfl, ?_, by simp⟩
      have hl := (lit_own w2 z hz)
      refine srd_rd (SRd.grown (SRd.grown (SOwn.rd hl) hal2 (by simp)) hg3 (fun x hx e => ?_)) (fun y hy => by simp at hy; subst hy; exact hz)
      cases hx
      have := (hbl _ e.symm).2
      dsimp only at this
      omega
  · exact gb_trans (gb_any (hal1.trans hal2) _) hg3 (fun k hk => .inr hk)
end Go.Proofs.YtekejnjaiccnbaaGreatDoor

/- WalCuts: the walk. -/
namespace Go.Proofs.YtekejnjaiccnbaaGreatDoor
open Go.RowKit Go.Maps Go.Sort
set_option linter.unusedVariables false
set_option maxRecDepth 20000

theorem wpList_append_g {α : Type} {E : Elem α} {P : Program} {t e : TypeId} {bytes : Nat} (T : ElemOf E P t e bytes) {w : World} {ops : Array Oper} {rest : List Oper} {o : Oper} {a : Act} {Q : Exit → Act → World → Prop} (hw : Region.wanted o (yielded ops a.tmps) = true) (s x : Operand)
    (ho : o.op = .call { callee := .builtin .append, args := #[s, x], argTypes := #[t, t] }) (base : Nat) (v : Value) (n : Nat) (xs : List α) (hs : a.eval s = v) (hown : SOwn E e w base v n xs)
    (ad : Addr) (zs : List α) (m cap : Nat) (hx : a.eval x = .slice (some ad) m cap) (hm : zs.length = m) (hr : SRd E w (some ad) zs) (hm0 : 0 < m) (hlen : (n + m) * bytes ≤ 140737488355328) (hmax : n + m ≤ maxLen) (hb : base ≤ w.heap.size)
    (h : ∀ g c w', SOwn E e w' base (.slice (some ⟨g, 0, none⟩) (n + m) c) (n + m) (xs ++ zs) → w.grownBy w' v.ownBlock → (v.ownBlock = some g ∨ g = w.heap.size) → wpList P ops Q rest (a.put o.dst (.slice (some ⟨g, 0, none⟩) (n + m) c)) w') : wpList P ops Q (o :: rest) a w := by
  obtain ⟨i0, z, hi, hz0, hz1, hz2, hz3⟩ := T.info
  subst hm
  show if Region.wanted o (yielded ops a.tmps) then _ else _
  rw [if_pos hw]
  refine .inl (wp_append_lies w s x t ho base e i0 z E.size bytes T.under hi hz0 hz1 hz2 hz3 E.pos _ n (E.flat xs) hs hown ad zs.length cap (E.flat zs) hx (E.flat_len zs) hr.news (E.flat_one zs) hm0 hmax hlen hb w.heap.size rfl ?_)
  intro g c w' hown' hg hgg _
  rw [← E.flat_app] at hown'
  exact h g c w' hown' hg hgg
/-- What the lists take up, by the law's count. -/
def kSum : List (List Int) → Nat
  | [] => 0
  | r :: l => r.length + 10 + kSum l
theorem kSum_app (l : List (List Int)) (r : List Int) : kSum (l ++ [r]) = kSum l + r.length + 10 := by
  induction l with
  | nil => simp [kSum]
  | cons z l ih => simp only [List.cons_append, kSum, ih]; omega
theorem kSum_le : ∀ (l : List (List Int)), (∀ r ∈ l, r.length ≤ 65536) → kSum l ≤ 65546 * l.length
  | [], _ => by simp [kSum]
  | r :: l, h => by
    have h1 := h r (by simp)
    have h2 := kSum_le l (fun z hz => h z (by simp [hz]))
    simp only [kSum, List.length_cons]
    omega
theorem frame_len2 (zs : List Int) (h : zs.length ≤ 65536) : (frameR zs).length ≤ zs.length + 10 := by
  have h1 := enc_len_le 2 zs.length (by omega)
  have h4 : (four (sumR zs)).length = 4 := rfl
  rw [frameR]
  simp only [List.length_append, h4]
  omega
theorem logB_sum : ∀ (l : List (List Int)), (∀ r ∈ l, r.length ≤ 65536) → (logB frameR l).length ≤ kSum l
  | [], _ => by simp [logB, kSum]
  | r :: l, h => by
    have h1 := frame_len2 r (h r (by simp))
    have h2 := logB_sum l (fun z hz => h z (by simp [hz]))
    have e : logB frameR (r :: l) = frameR r ++ logB frameR l := by simp [logB]
    rw [e, List.length_append]
    simp only [kSum]
    omega
theorem RecsLo.innL {w : World} {lo m : Nat} {v : Sl} {R : List (List Int)} (h : RecsLo lo w (slV v) m R) (hlen : ∀ r ∈ R, r.length ≤ 1048576) : ∃ ts, RecsIn w v.1 ts R ∧ R.length = v.2.1 := by
  obtain ⟨ts, k1, k2, k3, k4⟩ := h
  obtain ⟨va, vn, vc⟩ := v
  obtain ⟨_, _, e4⟩ := sownSl k1
  have e5 : vn = m := by unfold slV at e4; injection e4
  subst e5
  refine ⟨ts, ⟨SOwn.rd k1, k2.len, fun j t r ht hr => ?_⟩, k3.symm⟩
  have := k2.get j t r ht hr
  exact ⟨this.1, this.2.2.2.1, this.2.2.1, hlen r (List.mem_of_getElem? hr)⟩
set_option maxHeartbeats 16000000 in
theorem w_cuts (a : Option Addr) (ts : List Sl) (recs : List (List Int)) (N c : Nat) (b : Option Addr) (us : List Sl) (kept : List (List Int)) (M cb : Nat) (writes keep : Int) (w : World) (ht : Tab w) (hr : RecsIn w a ts recs) (hN : recs.length = N) (hk : RecsIn w b us kept) (hM : kept.length = M) (hNM : N + M ≤ 1048572) (hkp : -9223372036854775808 ≤ keep ∧ keep ≤ 9223372036854775807) :
    Calls Tryz.prog 5 #[.slice a N c, .slice b M cb, .int .i64 writes, .int .i64 keep] w fun e w' => e = .returned (.bool true) ∧ w.grownBy w' none := by
  have HT : Hid (Tab w) := ht
  have HR : Hid (RecsIn w a ts recs) := hr
  have HK : Hid (RecsIn w b us kept) := hk
  have HN : Hid (recs.length = N) := hN
  have HM : Hid (kept.length = M) := hM
  have HKP : Hid (-9223372036854775808 ≤ keep ∧ keep ≤ 9223372036854775807) := hkp
  clear ht hr hk hN hM hkp
  go_enter Tryz.func5, Tryz.ntmps5
  go_wp2_with fail
  refine (v_new w).mono ?_
  rintro e w1 ⟨d, mb, B0, rfl, hd1, hg1, hl1⟩
  have hDe1 : De w w1 d mb 0 x0 dirX none [] (fun k => B0 k ∧ k < w1.heap.size) := ⟨DS.bound hd1, log0 dirX, x0_calm, hg1, fun k hk => hl1 k hk.1, fun k hk => hk.2, HT.out⟩
  have HO1 := s_open hDe1 dirX_ok (by decide) (by decide) (by decide)
  clear hd1 hg1 hl1 hDe1
  go_wp2_with fail
  refine HO1.mono ?_
  rintro e w2 ⟨p, v0, m0, lo0, A0, rfl, hSe2, hro2, _, _, _⟩
  obtain ⟨ts2, _, _, _, hnil2⟩ := hro2
  rw [hnil2 rfl]
  have HTW : Hid (TsAt w w2 d mb 0 (3 * (0 : Nat)) p (recs.take 0)) := ⟨0, x0, [], _, _, hSe2, .inl ⟨rfl, rfl⟩, rfl, by omega, by decide, by decide, by decide⟩
  clear HO1 hSe2 hnil2
  go_wp2_with fail
  go_loopw [13] (fun t13 wr => ∃ i : Nat, i ≤ N ∧ t13 = .int .i64 i ∧ TsAt w wr d mb i (3 * (i : Int)) p (recs.take i)) (fun t13 _ => N - (intOf t13).toNat)
  case atStart => exact ⟨0, Nat.zero_le _, rfl, HTW.out⟩
  case round =>
    obtain ⟨i, hi, rfl, htw⟩ := hrel
    have HW : Hid (TsAt w wr d mb i (3 * (i : Int)) p (recs.take i)) := htw
    by_cases hlt : i < N
    · have hii : (i : Int) < (N : Int) := by omega
      obtain ⟨b1, o1, t, r, rfl, hcl, hri, hl, hrd, hnil, hlen⟩ := HR.out.get (i := i) (by rw [HN.out]; exact hlt)
      obtain ⟨ta, tn, tc⟩ := t
      dsimp only at hcl hl hrd hnil
      have c1 := hcl wr htw.from_
      have HRD : Hid (Rd w ta r) := hrd
      have HL : Hid (tn = r.length) := hl
      have HNIL : Hid (ta = none → tc = 0) := hnil
      have HTA : Hid (recs.take (i + 1) = recs.take i ++ [r]) := by show _ = _; rw [List.take_add_one, hri]; rfl
      clear hri hnil hrd hcl
      by_cases hbig : 65536 < tn
      · have hbb : (65536 : Int) < (tn : Int) := by omega
        have haw := w_awake wr (HT.out.grown htw.from_)
        have HF : Hid (w.grownBy wr none) := htw.from_
        clear htw hl
        go_wp2_with fail
        refine haw.mono ?_
        rintro e w6 ⟨rfl, hg6⟩
        have HF6 : Hid (w.grownBy w6 none) := HF.out.trans hg6
        clear haw hg6
        go_wp2
        go_ret
        exact ⟨rfl, HF6.out⟩
      · have hbb : ¬ (65536 : Int) < (tn : Int) := by omega
        have HC : Hid (Calls Tryz.prog 18 #[.slice ta tn tc] wr fun e w' => ∃ g c, e = .returned (.slice (some ⟨g, 0, none⟩) tn c) ∧ Own w' wr.heap.size g tn c r ∧ wr.grownBy w' none) := by
          show Calls _ _ _ _ _
          rw [hl]
          exact copy_any ta r tc wr (HRD.out.grown htw.from_ (by simp)) HNIL.out (by omega)
        clear htw hl
        go_wp2_with fail
        refine HC.out.mono ?_
        rintro e w3 ⟨g3, c3, rfl, hown3, hg3⟩
        have HA : Hid (Calls Tryz.prog 17 #[.pointer (some ⟨p, 0, none⟩), .slice (some ⟨g3, 0, none⟩) tn c3] w3 fun e w' => e = .returned (.int .i64 0) ∧ TsAt w w' d mb (i + 1) (3 * (i : Int) + 2) p (recs.take i ++ [r])) := ts_append (HW.out.grown hg3) (some ⟨g3, 0, none⟩) r tn c3 hown3.rd HL.out.symm (by simp) (by omega) (by omega) (by omega)
        clear hown3 hg3 HC
        go_wp2_with fail
        refine HA.out.mono ?_
        rintro e w4 ⟨rfl, h4⟩
        have HW4 : Hid (TsAt w w4 d mb (i + 1) (3 * ((i + 1 : Nat) : Int)) p (recs.take (i + 1))) := by
          obtain ⟨n, x, Ls, A, B, h1, h2, h6, h7, h8, h9⟩ := h4
          exact ⟨n, x, Ls, A, B, h1, h2, by rw [HTA.out]; exact h6, h7, by omega, h9⟩
        clear h4 HA
        go_wp2
        go_roundw
        case rel => exact ⟨i + 1, by omega, by go_num, HW4.out⟩
        case measure => simp [intOf]; omega
    · have hii : ¬ (i : Int) < (N : Int) := by omega
      have hiN : i = N := by omega
      have HW2 : Hid (TsAt w wr d mb N (3 * (N : Int)) p recs) := by
        rw [hiN, List.take_of_length_le (by rw [HN.out]; omega)] at htw
        exact htw
      clear htw HW
      go_wp2_with fail
      rename World => w0
      have HSR : Hid (∀ r ∈ recs, r.length ≤ 65536) := by
        show ∀ r ∈ _, _
        obtain ⟨n, x, Ls, A, B, h1, _, h2, _⟩ := HW2.out
        rw [← h2]
        exact recs_short h1.log
      go_loopw [14, 15] (fun t14 t15 wr => ∃ j : Nat, j ≤ M ∧ t14 = .int .i64 (kSum (kept.take j) : Int) ∧ t15 = .int .i64 j ∧ w0.grownBy wr none ∧ ∀ r ∈ kept.take j, r.length ≤ 65536) (fun _ t15 _ => M - (intOf t15).toNat)
      case atStart => exact ⟨0, Nat.zero_le _, rfl, rfl, World.grownBy.refl _ _, by simp⟩
      case round =>
        obtain ⟨j, hj, rfl, rfl, hgk, hsm⟩ := hrel
        have HSM : Hid (∀ r ∈ kept.take j, r.length ≤ 65536) := hsm
        have HTk : Hid (TsAt w wr d mb N (3 * (N : Int)) p recs) := HW2.out.grown hgk
        have HGk : Hid (w0.grownBy wr none) := hgk
        have hSle := kSum_le (kept.take j) hsm
        rw [List.length_take] at hSle
        obtain ⟨S, eS⟩ : ∃ S, S = kSum (kept.take j) := ⟨_, rfl⟩
        rw [← eS] at hSle ⊢
        have ES : Hid (S = kSum (kept.take j)) := eS
        have hS7 : (S : Int) ≤ 70000000000 := by omega
        have hS0 : (0 : Int) ≤ (S : Int) := by omega
        clear hgk hsm hSle eS
        by_cases hlt2 : j < M
        · have hjj : (j : Int) < (M : Int) := by omega
          obtain ⟨b2, o2, t, r, eb, hcl, hri, hl, hrd, hnil, hlen⟩ := HK.out.get (i := j) (by rw [HM.out]; exact hlt2)
          have EB : Hid (b = some ⟨b2, o2, none⟩) := eb
          obtain ⟨ta, tn, tc⟩ := t
          dsimp only at hcl hl hrd hnil
          have c2 := hcl wr HTk.out.from_
          have HL : Hid (tn = r.length) := hl
          have HRI : Hid (kept[j]? = some r) := hri
          subst eb
          clear hnil hrd hcl hl hri
          by_cases hbig2 : 65536 < tn
          · have hbb : (65536 : Int) < (tn : Int) := by omega
            have HCL := l_copyLists (some ⟨b2, o2, none⟩) us kept M cb w wr HK.out HTk.out.from_ HM.out (by omega)
            go_wp2_with fail
            refine HCL.mono ?_
            rintro e w4 ⟨v4, rfl, hlo4, hg4⟩
            obtain ⟨ts4, hin4, hl4⟩ := hlo4.innL (fun r hr => by
              obtain ⟨k, hk⟩ := List.mem_iff_getElem?.1 hr
              obtain ⟨_, _, _, r', _, _, h1, _, _, _, h2⟩ := HK.out.get (i := k) (List.getElem?_eq_some_iff.1 hk).1
              rw [hk] at h1
              cases h1
              exact h2)
            obtain ⟨va, vn, vc⟩ := v4
            have hvn : M = vn := HM.out.symm.trans hl4
            subst hvn
            have hcu := w_cutL p va M vc ts4 kept w4 ⟨hin4.rd, hin4.len, hin4.at_⟩ HM.out (by omega) j r HRI.out (by have := HL.out; omega) (fun k z hk hz => HSM.out z (List.mem_iff_getElem?.2 ⟨k, by rw [List.getElem?_take, if_pos hk]; exact hz⟩))
            have HF4 : Hid (w.grownBy w4 none) := HTk.out.from_.trans hg4
            clear HCL hlo4 hg4 hin4 hl4
            unfold slV
            go_wp2_with fail
            refine hcu.mono ?_
            rintro e w5 ⟨rfl, hg5⟩
            have HF5 : Hid (w.grownBy w5 none) := HF4.out.trans hg5
            clear hcu hg5
            have haw := w_awake w5 (HT.out.grown HF5.out)
            have HFx : Hid (w.grownBy w5 none) := HF5.out

            go_wp2_with fail
            refine haw.mono ?_
            rintro e wz ⟨rfl, hgz⟩
            have HFz : Hid (w.grownBy wz none) := HFx.out.trans hgz
            clear haw hgz
            go_wp2
            go_ret
            exact ⟨rfl, HFz.out⟩
          · have hbb : ¬ (65536 : Int) < (tn : Int) := by omega
            have htn : (tn : Int) ≤ 65536 := by omega
            have htn0 : (0 : Int) ≤ (tn : Int) := by omega
            have htk : kept.take (j + 1) = kept.take j ++ [r] := by rw [List.take_add_one, HRI.out]; rfl
            have HKS : Hid (kSum (kept.take (j + 1)) = S + tn + 10) := by show _ = _; rw [htk, kSum_app, ES.out, HL.out]
            have HSM2 : Hid (∀ r ∈ kept.take (j + 1), r.length ≤ 65536) := by
              show ∀ r ∈ _, _
              rw [htk]
              intro z hz
              rcases List.mem_append.1 hz with hz | hz
              · exact HSM.out z hz
              · simp at hz; subst hz; have := HL.out; omega
            clear htk
            go_wp2
            go_roundw
            case rel => exact ⟨j + 1, by omega, by rw [HKS.out]; go_num, by go_num, HGk.out, HSM2.out⟩
            case measure => simp [intOf]; omega
        · have hjj : ¬ (j : Int) < (M : Int) := by omega
          have htk : kept.take j = kept := List.take_of_length_le (by rw [HM.out]; omega)
          have HSK : Hid (∀ r ∈ kept, r.length ≤ 65536) := by have := HSM.out; rw [htk] at this; exact this
          have HSE : Hid (S = kSum kept) := by have := ES.out; rw [htk] at this; exact this
          have HFk : Hid (w.grownBy wr none) := HTk.out.from_
          clear htk
          by_cases hall : 4194304 < S
          · have hal2 : (4194304 : Int) < (S : Int) := by omega
            have haw := w_awake wr (HT.out.grown HFk.out)
            have HFx : Hid (w.grownBy wr none) := HFk.out

            go_wp2_with fail
            refine haw.mono ?_
            rintro e wz ⟨rfl, hgz⟩
            have HFz : Hid (w.grownBy wz none) := HFx.out.trans hgz
            clear haw hgz
            go_wp2
            go_ret
            exact ⟨rfl, HFz.out⟩
          · have hal2 : ¬ (4194304 : Int) < (S : Int) := by omega
            have HLOG : Hid ((logB frameR kept).length ≤ 4194304) := by
              show _ ≤ _
              have h1 := logB_sum kept HSK.out
              rw [← HSE.out] at h1
              omega
            have hsy := ts_sync HTk.out (by omega) (by omega)
            go_wp2_with fail
            refine hsy.mono ?_
            rintro e w5 ⟨rfl, h5⟩
            have H5 : Hid (CsAt w w5 d mb N (3 * (N : Int) + 1) p recs) := h5
            clear hsy h5
            go_wp2_with fail
            refine (Low_any writes w5).mono ?_
            rintro e _ ⟨r, rfl, hr0, hr1, rfl⟩
            have hk12 : 0 ≤ r % 12 ∧ r % 12 ≤ 9223372036854775807 := by omega
            have har := cs_arm H5.out (r % 12) keep hk12 HKP.out
            go_wp2_with fail
            refine har.mono ?_
            rintro e w6 ⟨rfl, h6⟩
            have H6 : Hid (CaAt w w6 d mb N (3 * (N : Int) + 1) p recs) := h6
            have HCL := l_copyLists b us kept M cb w w6 HK.out h6.from_ HM.out (by omega)
            clear har h6 hk12 hr0 hr1
            go_wp2_with fail
            refine HCL.mono ?_
            rintro e w7 ⟨v7, rfl, hlo7, hg7⟩
            obtain ⟨ts7, hk7⟩ := hlo7.keep HSK.out
            obtain ⟨_, _, hl7⟩ := hlo7.inn HSK.out
            obtain ⟨va, vn, vc⟩ := v7
            have hvn : M = vn := HM.out.symm.trans hl7
            subst hvn
            have hcu := ca_cut (H6.out.grown hg7) va M vc ts7 kept hk7 HM.out (by omega) HLOG.out HSK.out (by omega) (by omega)
            clear HCL hlo7 hg7 hk7 hl7
            unfold slV
            go_wp2_with fail
            refine hcu.mono ?_
            rintro e w8 (⟨rfl, h8⟩ | ⟨rfl, h8⟩)
            · have H8 : Hid (CdAt w w8 d mb N (3 * (N : Int) + 1) true recs kept) := h8
              have hup := cd_up h8
              clear hcu h8
              go_wp2_with fail
              refine hup.mono ?_
              rintro e _ ⟨rfl, rfl⟩
              have hof := cd_off H8.out keep HKP.out
              clear hup
              go_wp2_with fail
              refine hof.mono ?_
              rintro e w9 ⟨rfl, h9⟩
              have hon := cf_on h9 (by omega) (by omega)
              clear hof h9
              go_wp2_with fail
              refine hon.mono ?_
              rintro e wa ⟨rfl, ha⟩
              have hop := cn_open ha (by omega) (by omega) (by rw [HN.out]; omega) (by rw [HM.out]; omega)
              clear hon ha
              go_wp2_with fail
              refine hop.mono ?_
              rintro e wb ⟨pb, vb, mm, lo, RR, rfl, hVo, hro, hR, hlo⟩
              have HVO : Hid (VoAt w wb d mb pb RR lo) := hVo
              have HFwb : Hid (w.grownBy wb none) := hVo.from_
              have HGwb : Hid (wb.grownBy wb none) := World.grownBy.refl _ _
              have HLR : Hid (∀ r ∈ RR, r.length ≤ 65536) := by
                show ∀ r ∈ _, _
                rcases hR with e | ⟨_, e⟩
                · rw [e]; exact HSK.out
                · rw [e]; exact HSR.out
              obtain ⟨tsR, hRd, hlR⟩ := hro.inn HLR.out
              obtain ⟨v1, NR, v3⟩ := vb
              have HNR : Hid (RR.length = NR) := hlR
              have hNR : NR ≤ 1048576 := by
                rw [← HNR.out]
                rcases hR with e | ⟨_, e⟩
                · rw [e, HM.out]; omega
                · rw [e, HN.out]; omega
              have HRR : Hid (RecsIn wb v1 tsR RR) := hRd
              have HRO : Hid (RecsLo lo wb (slV (v1, NR, v3)) mm RR) := hro
              clear hop hVo hro hRd hlR
              unfold slV
              have HRE : Hid (RR = kept) := hR.elim id (fun h => by cases h.1)
              clear hR
              have hqwq := l_sameLists v1 b tsR us RR kept NR M v3 cb wb (HRR.out.reads HGwb.out) (HK.out.reads HFwb.out) HNR.out HM.out (by omega)
              rw [decide_eq_true HRE.out] at hqwq
              go_wp2_with fail
              refine hqwq.mono ?_
              rintro e wq ⟨rfl, hgwq⟩
              have HGwq : Hid (wb.grownBy wq none) := HGwb.out.trans hgwq
              have HFwq : Hid (w.grownBy wq none) := HFwb.out.trans hgwq
              clear hqwq hgwq
              have hqws := l_sameLists v1 b tsR us RR kept NR M v3 cb wq (HRR.out.reads HGwq.out) (HK.out.reads HFwq.out) HNR.out HM.out (by omega)
              rw [decide_eq_true HRE.out] at hqws
              go_wp2_with fail
              refine hqws.mono ?_
              rintro e ws ⟨rfl, hgws⟩
              have HGws : Hid (wb.grownBy ws none) := HGwq.out.trans hgws
              have HFws : Hid (w.grownBy ws none) := HFwq.out.trans hgws
              clear hqws hgws
              have hg9 : ws.grownBy (ws.alloc (.cells #[.int .u8 9] 5)) none := World.grownBy_alloc _ _ none
              have hrd9 : Rd (ws.alloc (.cells #[.int .u8 9] 5)) (some ⟨ws.heap.size, 0, none⟩) [9] := srd_rd (SOwn.rd (lit_own ws 9 (by decide))) (fun y hy => by simp at hy; subst hy; decide)
              have hap := vo_append (HVO.out.grown (HGws.out.trans hg9)) (some ⟨ws.heap.size, 0, none⟩) [9] 1 1 hrd9 rfl (by simp) (by decide)
              have HRO2 : Hid (RecsLo lo (ws.alloc (.cells #[.int .u8 9] 5)) (slV (v1, NR, v3)) mm RR) := HRO.out.keptK (Kept.of (HGws.out.trans hg9) (X := fun _ => False) (fun k hk => by cases hk)) (fun _ _ _ h => h)
              clear hg9 hrd9
              go_wp2_with fail
              refine hap.mono ?_
              rintro e wd ⟨rfl, hvp, hkd⟩
              have HKD : Hid (Kept (ws.alloc (.cells #[.int .u8 9] 5)) wd (fun k => k < lo)) := hkd
              have hsy2 := vp_sync hvp
              clear hap hvp hkd
              go_wp2_with fail
              refine hsy2.mono ?_
              rintro e we ⟨rfl, hvd, hke⟩
              have HRO3 : Hid (RecsLo lo we (slV (v1, NR, v3)) mm RR) := HRO2.out.keptK (HKD.out.trans hke (fun k hk hx => hx.elim id (fun h => by omega))) (fun k h1 _ h2 => by omega)
              have hop2 := vd_open hvd (by rw [List.length_append, HNR.out]; show NR + 1 ≤ _; omega)
              clear hsy2 hvd hke
              go_wp2_with fail
              refine hop2.mono ?_
              rintro e wf ⟨pf, vf, mf, lof, rfl, hrf, hgf, hff⟩
              have HLS : Hid (∀ r ∈ RR ++ [[9]], r.length ≤ 65536) := by
                show ∀ r ∈ _, _
                intro r hr
                rcases List.mem_append.1 hr with hr | hr
                · exact HLR.out r hr
                · simp at hr; subst hr; decide
              obtain ⟨tsf, hRf, hlf⟩ := hrf.inn HLS.out
              obtain ⟨f1, f2, f3⟩ := vf
              have hf2 : NR + 1 = f2 := by have h := hlf; rw [List.length_append, HNR.out] at h; exact h
              subst hf2
              have HRf : Hid (RecsIn wf f1 tsf (RR ++ [[9]])) := hRf
              have HRO4 : Hid (RecsLo lo wf (slV (v1, NR, v3)) mm RR) := HRO3.out.keptK (Kept.of hgf (X := fun _ => False) (fun k hk => by cases hk)) (fun _ _ _ h => h)
              obtain ⟨tsq, hRq, _⟩ := HRO4.out.inn HLR.out
              have HCQ := l_copyLists v1 tsq RR NR v3 wf wf hRq (World.grownBy.refl _ _) HNR.out (by omega)
              have HFf : Hid (w.grownBy wf none) := hff
              clear hop2 hrf hRf hlf hgf hff hRq
              unfold slV
              go_wp2_with fail
              refine HCQ.mono ?_
              rintro e wg ⟨vg, rfl, hlog2, hgg⟩
              obtain ⟨tsg, q1, q2, q3, q4⟩ := hlog2
              obtain ⟨ga, gn, gc⟩ := vg
              obtain ⟨_, _, e4⟩ := sownSl q1
              have e5 : NR = gn := by unfold slV at e4; injection e4 with _ e4 _; exact e4.symm
              subst e5
              have HGG : Hid (wf.grownBy wg none) := hgg
              have HQ1 : Hid (SOwn slE 27 wg wf.heap.size (slV (ga, NR, gc)) NR tsg) := q1
              have HQ2 : Hid (RecsAt wg wf.heap.size (slV (ga, NR, gc)).ownBlock tsg RR) := q2
              have hz1 : (wg.alloc (.cells #[.int .u8 9] 5)).heap.size = wg.heap.size + 1 := Array.size_push _
              have hal : wg.grownBy ((wg.alloc (.cells #[.int .u8 9] 5)).alloc (.cells #[.slice (some ⟨wg.heap.size, 0, none⟩) 1 1] 27)) none := (World.grownBy_alloc wg _ none).trans (World.grownBy_alloc _ _ none)
              have HSO : Hid (SOwn slE 27 ((wg.alloc (.cells #[.int .u8 9] 5)).alloc (.cells #[.slice (some ⟨wg.heap.size, 0, none⟩) 1 1] 27)) wf.heap.size (.slice ga NR gc) NR tsg) := SOwn.kept (row := none) q1 hal (own_none _)
              have HLIT : Hid (SRd slE ((wg.alloc (.cells #[.int .u8 9] 5)).alloc (.cells #[.slice (some ⟨wg.heap.size, 0, none⟩) 1 1] 27)) (some ⟨wg.heap.size + 1, 0, none⟩) [(some ⟨wg.heap.size, 0, none⟩, 1, 1)]) := by
                have := sllit (wg.alloc (.cells #[.int .u8 9] 5)) [(some ⟨wg.heap.size, 0, none⟩, 1, 1)]
                rw [hz1] at this
                exact this
              have hbase : wf.heap.size ≤ ((wg.alloc (.cells #[.int .u8 9] 5)).alloc (.cells #[.slice (some ⟨wg.heap.size, 0, none⟩) 1 1] 27)).heap.size := Nat.le_trans hgg.size hal.size
              have HSTEP : Hid (∀ (g5 c5 : Nat) (w5 : World), SOwn slE 27 w5 wf.heap.size (.slice (some ⟨g5, 0, none⟩) (NR + 1) c5) (NR + 1) (tsg ++ [(some ⟨wg.heap.size, 0, none⟩, 1, 1)]) → ((wg.alloc (.cells #[.int .u8 9] 5)).alloc (.cells #[.slice (some ⟨wg.heap.size, 0, none⟩) 1 1] 27)).grownBy w5 (Value.ownBlock (.slice ga NR gc)) → (Value.ownBlock (.slice ga NR gc) = some g5 ∨ g5 = ((wg.alloc (.cells #[.int .u8 9] 5)).alloc (.cells #[.slice (some ⟨wg.heap.size, 0, none⟩) 1 1] 27)).heap.size) → Reads w5 (some ⟨g5, 0, none⟩) (tsg ++ [(some ⟨wg.heap.size, 0, none⟩, 1, 1)]) (RR ++ [[9]]) ∧ wf.grownBy w5 none) := fun g5 c5 w5 ho5 hg5 hgg5 => by
                have hn := nine_reads (v := (ga, NR, gc)) 9 (by decide) HQ1.out HQ2.out HLR.out HGG.out.size ho5 hg5 hgg5
                exact ⟨hn.1, gb_trans HGG.out hn.2 (fun k hk => .inl (HQ1.out.block k hk).1)⟩
              clear q1 q2 q3 q4 hgg hal e4 HCQ hz1
              unfold slV
              go_wp2_with (at_builtin; refine wpList_append_g slET rfl (.tmp 175) (.tmp 177) rfl wf.heap.size (.slice ga NR gc) NR tsg rfl HSO.out ⟨wg.heap.size + 1, 0, none⟩ [(some ⟨wg.heap.size, 0, none⟩, 1, 1)] 1 1 rfl rfl HLIT.out (by decide) (by omega) (by unfold maxLen; omega) hbase ?_; intro g5 c5 w5 ho5 hg5 hgg5; have HW5 := HSTEP.out g5 c5 w5 ho5 hg5 hgg5; clear ho5 hg5 hgg5)
              have HR5 : Hid (Reads w5 (some ⟨g5, 0, none⟩) (tsg ++ [(some ⟨wg.heap.size, 0, none⟩, 1, 1)]) (RR ++ [[9]])) := HW5.1
              have hlst := l_same f1 (some ⟨g5, 0, none⟩) tsf (tsg ++ [(some ⟨wg.heap.size, 0, none⟩, 1, 1)]) (RR ++ [[9]]) (NR + 1) f3 c5 w5 (HRf.out.reads HW5.2) HR5.out (by rw [List.length_append, HNR.out]; rfl) (by omega)
              have HF5 : Hid (w.grownBy w5 none) := HFf.out.trans HW5.2
              clear HW5 HSTEP HSO HLIT hbase
              refine hlst.mono ?_
              rintro e w6 ⟨rfl, hg6⟩
              have HF6 : Hid (w.grownBy w6 none) := HF5.out.trans hg6
              clear hlst hg6
              have haw := w_awake w6 (HT.out.grown HF6.out)
              have HFx : Hid (w.grownBy w6 none) := HF6.out

              go_wp2_with fail
              refine haw.mono ?_
              rintro e wz ⟨rfl, hgz⟩
              have HFz : Hid (w.grownBy wz none) := HFx.out.trans hgz
              clear haw hgz
              go_wp2
              go_ret
              exact ⟨rfl, HFz.out⟩
            · have H8 : Hid (CdAt w w8 d mb N (3 * (N : Int) + 1) false recs kept) := h8
              have hup := cd_up h8
              clear hcu h8
              go_wp2_with fail
              refine hup.mono ?_
              rintro e _ ⟨rfl, rfl⟩
              have hof := cd_off H8.out keep HKP.out
              clear hup
              go_wp2_with fail
              refine hof.mono ?_
              rintro e w9 ⟨rfl, h9⟩
              have hon := cf_on h9 (by omega) (by omega)
              clear hof h9
              go_wp2_with fail
              refine hon.mono ?_
              rintro e wa ⟨rfl, ha⟩
              have hop := cn_open ha (by omega) (by omega) (by rw [HN.out]; omega) (by rw [HM.out]; omega)
              clear hon ha
              go_wp2_with fail
              refine hop.mono ?_
              rintro e wb ⟨pb, vb, mm, lo, RR, rfl, hVo, hro, hR, hlo⟩
              have HVO : Hid (VoAt w wb d mb pb RR lo) := hVo
              have HFwb : Hid (w.grownBy wb none) := hVo.from_
              have HGwb : Hid (wb.grownBy wb none) := World.grownBy.refl _ _
              have HLR : Hid (∀ r ∈ RR, r.length ≤ 65536) := by
                show ∀ r ∈ _, _
                rcases hR with e | ⟨_, e⟩
                · rw [e]; exact HSK.out
                · rw [e]; exact HSR.out
              obtain ⟨tsR, hRd, hlR⟩ := hro.inn HLR.out
              obtain ⟨v1, NR, v3⟩ := vb
              have HNR : Hid (RR.length = NR) := hlR
              have hNR : NR ≤ 1048576 := by
                rw [← HNR.out]
                rcases hR with e | ⟨_, e⟩
                · rw [e, HM.out]; omega
                · rw [e, HN.out]; omega
              have HRR : Hid (RecsIn wb v1 tsR RR) := hRd
              have HRO : Hid (RecsLo lo wb (slV (v1, NR, v3)) mm RR) := hro
              clear hop hVo hro hRd hlR
              unfold slV
              by_cases hRk : RR = kept
              · have HRE : Hid (RR = kept) := hRk
                clear hR hRk
                have hqws := l_sameLists v1 b tsR us RR kept NR M v3 cb wb (HRR.out.reads HGwb.out) (HK.out.reads HFwb.out) HNR.out HM.out (by omega)
                rw [decide_eq_true HRE.out] at hqws
                go_wp2_with fail
                refine hqws.mono ?_
                rintro e ws ⟨rfl, hgws⟩
                have HGws : Hid (wb.grownBy ws none) := HGwb.out.trans hgws
                have HFws : Hid (w.grownBy ws none) := HFwb.out.trans hgws
                clear hqws hgws
                have hg9 : ws.grownBy (ws.alloc (.cells #[.int .u8 9] 5)) none := World.grownBy_alloc _ _ none
                have hrd9 : Rd (ws.alloc (.cells #[.int .u8 9] 5)) (some ⟨ws.heap.size, 0, none⟩) [9] := srd_rd (SOwn.rd (lit_own ws 9 (by decide))) (fun y hy => by simp at hy; subst hy; decide)
                have hap := vo_append (HVO.out.grown (HGws.out.trans hg9)) (some ⟨ws.heap.size, 0, none⟩) [9] 1 1 hrd9 rfl (by simp) (by decide)
                have HRO2 : Hid (RecsLo lo (ws.alloc (.cells #[.int .u8 9] 5)) (slV (v1, NR, v3)) mm RR) := HRO.out.keptK (Kept.of (HGws.out.trans hg9) (X := fun _ => False) (fun k hk => by cases hk)) (fun _ _ _ h => h)
                clear hg9 hrd9
                go_wp2_with fail
                refine hap.mono ?_
                rintro e wd ⟨rfl, hvp, hkd⟩
                have HKD : Hid (Kept (ws.alloc (.cells #[.int .u8 9] 5)) wd (fun k => k < lo)) := hkd
                have hsy2 := vp_sync hvp
                clear hap hvp hkd
                go_wp2_with fail
                refine hsy2.mono ?_
                rintro e we ⟨rfl, hvd, hke⟩
                have HRO3 : Hid (RecsLo lo we (slV (v1, NR, v3)) mm RR) := HRO2.out.keptK (HKD.out.trans hke (fun k hk hx => hx.elim id (fun h => by omega))) (fun k h1 _ h2 => by omega)
                have hop2 := vd_open hvd (by rw [List.length_append, HNR.out]; show NR + 1 ≤ _; omega)
                clear hsy2 hvd hke
                go_wp2_with fail
                refine hop2.mono ?_
                rintro e wf ⟨pf, vf, mf, lof, rfl, hrf, hgf, hff⟩
                have HLS : Hid (∀ r ∈ RR ++ [[9]], r.length ≤ 65536) := by
                  show ∀ r ∈ _, _
                  intro r hr
                  rcases List.mem_append.1 hr with hr | hr
                  · exact HLR.out r hr
                  · simp at hr; subst hr; decide
                obtain ⟨tsf, hRf, hlf⟩ := hrf.inn HLS.out
                obtain ⟨f1, f2, f3⟩ := vf
                have hf2 : NR + 1 = f2 := by have h := hlf; rw [List.length_append, HNR.out] at h; exact h
                subst hf2
                have HRf : Hid (RecsIn wf f1 tsf (RR ++ [[9]])) := hRf
                have HRO4 : Hid (RecsLo lo wf (slV (v1, NR, v3)) mm RR) := HRO3.out.keptK (Kept.of hgf (X := fun _ => False) (fun k hk => by cases hk)) (fun _ _ _ h => h)
                obtain ⟨tsq, hRq, _⟩ := HRO4.out.inn HLR.out
                have HCQ := l_copyLists v1 tsq RR NR v3 wf wf hRq (World.grownBy.refl _ _) HNR.out (by omega)
                have HFf : Hid (w.grownBy wf none) := hff
                clear hop2 hrf hRf hlf hgf hff hRq
                unfold slV
                go_wp2_with fail
                refine HCQ.mono ?_
                rintro e wg ⟨vg, rfl, hlog2, hgg⟩
                obtain ⟨tsg, q1, q2, q3, q4⟩ := hlog2
                obtain ⟨ga, gn, gc⟩ := vg
                obtain ⟨_, _, e4⟩ := sownSl q1
                have e5 : NR = gn := by unfold slV at e4; injection e4 with _ e4 _; exact e4.symm
                subst e5
                have HGG : Hid (wf.grownBy wg none) := hgg
                have HQ1 : Hid (SOwn slE 27 wg wf.heap.size (slV (ga, NR, gc)) NR tsg) := q1
                have HQ2 : Hid (RecsAt wg wf.heap.size (slV (ga, NR, gc)).ownBlock tsg RR) := q2
                have hz1 : (wg.alloc (.cells #[.int .u8 9] 5)).heap.size = wg.heap.size + 1 := Array.size_push _
                have hal : wg.grownBy ((wg.alloc (.cells #[.int .u8 9] 5)).alloc (.cells #[.slice (some ⟨wg.heap.size, 0, none⟩) 1 1] 27)) none := (World.grownBy_alloc wg _ none).trans (World.grownBy_alloc _ _ none)
                have HSO : Hid (SOwn slE 27 ((wg.alloc (.cells #[.int .u8 9] 5)).alloc (.cells #[.slice (some ⟨wg.heap.size, 0, none⟩) 1 1] 27)) wf.heap.size (.slice ga NR gc) NR tsg) := SOwn.kept (row := none) q1 hal (own_none _)
                have HLIT : Hid (SRd slE ((wg.alloc (.cells #[.int .u8 9] 5)).alloc (.cells #[.slice (some ⟨wg.heap.size, 0, none⟩) 1 1] 27)) (some ⟨wg.heap.size + 1, 0, none⟩) [(some ⟨wg.heap.size, 0, none⟩, 1, 1)]) := by
                  have := sllit (wg.alloc (.cells #[.int .u8 9] 5)) [(some ⟨wg.heap.size, 0, none⟩, 1, 1)]
                  rw [hz1] at this
                  exact this
                have hbase : wf.heap.size ≤ ((wg.alloc (.cells #[.int .u8 9] 5)).alloc (.cells #[.slice (some ⟨wg.heap.size, 0, none⟩) 1 1] 27)).heap.size := Nat.le_trans hgg.size hal.size
                have HSTEP : Hid (∀ (g5 c5 : Nat) (w5 : World), SOwn slE 27 w5 wf.heap.size (.slice (some ⟨g5, 0, none⟩) (NR + 1) c5) (NR + 1) (tsg ++ [(some ⟨wg.heap.size, 0, none⟩, 1, 1)]) → ((wg.alloc (.cells #[.int .u8 9] 5)).alloc (.cells #[.slice (some ⟨wg.heap.size, 0, none⟩) 1 1] 27)).grownBy w5 (Value.ownBlock (.slice ga NR gc)) → (Value.ownBlock (.slice ga NR gc) = some g5 ∨ g5 = ((wg.alloc (.cells #[.int .u8 9] 5)).alloc (.cells #[.slice (some ⟨wg.heap.size, 0, none⟩) 1 1] 27)).heap.size) → Reads w5 (some ⟨g5, 0, none⟩) (tsg ++ [(some ⟨wg.heap.size, 0, none⟩, 1, 1)]) (RR ++ [[9]]) ∧ wf.grownBy w5 none) := fun g5 c5 w5 ho5 hg5 hgg5 => by
                  have hn := nine_reads (v := (ga, NR, gc)) 9 (by decide) HQ1.out HQ2.out HLR.out HGG.out.size ho5 hg5 hgg5
                  exact ⟨hn.1, gb_trans HGG.out hn.2 (fun k hk => .inl (HQ1.out.block k hk).1)⟩
                clear q1 q2 q3 q4 hgg hal e4 HCQ hz1
                unfold slV
                go_wp2_with (at_builtin; refine wpList_append_g slET rfl (.tmp 175) (.tmp 177) rfl wf.heap.size (.slice ga NR gc) NR tsg rfl HSO.out ⟨wg.heap.size + 1, 0, none⟩ [(some ⟨wg.heap.size, 0, none⟩, 1, 1)] 1 1 rfl rfl HLIT.out (by decide) (by omega) (by unfold maxLen; omega) hbase ?_; intro g5 c5 w5 ho5 hg5 hgg5; have HW5 := HSTEP.out g5 c5 w5 ho5 hg5 hgg5; clear ho5 hg5 hgg5)
                have HR5 : Hid (Reads w5 (some ⟨g5, 0, none⟩) (tsg ++ [(some ⟨wg.heap.size, 0, none⟩, 1, 1)]) (RR ++ [[9]])) := HW5.1
                have hlst := l_same f1 (some ⟨g5, 0, none⟩) tsf (tsg ++ [(some ⟨wg.heap.size, 0, none⟩, 1, 1)]) (RR ++ [[9]]) (NR + 1) f3 c5 w5 (HRf.out.reads HW5.2) HR5.out (by rw [List.length_append, HNR.out]; rfl) (by omega)
                have HF5 : Hid (w.grownBy w5 none) := HFf.out.trans HW5.2
                clear HW5 HSTEP HSO HLIT hbase
                refine hlst.mono ?_
                rintro e w6 ⟨rfl, hg6⟩
                have HF6 : Hid (w.grownBy w6 none) := HF5.out.trans hg6
                clear hlst hg6
                have haw := w_awake w6 (HT.out.grown HF6.out)
                have HFx : Hid (w.grownBy w6 none) := HF6.out

                go_wp2_with fail
                refine haw.mono ?_
                rintro e wz ⟨rfl, hgz⟩
                have HFz : Hid (w.grownBy wz none) := HFx.out.trans hgz
                clear haw hgz
                go_wp2
                go_ret
                exact ⟨rfl, HFz.out⟩
              · have HRK : Hid (¬ RR = kept) := hRk
                have HRE : Hid (RR = recs) := hR.elim (fun h => absurd h hRk) (fun h => h.2)
                clear hR hRk
                have hqwq := l_sameLists v1 b tsR us RR kept NR M v3 cb wb (HRR.out.reads HGwb.out) (HK.out.reads HFwb.out) HNR.out HM.out (by omega)
                rw [decide_eq_false HRK.out] at hqwq
                go_wp2_with fail
                refine hqwq.mono ?_
                rintro e wq ⟨rfl, hgwq⟩
                have HGwq : Hid (wb.grownBy wq none) := HGwb.out.trans hgwq
                have HFwq : Hid (w.grownBy wq none) := HFwb.out.trans hgwq
                clear hqwq hgwq
                have hqws := l_sameLists v1 a tsR ts RR recs NR N v3 c wq (HRR.out.reads HGwq.out) (HR.out.reads HFwq.out) HNR.out HN.out (by omega)
                rw [decide_eq_true HRE.out] at hqws
                go_wp2_with fail
                refine hqws.mono ?_
                rintro e ws ⟨rfl, hgws⟩
                have HGws : Hid (wb.grownBy ws none) := HGwq.out.trans hgws
                have HFws : Hid (w.grownBy ws none) := HFwq.out.trans hgws
                clear hqws hgws
                have hg9 : ws.grownBy (ws.alloc (.cells #[.int .u8 9] 5)) none := World.grownBy_alloc _ _ none
                have hrd9 : Rd (ws.alloc (.cells #[.int .u8 9] 5)) (some ⟨ws.heap.size, 0, none⟩) [9] := srd_rd (SOwn.rd (lit_own ws 9 (by decide))) (fun y hy => by simp at hy; subst hy; decide)
                have hap := vo_append (HVO.out.grown (HGws.out.trans hg9)) (some ⟨ws.heap.size, 0, none⟩) [9] 1 1 hrd9 rfl (by simp) (by decide)
                have HRO2 : Hid (RecsLo lo (ws.alloc (.cells #[.int .u8 9] 5)) (slV (v1, NR, v3)) mm RR) := HRO.out.keptK (Kept.of (HGws.out.trans hg9) (X := fun _ => False) (fun k hk => by cases hk)) (fun _ _ _ h => h)
                clear hg9 hrd9
                go_wp2_with fail
                refine hap.mono ?_
                rintro e wd ⟨rfl, hvp, hkd⟩
                have HKD : Hid (Kept (ws.alloc (.cells #[.int .u8 9] 5)) wd (fun k => k < lo)) := hkd
                have hsy2 := vp_sync hvp
                clear hap hvp hkd
                go_wp2_with fail
                refine hsy2.mono ?_
                rintro e we ⟨rfl, hvd, hke⟩
                have HRO3 : Hid (RecsLo lo we (slV (v1, NR, v3)) mm RR) := HRO2.out.keptK (HKD.out.trans hke (fun k hk hx => hx.elim id (fun h => by omega))) (fun k h1 _ h2 => by omega)
                have hop2 := vd_open hvd (by rw [List.length_append, HNR.out]; show NR + 1 ≤ _; omega)
                clear hsy2 hvd hke
                go_wp2_with fail
                refine hop2.mono ?_
                rintro e wf ⟨pf, vf, mf, lof, rfl, hrf, hgf, hff⟩
                have HLS : Hid (∀ r ∈ RR ++ [[9]], r.length ≤ 65536) := by
                  show ∀ r ∈ _, _
                  intro r hr
                  rcases List.mem_append.1 hr with hr | hr
                  · exact HLR.out r hr
                  · simp at hr; subst hr; decide
                obtain ⟨tsf, hRf, hlf⟩ := hrf.inn HLS.out
                obtain ⟨f1, f2, f3⟩ := vf
                have hf2 : NR + 1 = f2 := by have h := hlf; rw [List.length_append, HNR.out] at h; exact h
                subst hf2
                have HRf : Hid (RecsIn wf f1 tsf (RR ++ [[9]])) := hRf
                have HRO4 : Hid (RecsLo lo wf (slV (v1, NR, v3)) mm RR) := HRO3.out.keptK (Kept.of hgf (X := fun _ => False) (fun k hk => by cases hk)) (fun _ _ _ h => h)
                obtain ⟨tsq, hRq, _⟩ := HRO4.out.inn HLR.out
                have HCQ := l_copyLists v1 tsq RR NR v3 wf wf hRq (World.grownBy.refl _ _) HNR.out (by omega)
                have HFf : Hid (w.grownBy wf none) := hff
                clear hop2 hrf hRf hlf hgf hff hRq
                unfold slV
                go_wp2_with fail
                refine HCQ.mono ?_
                rintro e wg ⟨vg, rfl, hlog2, hgg⟩
                obtain ⟨tsg, q1, q2, q3, q4⟩ := hlog2
                obtain ⟨ga, gn, gc⟩ := vg
                obtain ⟨_, _, e4⟩ := sownSl q1
                have e5 : NR = gn := by unfold slV at e4; injection e4 with _ e4 _; exact e4.symm
                subst e5
                have HGG : Hid (wf.grownBy wg none) := hgg
                have HQ1 : Hid (SOwn slE 27 wg wf.heap.size (slV (ga, NR, gc)) NR tsg) := q1
                have HQ2 : Hid (RecsAt wg wf.heap.size (slV (ga, NR, gc)).ownBlock tsg RR) := q2
                have hz1 : (wg.alloc (.cells #[.int .u8 9] 5)).heap.size = wg.heap.size + 1 := Array.size_push _
                have hal : wg.grownBy ((wg.alloc (.cells #[.int .u8 9] 5)).alloc (.cells #[.slice (some ⟨wg.heap.size, 0, none⟩) 1 1] 27)) none := (World.grownBy_alloc wg _ none).trans (World.grownBy_alloc _ _ none)
                have HSO : Hid (SOwn slE 27 ((wg.alloc (.cells #[.int .u8 9] 5)).alloc (.cells #[.slice (some ⟨wg.heap.size, 0, none⟩) 1 1] 27)) wf.heap.size (.slice ga NR gc) NR tsg) := SOwn.kept (row := none) q1 hal (own_none _)
                have HLIT : Hid (SRd slE ((wg.alloc (.cells #[.int .u8 9] 5)).alloc (.cells #[.slice (some ⟨wg.heap.size, 0, none⟩) 1 1] 27)) (some ⟨wg.heap.size + 1, 0, none⟩) [(some ⟨wg.heap.size, 0, none⟩, 1, 1)]) := by
                  have := sllit (wg.alloc (.cells #[.int .u8 9] 5)) [(some ⟨wg.heap.size, 0, none⟩, 1, 1)]
                  rw [hz1] at this
                  exact this
                have hbase : wf.heap.size ≤ ((wg.alloc (.cells #[.int .u8 9] 5)).alloc (.cells #[.slice (some ⟨wg.heap.size, 0, none⟩) 1 1] 27)).heap.size := Nat.le_trans hgg.size hal.size
                have HSTEP : Hid (∀ (g5 c5 : Nat) (w5 : World), SOwn slE 27 w5 wf.heap.size (.slice (some ⟨g5, 0, none⟩) (NR + 1) c5) (NR + 1) (tsg ++ [(some ⟨wg.heap.size, 0, none⟩, 1, 1)]) → ((wg.alloc (.cells #[.int .u8 9] 5)).alloc (.cells #[.slice (some ⟨wg.heap.size, 0, none⟩) 1 1] 27)).grownBy w5 (Value.ownBlock (.slice ga NR gc)) → (Value.ownBlock (.slice ga NR gc) = some g5 ∨ g5 = ((wg.alloc (.cells #[.int .u8 9] 5)).alloc (.cells #[.slice (some ⟨wg.heap.size, 0, none⟩) 1 1] 27)).heap.size) → Reads w5 (some ⟨g5, 0, none⟩) (tsg ++ [(some ⟨wg.heap.size, 0, none⟩, 1, 1)]) (RR ++ [[9]]) ∧ wf.grownBy w5 none) := fun g5 c5 w5 ho5 hg5 hgg5 => by
                  have hn := nine_reads (v := (ga, NR, gc)) 9 (by decide) HQ1.out HQ2.out HLR.out HGG.out.size ho5 hg5 hgg5
                  exact ⟨hn.1, gb_trans HGG.out hn.2 (fun k hk => .inl (HQ1.out.block k hk).1)⟩
                clear q1 q2 q3 q4 hgg hal e4 HCQ hz1
                unfold slV
                go_wp2_with (at_builtin; refine wpList_append_g slET rfl (.tmp 175) (.tmp 177) rfl wf.heap.size (.slice ga NR gc) NR tsg rfl HSO.out ⟨wg.heap.size + 1, 0, none⟩ [(some ⟨wg.heap.size, 0, none⟩, 1, 1)] 1 1 rfl rfl HLIT.out (by decide) (by omega) (by unfold maxLen; omega) hbase ?_; intro g5 c5 w5 ho5 hg5 hgg5; have HW5 := HSTEP.out g5 c5 w5 ho5 hg5 hgg5; clear ho5 hg5 hgg5)
                have HR5 : Hid (Reads w5 (some ⟨g5, 0, none⟩) (tsg ++ [(some ⟨wg.heap.size, 0, none⟩, 1, 1)]) (RR ++ [[9]])) := HW5.1
                have hlst := l_same f1 (some ⟨g5, 0, none⟩) tsf (tsg ++ [(some ⟨wg.heap.size, 0, none⟩, 1, 1)]) (RR ++ [[9]]) (NR + 1) f3 c5 w5 (HRf.out.reads HW5.2) HR5.out (by rw [List.length_append, HNR.out]; rfl) (by omega)
                have HF5 : Hid (w.grownBy w5 none) := HFf.out.trans HW5.2
                clear HW5 HSTEP HSO HLIT hbase
                refine hlst.mono ?_
                rintro e w6 ⟨rfl, hg6⟩
                have HF6 : Hid (w.grownBy w6 none) := HF5.out.trans hg6
                clear hlst hg6
                have haw := w_awake w6 (HT.out.grown HF6.out)
                have HFx : Hid (w.grownBy w6 none) := HF6.out

                go_wp2_with fail
                refine haw.mono ?_
                rintro e wz ⟨rfl, hgz⟩
                have HFz : Hid (w.grownBy wz none) := HFx.out.trans hgz
                clear haw hgz
                go_wp2
                go_ret
                exact ⟨rfl, HFz.out⟩
end Go.Proofs.YtekejnjaiccnbaaGreatDoor

