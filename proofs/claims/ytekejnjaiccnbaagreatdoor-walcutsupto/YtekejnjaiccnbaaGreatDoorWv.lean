/- Package wal: Cut. -/
import Derived.Test.YtekejnjaiccnbaaGreatDoorMx
namespace Go.Proofs.YtekejnjaiccnbaaGreatDoor
open Go.RowKit Go.Maps Go.Sort
set_option linter.unusedVariables false
set_option maxRecDepth 20000

theorem w_cut1 (p q s : Nat) (fv : Value) (w : World) (P : World → Prop) (hq : w.cell? ⟨q, 0, none⟩ = some (.pointer (some ⟨p, 0, none⟩))) (hs : w.cell? ⟨s, 0, none⟩ = some fv) (hm : Calls Tryz.prog 58 #[.pointer (some ⟨p, 0, none⟩), fv] w fun e w' => e = .returned (.tuple #[]) ∧ P w') :
    Calls Tryz.prog 57 #[.pointer (some ⟨q, 0, none⟩), .pointer (some ⟨s, 0, none⟩)] w fun e w' => e = .returned (.tuple #[]) ∧ P w' := by
  have HM : Hid (Calls Tryz.prog 58 #[.pointer (some ⟨p, 0, none⟩), fv] w fun e w' => e = .returned (.tuple #[]) ∧ P w') := hm
  clear hm
  go_enter Tryz.func57, Tryz.ntmps57
  go_wp2_with fail
  refine HM.out.mono ?_
  rintro e w1 ⟨rfl, hp⟩
  have HP : Hid (P w1) := hp
  clear hp HM
  go_wp2
  go_end0
  exact ⟨rfl, HP.out⟩
/-- A slice of slices, as it is read: the records. -/
def KeepIs (w : World) (ka : Option Addr) (ts : List Sl) (recs : List (List Int)) : Prop := SRd slE w ka ts ∧ ts.length = recs.length ∧ ∀ (i : Nat) (t : Sl) (r : List Int), ts[i]? = some t → recs[i]? = some r → t.2.1 = r.length ∧ Rd w t.1 r ∧ (t.1 = none → t.2.2 = 0) ∧ r.length ≤ 65536
theorem KeepIs.grown {w w' : World} {ka : Option Addr} {ts : List Sl} {recs : List (List Int)} (h : KeepIs w ka ts recs) (hg : w.grownBy w' none) : KeepIs w' ka ts recs :=
  ⟨h.1.grown hg (by simp), h.2.1, fun i t r h1 h2 => ⟨(h.2.2 i t r h1 h2).1, (h.2.2 i t r h1 h2).2.1.grown hg (by simp), (h.2.2 i t r h1 h2).2.2⟩⟩
/-- The frames so far: in the cell s. -/
structure FrAt (w0 w : World) (p s : Nat) (zs : List Int) : Prop where
  ex : ∃ fa fc, w.rowIs s 27 1 (fun _ => .slice fa zs.length fc) ∧ SOwn byteE 5 w (s + 1) (.slice fa zs.length fc) zs.length zs
  byte : ∀ z ∈ zs, 0 ≤ z ∧ z ≤ 255
  grown : w0.grownBy w none
  old : w0.heap.size + 1 = s
  head : w.rowIs w0.heap.size 36 1 (fun _ => .pointer (some ⟨p, 0, none⟩))
set_option maxHeartbeats 8000000 in
theorem w_frames (p q s : Nat) (ka : Option Addr) (kn kc : Nat) (ts : List Sl) (recs : List (List Int)) (w : World) (hk : KeepIs w ka ts recs) (hn : recs.length = kn) (hb : (logB frameR recs).length ≤ 4194304) (hkn : kn ≤ 4194304) (P : Ending → World → Prop) (hend : ∀ w1, FrAt w w1 p (w.heap.size + 1) (logB frameR recs) → Calls Tryz.prog 43 #[.func (.func 57) #[] #[.pointer (some ⟨w.heap.size, 0, none⟩), .pointer (some ⟨w.heap.size + 1, 0, none⟩)]] w1 P) (hP : ∀ e w1, P e w1 → ∃ c, e = .returned (.int .i64 c)) :
    Calls Tryz.prog 23 #[.pointer (some ⟨p, 0, none⟩), .slice ka kn kc] w P := by
  have HK : Hid (KeepIs w ka ts recs) := hk
  have HN : Hid (recs.length = kn) := hn
  have HE : Hid (∀ w1, FrAt w w1 p (w.heap.size + 1) (logB frameR recs) → Calls Tryz.prog 43 #[.func (.func 57) #[] #[.pointer (some ⟨w.heap.size, 0, none⟩), .pointer (some ⟨w.heap.size + 1, 0, none⟩)]] w1 P) := hend
  have HP : Hid (∀ e w1, P e w1 → ∃ c, e = .returned (.int .i64 c)) := hP
  have HBD : Hid ((logB frameR recs).length ≤ 4194304) := hb
  have hmf : ∀ (fn : Fn) (first cap : Array Value) (w : World), (Instr.makeFunc fn first cap).run Tryz.prog w = .ok (.func fn first cap) w := fun _ _ _ _ => rfl
  obtain ⟨W2, eW2⟩ : ∃ W2, W2 = (w.alloc (.cells #[.pointer (some ⟨p, 0, none⟩)] 36)).alloc (.cells #[.slice none 0 0] 27) := ⟨_, rfl⟩
  have hs1 : ∀ (w : World) o, (w.alloc o).heap.size = w.heap.size + 1 := fun w o => Array.size_push _
  have HF0 : Hid (FrAt w W2 p (w.heap.size + 1) (logB frameR (recs.take 0))) := by
    rw [eW2]
    refine ⟨⟨none, 0, ?_, SOwn.nil 5 _ _⟩, by simp [logB], (World.grownBy_alloc w _ none).trans (World.grownBy_alloc _ _ none), rfl, (row1 w (.pointer (some ⟨p, 0, none⟩)) 36).alloc _⟩
    have := row1 (w.alloc (.cells #[.pointer (some ⟨p, 0, none⟩)] 36)) (.slice none 0 0) 27
    rw [hs1] at this
    exact this
  have EW2 : Hid (W2 = (w.alloc (.cells #[.pointer (some ⟨p, 0, none⟩)] 36)).alloc (.cells #[.slice none 0 0] 27)) := eW2
  clear hk hn hend hP hb eW2 hs1
  go_enter Tryz.func23, Tryz.ntmps23
  go_wp2_with fail
  rw [← EW2.out]
  go_loopw [12] (fun t12 wr => ∃ i : Nat, i ≤ kn ∧ t12 = .int .i64 i ∧ FrAt w wr p (w.heap.size + 1) (logB frameR (recs.take i))) (fun t12 _ => kn - (intOf t12).toNat)
  case atStart => exact ⟨0, Nat.zero_le _, rfl, HF0.out⟩
  case round =>
    obtain ⟨i, hi, rfl, hF⟩ := hrel
    have HF : Hid (FrAt w wr p (w.heap.size + 1) (logB frameR (recs.take i))) := hF
    by_cases hlt : i < kn
    · have hii : (i : Int) < (kn : Int) := by omega
      have hkl := HK.out.2.1
      have hnn := HN.out
      obtain ⟨r, hr⟩ : ∃ r, recs[i]? = some r := ⟨_, List.getElem?_eq_getElem (by omega)⟩
      obtain ⟨t, ht⟩ : ∃ t, ts[i]? = some t := ⟨_, List.getElem?_eq_getElem (by omega)⟩
      have hKr := HK.out.grown hF.grown
      obtain ⟨kb, koff, rfl, hkc⟩ := hKr.1.at (by omega)
      have a0 : wr.cell? ⟨kb, koff + i, none⟩ = some (.slice t.1 t.2.1 t.2.2) := by have h := hkc i _ 0 _ ht rfl; simpa [slE, slV] using h
      obtain ⟨h1, h2, h3, h4⟩ := hKr.2.2 i t r ht hr
      have hfl : flist r = frameR r := by unfold flist; rw [if_neg (by omega)]
      have hfc : fcode r = 0 := by unfold fcode; rw [if_neg (by omega)]
      have HFR : Hid (Calls Tryz.prog 25 #[.slice t.1 t.2.1 t.2.2] wr fun e w' => ∃ v N c, e = .returned (.tuple #[.slice v N c, .int .i64 0]) ∧ Out wr w' v N c (frameR r) ∧ wr.grownBy w' none) := f_frame t.1 r t.2.1 t.2.2 (frameR r) 0 wr h2 h1.symm h3 (by omega) hfl hfc
      have HT : Hid (logB frameR (recs.take (i + 1)) = logB frameR (recs.take i) ++ frameR r) := logB_take recs i r hr
      have hsum : (logB frameR (recs.take i)).length + (frameR r).length ≤ 4194304 := by
        have h5 := HBD.out
        rw [logB_split recs i r hr] at h5
        simp only [List.length_append] at h5
        omega
      clear hKr hkc ht hr h1 h2 h3 h4 hfl hfc hkl hnn hF
      go_wp2_with fail
      refine HFR.out.mono ?_
      rintro e w1 ⟨fv, FN, fc, rfl, hout, hg1⟩
      obtain ⟨⟨fa, fcc, hrow, hso⟩, hby, hgr, hold, hhd⟩ := HF.out
      have hrow1 := hrow.of_block (hg1.block _ hrow.lt (by simp))
      obtain ⟨L, eL⟩ : ∃ L, L = (logB frameR (recs.take i)).length := ⟨_, rfl⟩
      rw [← eL] at hrow1 hso hsum
      have y0 : w1.cell? ⟨w.heap.size + 1, 0, none⟩ = some (.slice fa L fcc) := hrow1.cell (i := 0) (by omega)
      have HSO : Hid (SOwn byteE 5 w1 (w.heap.size + 1 + 1) (.slice fa L fcc) L (logB frameR (recs.take i))) := SOwn.kept hso hg1 (by cases fa <;> simp [Value.ownBlock])
      have HFL : Hid ((frameR r).length = FN) := hout.1
      have HRD : Hid (SRd byteE w1 fv (frameR r)) := rd_srd hout.2.1
      have HFN : Hid (fv = none → fc = 0) := hout.2.2.1
      have hFN2 : L + FN ≤ 4194304 := by rw [← hout.1]; exact hsum
      have hsz : w.heap.size + 1 + 1 ≤ w1.heap.size := by have := hrow1.lt; omega
      have HSTEP : Hid (∀ (v3 : Value) (w3 : World), SOwn byteE 5 w3 (w.heap.size + 1 + 1) v3 (L + FN) (logB frameR (recs.take i) ++ frameR r) → w1.grownBy w3 (Value.ownBlock (.slice fa L fcc)) → ∃ a3 k3, v3 = .slice a3 (L + FN) k3 ∧ w3.cell? ⟨w.heap.size + 1, 0, none⟩ = some (.slice fa L fcc) ∧ w3.frozen? ⟨w.heap.size + 1, 0, none⟩ = false ∧ FrAt w (w3.setCell ⟨w.heap.size + 1, 0, none⟩ (.slice a3 (L + FN) k3)) p (w.heap.size + 1) (logB frameR (recs.take (i + 1)))) := fun v3 w3 ho3 hg3 => by
        obtain ⟨a3, k3, rfl⟩ := sownSl ho3
        have hne : some (w.heap.size + 1) ≠ Value.ownBlock (.slice fa L fcc) := ownNe HSO.out (Nat.lt_succ_self _)
        have hr3 := hrow1.of_block (hg3.block _ hrow1.lt hne)
        have hgs : w3.grownBy (w3.setCell ⟨w.heap.size + 1, 0, none⟩ (.slice a3 (L + FN) k3)) (some (w.heap.size + 1)) := gb_set rfl
        have el : (logB frameR (recs.take (i + 1))).length = L + FN := by rw [HT.out, List.length_append, ← eL, HFL.out]
        refine ⟨a3, k3, rfl, hr3.cell (i := 0) (by omega), hr3.frozen 0, ⟨a3, k3, ?_, ?_⟩, ?_, ?_, hold, ?_⟩
        · rw [el]
          exact (hr3.set 0 (.slice a3 (L + FN) k3)).congr (fun j hj => by have h0 : j = 0 := by omega
                                                                          subst h0; rfl)
        · rw [el, HT.out]
          exact SOwn.kept ho3 hgs (.inr (fun e => ownNe ho3 (Nat.lt_succ_self _) e.symm))
        · rw [HT.out]
          intro z hz
          rcases List.mem_append.1 hz with h | h
          · exact hby z h
          · exact hout.2.1.2 z h
        · exact gb_trans (gb_trans (hgr.trans hg1) hg3 (fun k hk => .inl (by have := (HSO.out.block k hk).1; omega))) hgs (fun k hk => .inl (by cases hk; omega))
        · exact (((hhd.of_block (hg1.block _ hhd.lt (by simp))).of_block (hg3.block _ (Nat.lt_of_lt_of_le hhd.lt hg1.size) (ownNe HSO.out (by omega)))).setOther (a := ⟨w.heap.size + 1, 0, none⟩) (by show w.heap.size ≠ w.heap.size + 1; omega) _)
      clear hhd hout hg1 hrow hso hby hgr hold hrow1 eL HFR HF
      go_wp2_with (at_builtin; refine wpList_append_s byteET rfl (.tmp 23) (.tmp 24) rfl (w.heap.size + 1 + 1) (.slice fa L fcc) L (logB frameR (recs.take i)) rfl HSO.out fv (frameR r) FN fc rfl HFL.out HRD.out HFN.out (by omega) (by unfold maxLen; omega) hsz ?_; intro v3 w3 ho3 hg3 hn3; obtain ⟨a3, k3, rfl, y3, z3, hfr⟩ := HSTEP.out v3 w3 ho3 hg3; have HFR3 : Hid (FrAt w (w3.setCell ⟨w.heap.size + 1, 0, none⟩ (.slice a3 (L + FN) k3)) p (w.heap.size + 1) (logB frameR (recs.take (i + 1)))) := hfr; clear ho3 hg3 hn3 hfr)
      go_roundw
      case rel => exact ⟨i + 1, by omega, by go_num, HFR3.out⟩
      case measure => simp [intOf]; omega
    · have hii : ¬ (i : Int) < (kn : Int) := by omega
      have hF2 : FrAt w wr p (w.heap.size + 1) (logB frameR recs) := by
        have h5 := HF.out
        rw [List.take_of_length_le (by rw [HN.out]; omega)] at h5
        exact h5
      have HC : Hid (Calls Tryz.prog 43 #[.func (.func 57) #[] #[.pointer (some ⟨w.heap.size, 0, none⟩), .pointer (some ⟨w.heap.size + 1, 0, none⟩)]] wr P) := HE.out wr hF2
      clear hF hF2
      go_wp2_with fail
      refine HC.out.mono ?_
      intro e w9 hp9
      obtain ⟨c9, rfl⟩ := HP.out e w9 hp9
      have HP9 : Hid (P (.returned (.int .i64 c9)) w9) := hp9
      clear hp9 HC
      go_wp2
      exact HP9.out
theorem w_cutC (base d mb n : Nat) (x : DSt) (p : Nat) (dir cp : ByteArray) (segs : List Nat) (op : Nat) (A B : Nat → Prop) (ka : Option Addr) (kn kc : Nat) (ts : List Sl) (recs : List (List Int)) (w : World) (hdir : dirB dir = true) (ht : Tab w) (hf : Far A B) (h : LogAt w base d mb n x p dir cp segs op A B) (hc : x.Calm) (hw : x.wn ≤ 999999980) (hop : op < 99999998) (hn : n < 1048574) (hnew : x.V (newN dir) = none) (hsg : segs.length ≤ 4194304) (hs8 : ∀ k ∈ segs, k < 100000000) (hcp : cp.size ≤ 64) (hdel : DelOk (putX x dir (cpN dir op) (logB frameR recs)) ((if cp = ⟨#[]⟩ then [] else [cp]) ++ segs.map (segN dir))) (hk : KeepIs w ka ts recs) (hkn : recs.length = kn) (hk4 : kn ≤ 4194304) (hne : recs ≠ []) (hlen : (logB frameR recs).length ≤ 4194304) (hb : base ≤ w.heap.size) :
    Calls Tryz.prog 23 #[.pointer (some ⟨p, 0, none⟩), .slice ka kn kc] w fun e w' => e = .returned (.int .i64 0) ∧ CutEnd w base d mb (n + 2) (cutX x dir cp segs op (logB frameR recs)) A B w' := by
  refine w_frames p 0 0 ka kn kc ts recs w hk hkn hlen hk4 (fun e w' => e = .returned (.int .i64 0) ∧ CutEnd w base d mb (n + 2) (cutX x dir cp segs op (logB frameR recs)) A B w') (fun w1 hF => ?_) (fun e w1 hp => ⟨0, hp.1⟩)
  obtain ⟨⟨fa, fc, hrow, hso⟩, hby, hgr, hold, hhd⟩ := hF
  have hpos : logB frameR recs ≠ [] := by
    cases recs with
    | nil => exact absurd rfl hne
    | cons r rs =>
      rw [logB_cons]
      intro e
      have h1 := framing.pos r
      have h2 := (List.append_eq_nil_iff.1 e).1
      rw [h2] at h1
      simp at h1
  obtain ⟨ad, rfl⟩ : ∃ ad, fa = some ad := by
    cases fa with
    | some ad => exact ⟨ad, rfl⟩
    | none => exact absurd hso.rd.none hpos
  obtain ⟨W4, eW4⟩ : ∃ W4, W4 = w1.alloc (.cells #[.int .i64 0] 37) := ⟨_, rfl⟩
  have hg14 : w1.grownBy W4 none := by rw [eW4]; exact World.grownBy_alloc _ _ none
  have hgw4 := hgr.trans hg14
  have hz4 : W4.heap.size = w1.heap.size + 1 := by rw [eW4]; exact Array.size_push _
  have hs4 : W4.rowIs w1.heap.size 37 1 (fun _ => .int .i64 0) := by rw [eW4]; exact row1 w1 (.int .i64 0) 37
  have hold2 : ∀ k, w.heap.size ≤ k → ¬ A k ∧ ¬ B k := fun k hk => ⟨fun ha => by have := h.ltA k ha; omega, fun hb => by have := h.ltB k hb; omega⟩
  have hadb := (hso.block ad.block rfl).1
  have hsl := hrow.lt
  have HC := w_caught57 #[.pointer (some ⟨w.heap.size, 0, none⟩), .pointer (some ⟨w.heap.size + 1, 0, none⟩)] (fun w2 => CutEnd W4 base d mb (n + 2) (cutX x dir cp segs op (logB frameR recs)) A B w2) w1 (by
    rw [← eW4]
    refine (w_cut1 p w.heap.size (w.heap.size + 1) (.slice (some ad) (logB frameR recs).length fc) W4 (fun w2 => CutEnd W4 base d mb (n + 2) (cutX x dir cp segs op (logB frameR recs)) A B w2) (hg14.cell (hhd.cell (i := 0) (by omega)) (by simp)) (hg14.cell (hrow.cell (i := 0) (by omega)) (by simp)) (w_cut base d mb n x p dir cp segs op A B ad (logB frameR recs) (logB frameR recs).length fc W4 hdir (ht.grown hgw4) hf (h.grown hgw4) hc hw hop hn hnew hsg hs8 hcp hdel (hso.rd.grown hg14 (by simp)) rfl hby hlen (Nat.le_trans hb hgw4.size) (hold2 _ (by omega)).2)).mono ?_
    rintro e w2 ⟨rfl, hce⟩
    refine ⟨rfl, hce, ?_⟩
    obtain ⟨n', B', _, _, h3, _⟩ := hce
    have hs5 := hs4.of_block (h3.kept.block _ hs4.lt (fun h => h.elim (hold2 _ (by omega)).1 (hold2 _ (by omega)).2))
    exact ⟨hs5.cell (i := 0) (by omega), hs5.frozen 0⟩)
  refine HC.mono ?_
  rintro e w3 ⟨rfl, w2, ⟨n', B', h1, h2, h3, h4, h5⟩, rfl⟩
  have hg : w2.grownBy (w2.setCell ⟨w1.heap.size, 0, none⟩ (.int .i64 0)) (some w1.heap.size) := gb_set rfl
  have hk2 : Kept w2 (w2.setCell ⟨w1.heap.size, 0, none⟩ (.int .i64 0)) (fun k => k = w1.heap.size) := Kept.of hg (fun k hk => by cases hk; rfl)
  refine ⟨rfl, n', B', h1, h2.others hk2 (fun k hb e => ?_), ((Step2.grown A B hgw4).trans h3).cell (by omega), h4, fun k hb => Nat.lt_of_lt_of_le (h5 k hb) hg.size⟩
  subst e
  exact (hold2 _ (by omega)).2 (h3.oldB _ (by rw [hz4]; omega) hb)
end Go.Proofs.YtekejnjaiccnbaaGreatDoor
