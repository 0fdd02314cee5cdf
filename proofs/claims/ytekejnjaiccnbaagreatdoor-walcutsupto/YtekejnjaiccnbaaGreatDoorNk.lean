/- Several texts in one: Zp, Zq. -/
import Derived.Test.YtekejnjaiccnbaaGreatDoorYf
import Derived.Test.YtekejnjaiccnbaaGreatDoorNj
/- The document's Name; CopyLists; Open of any name. -/
namespace Go.Proofs.YtekejnjaiccnbaaGreatDoor
open Go.RowKit Go.Maps Go.Sort
set_option linter.unusedVariables false
set_option maxRecDepth 20000

set_option maxHeartbeats 4000000 in
theorem l_copyLists (a : Option Addr) (ts : List Sl) (recs : List (List Int)) (N c : Nat) (W w : World) (hr : RecsIn W a ts recs) (hg : W.grownBy w none) (hN : recs.length = N) (hN4 : N ≤ 4194304) :
    Calls Tryz.prog 24 #[.slice a N c] w fun e w' => ∃ v : Sl, e = .returned (slV v) ∧ RecsLo w.heap.size w' (slV v) N recs ∧ w.grownBy w' none := by
  have HR : Hid (RecsIn W a ts recs) := hr
  have HG0 : Hid (W.grownBy w none) := hg
  have HN : Hid (recs.length = N) := hN
  clear hr hg hN
  go_enter Tryz.func24, Tryz.ntmps24
  go_wp2_with fail
  go_loopw [3, 4] (fun t3 t4 wr => ∃ (i : Nat) (v : Sl) (ts' : List Sl), i ≤ N ∧ t3 = .slice v.1 v.2.1 v.2.2 ∧ t4 = .int .i64 i ∧ SOwn slE 27 wr w.heap.size (slV v) i ts' ∧ RecsAt wr w.heap.size (slV v).ownBlock ts' (recs.take i) ∧ w.grownBy wr none ∧ (i = 0 → v = (none, 0, 0))) (fun _ t4 _ => N - (intOf t4).toNat)
  case atStart => exact ⟨0, (none, 0, 0), [], Nat.zero_le _, rfl, rfl, SOwn.nil 27 _ _, trivial, World.grownBy.refl _ _, fun _ => rfl⟩
  case round =>
    obtain ⟨i, v, ts', hi, rfl, rfl, hso, hre, hgr, hi0⟩ := hrel
    have HSO : Hid (SOwn slE 27 wr w.heap.size (slV v) i ts') := hso
    have HRE : Hid (RecsAt wr w.heap.size (slV v).ownBlock ts' (recs.take i)) := hre
    have HG : Hid (w.grownBy wr none) := hgr
    have HI0 : Hid (i = 0 → v = (none, 0, 0)) := hi0
    clear hi0
    by_cases hlt : i < N
    · have hii : (i : Int) < (N : Int) := by omega
      obtain ⟨b1, o1, t, r, rfl, hcl, hri, hl, hrd, hnil, hlen⟩ := HR.out.get (i := i) (by rw [HN.out]; exact hlt)
      obtain ⟨ta, tn, tc⟩ := t
      dsimp only at hcl hl hrd hnil
      have c1 := hcl wr (HG0.out.trans hgr)
      have HTK : Hid (recs.take (i + 1) = recs.take i ++ [r]) := by show _ = _; rw [List.take_add_one, hri]; rfl
      have HC : Hid (Calls Tryz.prog 18 #[.slice ta tn tc] wr fun e w' => ∃ g c, e = .returned (.slice (some ⟨g, 0, none⟩) tn c) ∧ Own w' wr.heap.size g tn c r ∧ wr.grownBy w' none) := by
        show Calls _ _ _ _ _
        rw [hl]
        exact copy_any ta r tc wr (hrd.grown (HG0.out.trans hgr) (by simp)) hnil (by omega)
      have HL : Hid (tn = r.length) := hl
      clear hso hre hgr hcl hri hl hrd hnil
      obtain ⟨va, vn, vc⟩ := v
      go_wp2_with fail
      refine HC.out.mono ?_
      rintro e w2 ⟨g2, c2, rfl, hown, hg2⟩
      have HOWN : Hid (Own w2 wr.heap.size g2 tn c2 r) := hown
      have HG2 : Hid (wr.grownBy w2 none) := hg2
      have hsz : w.heap.size ≤ w2.heap.size + 1 := by have h1 := HG.out.size; have h2 := hg2.size; omega
      have HSO2 : Hid (SOwn slE 27 (w2.alloc (.cells #[.slice (some ⟨g2, 0, none⟩) tn c2] 27)) w.heap.size (slV (va, vn, vc)) i ts') := SOwn.kept HSO.out (hg2.trans (World.grownBy_alloc w2 _ none)) (by cases va <;> simp [slV, Value.ownBlock])
      clear hown hg2 HC
      go_wp2_with (at_builtin; refine wpList_append_t slET rfl (.tmp 11) (.tmp 17) rfl w.heap.size (slV (va, vn, vc)) i ts' rfl HSO2.out ⟨w2.heap.size, 0, none⟩ [(some ⟨g2, 0, none⟩, tn, c2)] 1 1 rfl rfl (sllit w2 [(some ⟨g2, 0, none⟩, tn, c2)]) (by omega) (by omega) (by unfold maxLen; omega) (by rw [show ((w2.alloc (.cells #[.slice (some ⟨g2, 0, none⟩) tn c2] 27)).heap.size) = w2.heap.size + 1 from Array.size_push _]; exact hsz) ?_; intro g3 k3 w3 ho3 hg3 hgg; have HO3 : Hid (SOwn slE 27 w3 w.heap.size (.slice (some ⟨g3, 0, none⟩) (i + 1) k3) (i + 1) (ts' ++ [(some ⟨g2, 0, none⟩, tn, c2)])) := ho3; have HG3 : Hid ((w2.alloc (.cells #[.slice (some ⟨g2, 0, none⟩) tn c2] 27)).grownBy w3 (Value.ownBlock (slV (va, vn, vc)))) := hg3; have HGG : Hid (Value.ownBlock (slV (va, vn, vc)) = some g3 ∨ g3 = (w2.alloc (.cells #[.slice (some ⟨g2, 0, none⟩) tn c2] 27)).heap.size) := hgg; clear ho3 hg3 hgg)
      go_roundw
      case rel =>
        refine ⟨i + 1, (some ⟨g3, 0, none⟩, i + 1, k3), ts' ++ [((some (⟨g2, 0, none⟩ : Addr)), tn, c2)], by omega, rfl, by go_num, HO3.out, ?_, ?_, fun h => by omega⟩
        · rw [HTK.out]
          have hal := World.grownBy_alloc w2 (.cells #[.slice (some ⟨g2, 0, none⟩) tn c2] 27) none
          have hbl := HSO.out.block
          have hsa : (w2.alloc (.cells #[.slice (some ⟨g2, 0, none⟩) tn c2] 27)).heap.size = w2.heap.size + 1 := Array.size_push _
          have ho : ∀ k', (slV (some ⟨g3, 0, none⟩, i + 1, k3)).ownBlock = some k' → (w2.alloc (.cells #[.slice (some ⟨g2, 0, none⟩) tn c2] 27)).heap.size ≤ k' ∨ (slV (va, vn, vc)).ownBlock = some k' := fun k' hk => by
            have e : g3 = k' := Option.some.inj hk
            subst e
            rcases HGG.out with h | h
            · exact .inr h
            · exact .inl (Nat.le_of_eq h.symm)
          refine RecsAt.app ((HRE.out.kept (HG2.out.trans hal) (fun k hk => by cases hk)).step HG3.out ho) ⟨?_, trivial⟩
          have hge := HOWN.out.ge
          have hcap := HOWN.out.cap
          refine ⟨HL.out, by have := HL.out; dsimp only; omega, (fun h => by cases h), ?_, ?_⟩
          · refine rd_block HOWN.out.rd (fun hr x hx => ?_)
            have hx' : x = ⟨g2, 0, none⟩ := (Option.some.inj hx).symm
            subst hx'
            show w3.heap[g2]? = w2.heap[g2]?
            rw [HG3.out.block g2 (by omega) (fun e => by have h1 := (hbl _ e.symm).2; omega)]
            exact hal.block g2 hge.2 (by simp)
          · intro hr x hx
            have hx' : x = ⟨g2, 0, none⟩ := (Option.some.inj hx).symm
            subst hx'
            have hg1 := HG.out.size
            refine ⟨by show w.heap.size ≤ g2; omega, fun e => ?_⟩
            have e' : g2 = g3 := Option.some.inj e
            rcases HGG.out with h | h
            · have h1 := (hbl _ h).2
              omega
            · omega
        · exact gb_trans (gb_trans (HG.out.trans HG2.out) (World.grownBy_alloc w2 _ none) (fun k hk => by cases hk)) HG3.out (fun k hk => .inl (HSO.out.block k hk).1)
      case measure => simp [intOf]; omega
    · have hii : ¬ (i : Int) < (N : Int) := by omega
      have hiN : i = N := by omega
      subst hiN
      have htake : recs.take i = recs := List.take_of_length_le (by rw [HN.out]; exact Nat.le_refl _)
      rw [htake] at hre
      have HF : Hid (RecsLo w.heap.size wr (slV v) i recs) := ⟨ts', hso, hre, HN.out.symm, fun h => by rw [HI0.out (by rw [← HN.out, h]; rfl)]; rfl⟩
      clear hso hre hgr
      go_wp2
      go_ret
      exact ⟨v.1, v.2.1, v.2.2, rfl, HF.out, HG.out⟩
theorem RecsAt.get {w : World} {lo : Nat} {o : Option Nat} : ∀ {ts : List Sl} {rs : List (List Int)}, RecsAt w lo o ts rs → ∀ (j : Nat) (t : Sl) (r : List Int), ts[j]? = some t → rs[j]? = some r → RecAt w lo o t r
  | t :: ts, r :: rs, h, 0, t', r', ht, hr => by
    simp only [List.getElem?_cons_zero, Option.some.injEq] at ht hr
    subst ht hr
    exact h.1
  | t :: ts, r :: rs, h, j + 1, t', r', ht, hr => RecsAt.get h.2 j t' r' (by simpa using ht) (by simpa using hr)
  | [], _, _, _, _, _, ht, _ => by simp at ht
theorem recs_short {V : Cont} {dir : ByteArray} {Ls : Sg} (h : Log V dir none Ls) : ∀ r ∈ recsOf Ls, r.length ≤ 65536 := by
  intro r hr
  simp only [recsOf, List.mem_flatMap] at hr
  obtain ⟨q, hq, hr⟩ := hr
  exact (h.whole q hq).2.1 r hr
end Go.Proofs.YtekejnjaiccnbaaGreatDoor
