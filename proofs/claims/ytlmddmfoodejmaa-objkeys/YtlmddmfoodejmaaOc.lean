/- Package obj: a draft's writes. -/
import Derived.Test.YtlmddmfoodejmaaOb
import Derived.Test.YtlmddmfoodejmaaMh
namespace Go.Proofs.Ytlmddmfoodejmaa
open Go.RowKit Go.Maps
set_option linter.unusedVariables false
set_option maxRecDepth 20000

theorem gd (W : World) : W.grownBy W.drew none := gb_drew (World.grownBy.refl _ _)
theorem Leaves.from_ {w w1 : World} {base d mb n : Nat} {r : Int × DSt} {B : Nat → Prop} {e : Ending} {w' : World} (hg : w.grownBy w1 none) (h : Leaves w1 base d mb n r B e w') : Leaves w base d mb n r B e w' := by
  obtain ⟨h1, n', B', h2, h3, h4⟩ := h
  exact ⟨h1, n', B', h2, h3, (Step.grown B hg).trans h4⟩
theorem DrAt.kept {w w' : World} {g d : Nat} {k : ByteArray} {v : Value} {X : Nat → Prop} (h : DrAt w g d k v) (hk : Kept w w' X) (hn : ¬ X g) : DrAt w' g d k v := (hk.block g h.lt hn).trans h
theorem ObjAt.kept {w w' : World} {g : Nat} {x y : Value} {X : Nat → Prop} (h : ObjAt w g x y) (hk : Kept w w' X) (hn : ¬ X g) : ObjAt w' g x y := (hk.block g h.lt hn).trans h
/-- What clear answers. -/
def DSt.clear (x : DSt) (k : ByteArray) : Int × DSt := (if (x.delete (tN k)).1 = 62 then 0 else (x.delete (tN k)).1, (x.delete (tN k)).2)
set_option maxHeartbeats 4000000 in
theorem o_clear (base d mb n : Nat) (x : DSt) (B : Nat → Prop) (k : ByteArray) (v : Value) (w : World) (h : DS w base d mb n x B) (hok : x.ok) (hB : ∀ k, B k → k < w.heap.size) (hk : keyB k = true) :
    Calls Try.prog 38 #[drV d k v] w (Leaves w base d mb n (x.clear k) B) := by
  obtain ⟨hk1, hk2, hk3⟩ := keyB_name hk
  obtain ⟨W1, eW1⟩ : ∃ W1, W1 = w.alloc (.cells #[.pointer (some ⟨d, 0, none⟩), .string k, v] 75) := ⟨_, rfl⟩
  have hg1 : w.grownBy W1 none := by rw [eW1]; exact World.grownBy_alloc w _ none
  have hb : DrAt W1 w.heap.size d k v := by rw [eW1]; exact DrAt.new w d k v
  have HN : Hid (∀ w1, Calls Try.prog 50 #[drV d k v] w1 fun e w' => e = .returned (.string (tN k)) ∧ w1.grownBy w' none) := fun w1 => o_name d k v w1 (by omega)
  obtain ⟨c, y, er⟩ : ∃ c y, x.delete (tN k) = (c, y) := ⟨_, _, rfl⟩
  have HD : Hid (∀ w1, w.grownBy w1 none → Calls Try.prog 39 #[.pointer (some ⟨d, 0, none⟩), .string (tN k)] w1 (Leaves w1 base d mb n (c, y) B)) := fun w1 hg => by
    have := x_delete base d mb n x B (tN k) w1 (DV.kept h hg) hok (name_tN hk)
    rw [er] at this
    exact this
  have HNB : Hid (¬ B w.heap.size) := fun hb' => Nat.lt_irrefl _ (hB _ hb')
  have HB : Hid (DrAt W1 w.heap.size d k v) := hb
  have HG1 : Hid (w.grownBy W1 none) := hg1
  obtain ⟨r, hr⟩ : ∃ r, r = if c = 62 then 0 else c := ⟨_, rfl⟩
  have hx : x.clear k = (r, y) := by unfold DSt.clear; rw [er, hr]
  have HR : Hid (r = if c = 62 then 0 else c) := hr
  rw [hx]
  have c0 := hb.c0
  have c1 := hb.c1
  have c2 := hb.c2
  clear h hok hB hk hk1 hk2 hk3 hg1 hb er hx hr
  go_enter Try.func38, Try.ntmps38
  go_wp2_with fail
  rw [← eW1]
  clear eW1
  go_region_held3 (fun W => W.cell? ⟨w.heap.size, 0, none⟩ = some (.pointer (some ⟨d, 0, none⟩)) ∧ W.cell? ⟨w.heap.size, 1, none⟩ = some (.string k) ∧ W.cell? ⟨w.heap.size, 2, none⟩ = some v) (go_keep) (first
    | (go_at_call 50; refine (HN.out _).mono ?_; rintro e w1 ⟨rfl, hg⟩; have HG2 : Hid (W1.grownBy w1 none) := (gd W1).trans hg; have d0 := (HB.out.grown HG2.out).c0; have d1 := (HB.out.grown HG2.out).c1; have d2 := (HB.out.grown HG2.out).c2; clear hg)
    | (go_at_call 39; refine (HD.out _ (HG1.out.trans HG2.out)).mono ?_; rintro e w2 ⟨rfl, n', B', hn', hd', hs'⟩; have HL : Hid (∃ n' B', n' ≤ n + 1 ∧ DS w2 base d mb n' y B' ∧ Step w w2 B B') := ⟨n', B', hn', hd', (Step.grown B (HG1.out.trans HG2.out)).trans hs'⟩; have f0 := ((HB.out.grown HG2.out).kept hs'.1 HNB.out).c0; have f1 := ((HB.out.grown HG2.out).kept hs'.1 HNB.out).c1; have f2 := ((HB.out.grown HG2.out).kept hs'.1 HNB.out).c2; clear hd' hs'))
  by_cases h62 : c = 62
  · have q : (c == 62) = true := by simpa using h62
    have HQ : Hid (c = 62) := h62
    clear h62
    go_wp2
    go_ret
    exact ⟨ret_int (by rw [HR.out, if_pos HQ.out]), HL.out⟩
  · have q : (c == 62) = false := by simpa using h62
    have HQ : Hid (¬ c = 62) := h62
    clear h62
    go_wp2
    go_ret
    exact ⟨ret_int (by rw [HR.out, if_neg HQ.out]), HL.out⟩
set_option maxHeartbeats 4000000 in
theorem o_write (base d mb n : Nat) (x : DSt) (B : Nat → Prop) (k : ByteArray) (ad : Addr) (zs : List Int) (M cd : Nat) (w : World) (h : DS w base d mb n x B) (hok : x.ok) (hB : ∀ k, B k → k < w.heap.size) (hk : keyB k = true) (hn : n < 1048576) (hr : SRd byteE w (some ad) zs) (hM : zs.length = M) (hby : ∀ z ∈ zs, 0 ≤ z ∧ z ≤ 255) (hlen : (oldV x.V (tN k)).1.length + M ≤ 4194304) (hbs : base ≤ w.heap.size) (had : ad.block ≠ mb) (hadd : ad.block ≠ d) :
    Calls Try.prog 43 #[drV d k (.slice (some ad) M cd)] w (Leaves w base d mb n (x.append (tN k) zs) B) := by
  obtain ⟨hk1, hk2, hk3⟩ := keyB_name hk
  obtain ⟨W1, eW1⟩ : ∃ W1, W1 = w.alloc (.cells #[.pointer (some ⟨d, 0, none⟩), .string k, (.slice (some ad) M cd)] 75) := ⟨_, rfl⟩
  have hg1 : w.grownBy W1 none := by rw [eW1]; exact World.grownBy_alloc w _ none
  have hb : DrAt W1 w.heap.size d k (.slice (some ad) M cd) := by rw [eW1]; exact DrAt.new w d k _
  have HN : Hid (∀ w1, Calls Try.prog 50 #[drV d k (.slice (some ad) M cd)] w1 fun e w' => e = .returned (.string (tN k)) ∧ w1.grownBy w' none) := fun w1 => o_name d k _ w1 (by omega)
  obtain ⟨c, y, er⟩ : ∃ c y, x.append (tN k) zs = (c, y) := ⟨_, _, rfl⟩
  have HD : Hid (∀ w1, w.grownBy w1 none → Calls Try.prog 60 #[.pointer (some ⟨d, 0, none⟩), .string (tN k), .slice (some ad) M cd] w1 (Leaves w1 base d mb n (c, y) B)) := fun w1 hg => by
    have := x_append base d mb n x B (tN k) ad zs M cd w1 (DV.kept h hg) hok (name_tN hk) hn (SRd.grown hr hg (by simp)) hM hby hlen (Nat.le_trans hbs hg.size) had hadd
    rw [er] at this
    exact this
  have HNB : Hid (¬ B w.heap.size) := fun hb' => Nat.lt_irrefl _ (hB _ hb')
  have HB : Hid (DrAt W1 w.heap.size d k (.slice (some ad) M cd)) := hb
  have HG1 : Hid (w.grownBy W1 none) := hg1
  rw [er]
  have c0 := hb.c0
  have c1 := hb.c1
  have c2 := hb.c2
  clear hr hM hby hlen had hadd hn hbs
  clear h hok hB hk hk1 hk2 hk3 hg1 hb er
  go_enter Try.func43, Try.ntmps43
  go_wp2_with fail
  rw [← eW1]
  clear eW1
  go_region_held3 (fun W => W.cell? ⟨w.heap.size, 0, none⟩ = some (.pointer (some ⟨d, 0, none⟩)) ∧ W.cell? ⟨w.heap.size, 1, none⟩ = some (.string k) ∧ W.cell? ⟨w.heap.size, 2, none⟩ = some ((.slice (some ad) M cd))) (go_keep) (first
    | (go_at_call 50; refine (HN.out _).mono ?_; rintro e w1 ⟨rfl, hg⟩; have HG2 : Hid (W1.grownBy w1 none) := (gd W1).trans hg; have d0 := (HB.out.grown HG2.out).c0; have d1 := (HB.out.grown HG2.out).c1; have d2 := (HB.out.grown HG2.out).c2; clear hg)
    | (go_at_call 60; refine (HD.out _ (HG1.out.trans HG2.out)).mono ?_; rintro e w2 ⟨rfl, n', B', hn', hd', hs'⟩; have HL : Hid (∃ n' B', n' ≤ n + 1 ∧ DS w2 base d mb n' y B' ∧ Step w w2 B B') := ⟨n', B', hn', hd', (Step.grown B (HG1.out.trans HG2.out)).trans hs'⟩; have f0 := ((HB.out.grown HG2.out).kept hs'.1 HNB.out).c0; have f1 := ((HB.out.grown HG2.out).kept hs'.1 HNB.out).c1; have f2 := ((HB.out.grown HG2.out).kept hs'.1 HNB.out).c2; clear hd' hs'))
  go_wp2
  go_ret
  exact ⟨rfl, HL.out⟩
set_option maxHeartbeats 4000000 in
theorem o_sync (base d mb n : Nat) (x : DSt) (B : Nat → Prop) (k : ByteArray) (v : Value) (w : World) (h : DS w base d mb n x B) (hok : x.ok) (hB : ∀ k, B k → k < w.heap.size) (hk : keyB k = true) :
    Calls Try.prog 44 #[drV d k v] w (Leaves w base d mb n (x.sync (tN k)) B) := by
  obtain ⟨hk1, hk2, hk3⟩ := keyB_name hk
  obtain ⟨W1, eW1⟩ : ∃ W1, W1 = w.alloc (.cells #[.pointer (some ⟨d, 0, none⟩), .string k, v] 75) := ⟨_, rfl⟩
  have hg1 : w.grownBy W1 none := by rw [eW1]; exact World.grownBy_alloc w _ none
  have hb : DrAt W1 w.heap.size d k v := by rw [eW1]; exact DrAt.new w d k _
  have HN : Hid (∀ w1, Calls Try.prog 50 #[drV d k v] w1 fun e w' => e = .returned (.string (tN k)) ∧ w1.grownBy w' none) := fun w1 => o_name d k _ w1 (by omega)
  obtain ⟨c, y, er⟩ : ∃ c y, x.sync (tN k) = (c, y) := ⟨_, _, rfl⟩
  have HD : Hid (∀ w1, w.grownBy w1 none → Calls Try.prog 61 #[.pointer (some ⟨d, 0, none⟩), .string (tN k)] w1 (Leaves w1 base d mb n (c, y) B)) := fun w1 hg => by
    have := x_sync base d mb n x B (tN k) w1 (DV.kept h hg) hok (name_tN hk)
    rw [er] at this
    exact this
  have HNB : Hid (¬ B w.heap.size) := fun hb' => Nat.lt_irrefl _ (hB _ hb')
  have HB : Hid (DrAt W1 w.heap.size d k v) := hb
  have HG1 : Hid (w.grownBy W1 none) := hg1
  rw [er]
  have c0 := hb.c0
  have c1 := hb.c1
  have c2 := hb.c2
  clear h hok hB hk hk1 hk2 hk3 hg1 hb er
  go_enter Try.func44, Try.ntmps44
  go_wp2_with fail
  rw [← eW1]
  clear eW1
  go_region_held3 (fun W => W.cell? ⟨w.heap.size, 0, none⟩ = some (.pointer (some ⟨d, 0, none⟩)) ∧ W.cell? ⟨w.heap.size, 1, none⟩ = some (.string k) ∧ W.cell? ⟨w.heap.size, 2, none⟩ = some (v)) (go_keep) (first
    | (go_at_call 50; refine (HN.out _).mono ?_; rintro e w1 ⟨rfl, hg⟩; have HG2 : Hid (W1.grownBy w1 none) := (gd W1).trans hg; have d0 := (HB.out.grown HG2.out).c0; have d1 := (HB.out.grown HG2.out).c1; have d2 := (HB.out.grown HG2.out).c2; clear hg)
    | (go_at_call 61; refine (HD.out _ (HG1.out.trans HG2.out)).mono ?_; rintro e w2 ⟨rfl, n', B', hn', hd', hs'⟩; have HL : Hid (∃ n' B', n' ≤ n + 1 ∧ DS w2 base d mb n' y B' ∧ Step w w2 B B') := ⟨n', B', hn', hd', (Step.grown B (HG1.out.trans HG2.out)).trans hs'⟩; have f0 := ((HB.out.grown HG2.out).kept hs'.1 HNB.out).c0; have f1 := ((HB.out.grown HG2.out).kept hs'.1 HNB.out).c1; have f2 := ((HB.out.grown HG2.out).kept hs'.1 HNB.out).c2; clear hd' hs'))
  go_wp2
  go_ret
  exact ⟨rfl, HL.out⟩
set_option maxHeartbeats 4000000 in
theorem o_place (base d mb n : Nat) (x : DSt) (B : Nat → Prop) (k : ByteArray) (v : Value) (w : World) (h : DS w base d mb n x B) (hok : x.ok) (hB : ∀ k, B k → k < w.heap.size) (hk : keyB k = true) (hn : n ≤ 1048576) :
    Calls Try.prog 45 #[drV d k v] w (Leaves w base d mb n (x.rename (tN k) (oN k)) B) := by
  obtain ⟨hk1, hk2, hk3⟩ := keyB_name hk
  obtain ⟨W1, eW1⟩ : ∃ W1, W1 = w.alloc (.cells #[.pointer (some ⟨d, 0, none⟩), .string k, v] 75) := ⟨_, rfl⟩
  have hg1 : w.grownBy W1 none := by rw [eW1]; exact World.grownBy_alloc w _ none
  have hb : DrAt W1 w.heap.size d k v := by rw [eW1]; exact DrAt.new w d k _
  have HN : Hid (∀ w1, Calls Try.prog 50 #[drV d k v] w1 fun e w' => e = .returned (.string (tN k)) ∧ w1.grownBy w' none) := fun w1 => o_name d k _ w1 (by omega)
  obtain ⟨c, y, er⟩ : ∃ c y, x.rename (tN k) (oN k) = (c, y) := ⟨_, _, rfl⟩
  have HD : Hid (∀ w1, w.grownBy w1 none → Calls Try.prog 62 #[.pointer (some ⟨d, 0, none⟩), .string (tN k), .string (oN k)] w1 (Leaves w1 base d mb n (c, y) B)) := fun w1 hg => by
    have := x_rename base d mb n x B (tN k) (oN k) w1 (DV.kept h hg) hok (name_tN hk) (name_oN hk) hn
    rw [er] at this
    exact this
  have HNB : Hid (¬ B w.heap.size) := fun hb' => Nat.lt_irrefl _ (hB _ hb')
  have HB : Hid (DrAt W1 w.heap.size d k v) := hb
  have HG1 : Hid (w.grownBy W1 none) := hg1
  rw [er]
  have c0 := hb.c0
  have c1 := hb.c1
  have c2 := hb.c2
  have q1 : ¬ (9223372036854775807 : Nat) < 2 + k.size := by omega
  clear hn
  clear h hok hB hk hk1 hk2 hk3 hg1 hb er
  go_enter Try.func45, Try.ntmps45
  go_wp2_with fail
  rw [← eW1]
  clear eW1
  go_region_held3 (fun W => W.cell? ⟨w.heap.size, 0, none⟩ = some (.pointer (some ⟨d, 0, none⟩)) ∧ W.cell? ⟨w.heap.size, 1, none⟩ = some (.string k) ∧ W.cell? ⟨w.heap.size, 2, none⟩ = some (v)) (go_keep) (first
    | (go_at_call 50; refine (HN.out _).mono ?_; rintro e w1 ⟨rfl, hg⟩; have HG2 : Hid (W1.grownBy w1 none) := (gd W1).trans hg; have d0 := (HB.out.grown HG2.out).c0; have d1 := (HB.out.grown HG2.out).c1; have d2 := (HB.out.grown HG2.out).c2; clear hg)
    | (go_at_call 62; rw [oN_eq]; refine (HD.out _ (HG1.out.trans HG2.out)).mono ?_; rintro e w2 ⟨rfl, n', B', hn', hd', hs'⟩; have HL : Hid (∃ n' B', n' ≤ n + 1 ∧ DS w2 base d mb n' y B' ∧ Step w w2 B B') := ⟨n', B', hn', hd', (Step.grown B (HG1.out.trans HG2.out)).trans hs'⟩; have f0 := ((HB.out.grown HG2.out).kept hs'.1 HNB.out).c0; have f1 := ((HB.out.grown HG2.out).kept hs'.1 HNB.out).c1; have f2 := ((HB.out.grown HG2.out).kept hs'.1 HNB.out).c2; clear hd' hs'))
  go_wp2
  go_ret
  exact ⟨rfl, HL.out⟩
end Go.Proofs.Ytlmddmfoodejmaa
