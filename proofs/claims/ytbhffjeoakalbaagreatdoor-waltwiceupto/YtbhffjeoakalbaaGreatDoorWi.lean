/- Package wal: Append. -/
import Derived.Test.YtbhffjeoakalbaaGreatDoorWh
namespace Go.Proofs.YtbhffjeoakalbaaGreatDoor
open Go.RowKit Go.Maps Go.Sort
set_option linter.unusedVariables false
set_option maxRecDepth 20000

/-- The library's table isn't among these blocks. -/
def Far (A B : Nat → Prop) : Prop := ∀ g, Tryz.prog.globalNamed "internal/strconv.uint64pow10" = some g → ¬ A g ∧ ¬ B g
theorem Tab.keptK {w w' : World} {X : Nat → Prop} (h : Tab w) (hk : Kept w w' X) (hX : ∀ g, Tryz.prog.globalNamed "internal/strconv.uint64pow10" = some g → ¬ X g) : Tab w' := by
  unfold Tab Lib.TabIs World.var? at h ⊢
  cases hn : Tryz.prog.globalNamed "internal/strconv.uint64pow10" with
  | none => rw [hn] at h; cases h
  | some g =>
    rw [hn] at h
    simp only [Option.bind_some] at h ⊢
    have hlt : g < w.heap.size := by
      rcases Nat.lt_or_ge g w.heap.size with h1 | h1
      · exact h1
      · rw [Array.getElem?_eq_none h1] at h; cases h
    rw [hk.block g hlt (hX g hn)]
    exact h
theorem Tab.lt {w : World} (h : Tab w) {g : Nat} (hn : Tryz.prog.globalNamed "internal/strconv.uint64pow10" = some g) : g < w.heap.size := by
  unfold Tab Lib.TabIs World.var? at h
  rw [hn] at h
  simp only [Option.bind_some] at h
  rcases Nat.lt_or_ge g w.heap.size with h1 | h1
  · exact h1
  · rw [Array.getElem?_eq_none h1] at h; cases h
theorem Tab.step {w w' : World} {A B A' B' : Nat → Prop} (h : Tab w) (hs : Step2 w w' A B A' B') (hf : Far A B) : Tab w' ∧ Far A' B' :=
  ⟨h.keptK hs.kept (fun g hg hx => hx.elim (hf g hg).1 (hf g hg).2), fun g hg => ⟨fun ha => (hf g hg).1 (hs.oldA g (h.lt hg) ha), fun hb => (hf g hg).2 (hs.oldB g (h.lt hg) hb)⟩⟩
theorem rollX_on (x : DSt) (dir : ByteArray) (op : Nat) (hon : x.off = false) (hset : x.set = false) (hok : x.ok) (hw : x.wn ≤ 999999990) : (rollX x dir op).1.off = false ∧ (rollX x dir op).1.set = false ∧ (rollX x dir op).1.ok ∧ (rollX x dir op).1.wn ≤ x.wn + 1 ∧ x.wn ≤ (rollX x dir op).1.wn ∧ (rollX x dir op).2 ≤ op + 1 := by
  unfold rollX
  cases hV : x.V (segN dir op) with
  | none => exact ⟨hon, hset, hok, by dsimp only; omega, Int.le_refl _, Nat.le_succ _⟩
  | some q =>
    dsimp only
    split
    · have e : (x.sync (segN dir op)).2 = { x with wn := x.wn + 1, V := setV x.V (segN dir op) (some (q.1, q.1.length)) } := by
        unfold DSt.sync
        rw [hon, hV]
        unfold DSt.wr
        simp [hset, hon]
      rw [e]
      obtain ⟨h1, h2, h3⟩ := hok
      exact ⟨hon, hset, ⟨by dsimp only; omega, h2, h3⟩, by dsimp only; omega, by dsimp only; omega, Nat.le_refl _⟩
    · exact ⟨hon, hset, hok, by dsimp only; omega, Int.le_refl _, Nat.le_succ _⟩
theorem cell_lt {w : World} {b i : Nat} {v : Value} (h : w.cell? ⟨b, i, none⟩ = some v) : b < w.heap.size := by
  rcases Nat.lt_or_ge b w.heap.size with h2 | h2
  · exact h2
  · exfalso
    unfold World.cell? at h
    simp only at h
    rw [Array.getElem?_eq_none h2] at h
    cases h
theorem cell_kept {w w' : World} {X : Nat → Prop} {b i : Nat} {v : Value} (hk : Kept w w' X) (hb : b < w.heap.size) (hX : ¬ X b) (h : w.cell? ⟨b, i, none⟩ = some v) : w'.cell? ⟨b, i, none⟩ = some v := by
  unfold World.cell? at h ⊢
  simp only at h ⊢
  rw [hk.block b hb hX]
  exact h
theorem srd_kept {w w' : World} {X : Nat → Prop} {ad : Addr} {l : List Int} (h : SRd byteE w (some ad) l) (hk : Kept w w' X) (hb : ad.block < w.heap.size) (hX : ¬ X ad.block) : SRd byteE w' (some ad) l := by
  rcases h with h | ⟨b, off, e, h⟩
  · exact .inl h
  · refine .inr ⟨b, off, e, fun j v hj => ?_⟩
    cases e
    exact cell_kept hk hb hX (h j v hj)
/-- What Append makes of the disk. -/
def appX (x : DSt) (dir : ByteArray) (op : Nat) (rec : List Int) : DSt := ((rollX x dir op).1.append (segN dir (rollX x dir op).2) (frameR rec)).2
set_option maxHeartbeats 8000000 in
theorem w_append1 (base d mb n : Nat) (x : DSt) (p q r : Nat) (dir cp : ByteArray) (segs : List Nat) (op : Nat) (A B : Nat → Prop) (ad : Addr) (zs : List Int) (M cd : Nat) (w : World) (hdir : dirB dir = true) (ht : Tab w) (hf : Far A B) (h : LogAt w base d mb n x p dir cp segs op A B) (hon : x.off = false) (hset : x.set = false) (hok : x.ok) (hw : x.wn ≤ 999999990) (hop : op < 99999998) (hn : n < 1048576) (hsg : segs.length ≤ 4194304) (hq : w.cell? ⟨q, 0, none⟩ = some (.pointer (some ⟨p, 0, none⟩))) (hqA : ¬ A q ∧ ¬ B q) (hrc : w.cell? ⟨r, 0, none⟩ = some (.slice (some ad) M cd)) (hrA : ¬ A r ∧ ¬ B r) (hr : SRd byteE w (some ad) (frameR zs)) (hM : (frameR zs).length = M) (hM0 : M ≠ 0) (hby : ∀ z ∈ frameR zs, 0 ≤ z ∧ z ≤ 255) (hlen : (oldV (rollX x dir op).1.V (segN dir (rollX x dir op).2)).1.length + M ≤ 4194304) (hb : base ≤ w.heap.size) (had : ¬ A ad.block ∧ ¬ B ad.block) (hadl : ad.block < w.heap.size) :
    Calls Tryz.prog 47 #[.pointer (some ⟨q, 0, none⟩), .pointer (some ⟨r, 0, none⟩)] w fun e w' => e = .returned (.tuple #[]) ∧ ∃ n' A' B', n' ≤ n + 1 ∧ LogAt w' base d mb n' (appX x dir op zs) p dir cp (segsX segs (rollX x dir op).2) (rollX x dir op).2 A' B' ∧ Step2 w w' A B A' B' := by
  have HRL : Hid (Calls Tryz.prog 48 #[.pointer (some ⟨p, 0, none⟩)] w fun e w' => e = .returned (.tuple #[]) ∧ ∃ n' B', n' ≤ n ∧ LogAt w' base d mb n' (rollX x dir op).1 p dir cp segs (rollX x dir op).2 A B' ∧ Step2 w w' A B A B') := w_roll base d mb n x p dir cp segs op A B w hdir ht h hon hset hok (by omega)
  have hrx := rollX_on x dir op hon hset hok hw
  have hql : q < w.heap.size := cell_lt hq
  have hrl : r < w.heap.size := cell_lt hrc
  clear h
  go_enter Tryz.func47, Tryz.ntmps47
  go_wp2_with fail
  refine HRL.out.mono ?_
  rintro e w1 ⟨rfl, n1, B1, hn1, hL1, hS1⟩
  have ht1 := ht.step hS1 hf
  have q1 : w1.cell? ⟨q, 0, none⟩ = some (.pointer (some ⟨p, 0, none⟩)) := cell_kept hS1.kept hql (fun h => h.elim hqA.1 hqA.2) hq
  have r1 : w1.cell? ⟨r, 0, none⟩ = some (.slice (some ad) M cd) := cell_kept hS1.kept hrl (fun h => h.elim hrA.1 hrA.2) hrc
  have HWR : Hid (Calls Tryz.prog 49 #[.pointer (some ⟨p, 0, none⟩), .slice (some ad) M cd] w1 fun e w' => e = .returned (.tuple #[]) ∧ ∃ n' A' B', n' ≤ n1 + 1 ∧ LogAt w' base d mb n' (appX x dir op zs) p dir cp (segsX segs (rollX x dir op).2) (rollX x dir op).2 A' B' ∧ Step2 w1 w' A B1 A' B') := w_write base d mb n1 (rollX x dir op).1 p dir cp segs (rollX x dir op).2 A B1 ad (frameR zs) M cd w1 hdir ht1.1 hL1 hrx.1 hrx.2.1 hrx.2.2.1 (by have := hrx.2.2.2.2.2; omega) (by omega) hsg (srd_kept hr hS1.kept hadl (fun h => h.elim had.1 had.2)) hM hby hlen (Nat.le_trans hb hS1.kept.size) (fun h => had.2 (hS1.oldB _ hadl h)) (Nat.lt_of_lt_of_le hadl hS1.kept.size)
  have HS1 : Hid (Step2 w w1 A B A B1) := hS1
  clear hS1 hL1 ht1 HRL hq hrc
  go_wp2_with fail
  refine HWR.out.mono ?_
  rintro e w2 ⟨rfl, n2, A2, B2, hn2, hL2, hS2⟩
  have HR2 : Hid (n2 ≤ n + 1 ∧ LogAt w2 base d mb n2 (appX x dir op zs) p dir cp (segsX segs (rollX x dir op).2) (rollX x dir op).2 A2 B2 ∧ Step2 w w2 A B A2 B2) := ⟨by omega, hL2, HS1.out.trans hS2⟩
  clear hn2 hL2 hS2 HWR
  go_wp2
  go_end0
  exact ⟨rfl, n2, A2, B2, HR2.out⟩
theorem LogAt.cell37 {w : World} {base d mb n : Nat} {x : DSt} {p : Nat} {dir cp : ByteArray} {segs : List Nat} {op s : Nat} {A B : Nat → Prop} {u : Value} (h : LogAt w base d mb n x p dir cp segs op A B) (hA : ¬ A s) (hB : ¬ B s) : LogAt (w.setCell ⟨s, 0, none⟩ u) base d mb n x p dir cp segs op A B ∧ w.grownBy (w.setCell ⟨s, 0, none⟩ u) (some s) := by
  have hg : w.grownBy (w.setCell ⟨s, 0, none⟩ u) (some s) := gb_set rfl
  have hk : Kept w (w.setCell ⟨s, 0, none⟩ u) (fun k => k = s) := Kept.of hg (fun k hk => by cases hk; rfl)
  exact ⟨⟨h.disk.others hk (fun k hb e => hB (e ▸ hb)), h.wal.kept hk (fun k ha e => hA (e ▸ ha)), h.apart, fun k hb => Nat.lt_of_lt_of_le (h.ltB k hb) hg.size, fun k ha => Nat.lt_of_lt_of_le (h.ltA k ha) hg.size⟩, hg⟩
theorem rd_srd {w : World} {a : Option Addr} {zs : List Int} (h : Rd w a zs) : SRd byteE w a zs := by
  rcases h.1 with h1 | ⟨b, off, e, hc⟩
  · exact .inl h1
  · refine .inr ⟨b, off, e, fun j v hj => ?_⟩
    rw [byteE_flat, List.getElem?_map] at hj
    cases hz : zs[j]? with
    | none => rw [hz] at hj; cases hj
    | some z =>
      rw [hz] at hj
      simp only [Option.map_some, Option.some.injEq] at hj
      subst hj
      rw [hc j (List.getElem?_eq_some_iff.1 hz).1, List.getD_eq_getElem?_getD, hz]
      rfl
/-- One more cell, made since, is written. -/
theorem Step2.cell {w w1 : World} {A B A' B' : Nat → Prop} {s : Nat} {u : Value} (h : Step2 w w1 A B A' B') (hs : w.heap.size ≤ s) : Step2 w (w1.setCell ⟨s, 0, none⟩ u) A B A' B' :=
  ⟨h.kept.trans (Kept.of (gb_set (g := s) rfl) (X := fun k => k = s) (fun k hk => by cases hk; rfl)) (fun k hk e => by subst e; omega), h.oldB, h.oldA⟩
/-- What Append leaves. -/
def AppOut (w : World) (base d mb n : Nat) (x : DSt) (p : Nat) (dir cp : ByteArray) (segs : List Nat) (op : Nat) (A B : Nat → Prop) (rec : List Int) (e : Ending) (w' : World) : Prop := e = .returned (.int .i64 0) ∧ ∃ n' A' B', n' ≤ n + 1 ∧ LogAt w' base d mb n' (appX x dir op rec) p dir cp (segsX segs (rollX x dir op).2) (rollX x dir op).2 A' B' ∧ Step2 w w' A B A' B'
set_option maxHeartbeats 8000000 in
theorem w_append (base d mb n : Nat) (x : DSt) (p : Nat) (dir cp : ByteArray) (segs : List Nat) (op : Nat) (A B : Nat → Prop) (a : Option Addr) (zs : List Int) (L cap : Nat) (w : World) (hdir : dirB dir = true) (ht : Tab w) (hf : Far A B) (h : LogAt w base d mb n x p dir cp segs op A B) (hon : x.off = false) (hset : x.set = false) (hok : x.ok) (hw : x.wn ≤ 999999990) (hop : op < 99999998) (hn : n < 1048576) (hsg : segs.length ≤ 4194304) (hr : Rd w a zs) (hL : zs.length = L) (hnil : a = none → cap = 0) (hz : L ≤ 65536) (hlen : (oldV (rollX x dir op).1.V (segN dir (rollX x dir op).2)).1.length + (frameR zs).length ≤ 4194304) (hb : base ≤ w.heap.size) :
    Calls Tryz.prog 17 #[.pointer (some ⟨p, 0, none⟩), .slice a L cap] w (AppOut w base d mb n x p dir cp segs op A B zs) := by
  have hfl : flist zs = frameR zs := by unfold flist; rw [if_neg (by omega)]
  have hfc : fcode zs = 0 := by unfold fcode; rw [if_neg (by omega)]
  have hgq : w.grownBy (w.alloc (.cells #[.pointer (some ⟨p, 0, none⟩)] 36)) none := World.grownBy_alloc w _ none
  have HFR : Hid (Calls Tryz.prog 25 #[.slice a L cap] (w.alloc (.cells #[.pointer (some ⟨p, 0, none⟩)] 36)) fun e w' => ∃ v N c, e = .returned (.tuple #[.slice v N c, .int .i64 0]) ∧ Out (w.alloc (.cells #[.pointer (some ⟨p, 0, none⟩)] 36)) w' v N c (frameR zs) ∧ (w.alloc (.cells #[.pointer (some ⟨p, 0, none⟩)] 36)).grownBy w' none) := f_frame a zs L cap (frameR zs) 0 _ (hr.grown hgq (by simp)) hL hnil (by omega) hfl hfc
  have HL : Hid (LogAt w base d mb n x p dir cp segs op A B) := h
  have HT : Hid (Tab w) := ht
  have HGQ : Hid (w.grownBy (w.alloc (.cells #[.pointer (some ⟨p, 0, none⟩)] 36)) none) := hgq
  have hmf : ∀ (fn : Fn) (first cap : Array Value) (w : World), (Instr.makeFunc fn first cap).run Tryz.prog w = .ok (.func fn first cap) w := fun _ _ _ _ => rfl
  have hs1 : ∀ (w : World) o, (w.alloc o).heap.size = w.heap.size + 1 := fun w o => Array.size_push _
  clear h ht hgq hr hfl hfc
  go_enter Tryz.func17, Tryz.ntmps17
  go_wp2_with fail
  refine HFR.out.mono ?_
  rintro e w1 ⟨fv, FN, fc, rfl, hout, hg1⟩
  obtain ⟨ad, rfl⟩ : ∃ ad, fv = some ad := by
    cases fv with
    | some ad => exact ⟨ad, rfl⟩
    | none =>
      exfalso
      have h1 := hout.1
      have h2 := framing.pos zs
      have h3 := hout.2.2.1 rfl
      have h4 := hout.2.2.2.1
      omega
  go_wp2_with fail
  obtain ⟨W3, eW3⟩ : ∃ W3, W3 = w1.alloc (.cells #[.slice (some ad) FN fc] 27) := ⟨_, rfl⟩
  obtain ⟨W4, eW4⟩ : ∃ W4, W4 = W3.alloc (.cells #[.int .i64 0] 37) := ⟨_, rfl⟩
  have hz0 : (w.alloc (.cells #[.pointer (some ⟨p, 0, none⟩)] 36)).heap.size = w.heap.size + 1 := hs1 _ _
  have hz1 := hg1.size
  rw [hz0] at hz1
  have hz3 : W3.heap.size = w1.heap.size + 1 := by rw [eW3, hs1]
  have hz4 : W4.heap.size = w1.heap.size + 2 := by rw [eW4, hs1, hz3]
  have hg13 : w1.grownBy W4 none := by rw [eW4, eW3]; exact (World.grownBy_alloc w1 _ none).trans (World.grownBy_alloc _ _ none)
  have hgw4 : w.grownBy W4 none := (HGQ.out.trans hg1).trans hg13
  have hq4 : W4.rowIs w.heap.size 36 1 (fun _ => .pointer (some ⟨p, 0, none⟩)) := (row1 w (.pointer (some ⟨p, 0, none⟩)) 36).of_block ((hg1.trans hg13).block _ (by rw [hz0]; omega) (by simp))
  have hr4 : W4.rowIs w1.heap.size 27 1 (fun _ => .slice (some ad) FN fc) := by
    rw [eW4, eW3]
    exact (row1 w1 (.slice (some ad) FN fc) 27).alloc _
  have hs4 : W4.rowIs (w1.heap.size + 1) 37 1 (fun _ => .int .i64 0) := by
    have := row1 W3 (.int .i64 0) 37
    rw [hz3] at this
    rw [eW4]
    exact this
  have hL4 := HL.out.grown hgw4
  have hold : ∀ k, w.heap.size ≤ k → ¬ A k ∧ ¬ B k := fun k hk => ⟨fun ha => by have := HL.out.ltA k ha; omega, fun hb => by have := HL.out.ltB k hb; omega⟩
  have had : w.heap.size ≤ ad.block := by have := hout.2.2.2.2 ad rfl; rw [hz0] at this; omega
  have hfne : frameR zs ≠ [] := by have h2 := framing.pos zs; intro e; rw [e] at h2; simp at h2
  have hadl : ad.block < w1.heap.size := rd_lt hout.2.1 hfne
  have hpos := framing.pos zs
  have HC := w_caught47 #[.pointer (some ⟨w.heap.size, 0, none⟩), .pointer (some ⟨w1.heap.size, 0, none⟩)] (fun w2 => ∃ n' A' B', n' ≤ n + 1 ∧ LogAt w2 base d mb n' (appX x dir op zs) p dir cp (segsX segs (rollX x dir op).2) (rollX x dir op).2 A' B' ∧ Step2 W4 w2 A B A' B') W3 (by
    rw [← eW4, hz3]
    refine (w_append1 base d mb n x p w.heap.size w1.heap.size dir cp segs op A B ad zs FN fc W4 hdir (HT.out.grown hgw4) hf hL4 hon hset hok hw hop hn hsg (hq4.cell (i := 0) (by omega)) (hold _ (Nat.le_refl _)) (hr4.cell (i := 0) (by omega)) (hold _ (by omega)) (rd_srd (hout.2.1.grown hg13 (by simp))) hout.1 (by have := hout.1; omega) hout.2.1.2 (by have := hout.1; omega) (Nat.le_trans hb hgw4.size) (hold _ had) (Nat.lt_of_lt_of_le hadl hg13.size)).mono ?_
    rintro e w2 ⟨rfl, n', A', B', h1, h2, h3⟩
    refine ⟨rfl, ⟨n', A', B', h1, h2, h3⟩, ?_⟩
    have hs5 := hs4.of_block (h3.kept.block _ hs4.lt (fun h => h.elim (hold _ (by omega)).1 (hold _ (by omega)).2))
    exact ⟨hs5.cell (i := 0) (by omega), hs5.frozen 0⟩)
  rw [hz3] at HC
  have HC : Hid (Calls Tryz.prog 43 #[.func (.func 47) #[] #[.pointer (some ⟨w.heap.size, 0, none⟩), .pointer (some ⟨w1.heap.size, 0, none⟩)]] W3 fun e w' => e = .returned (.int .i64 0) ∧ ∃ w2, (∃ n' A' B', n' ≤ n + 1 ∧ LogAt w2 base d mb n' (appX x dir op zs) p dir cp (segsX segs (rollX x dir op).2) (rollX x dir op).2 A' B' ∧ Step2 W4 w2 A B A' B') ∧ w' = w2.setCell ⟨w1.heap.size + 1, 0, none⟩ (.int .i64 0)) := HC
  have HFIN : Hid (∀ w2, (∃ n' A' B', n' ≤ n + 1 ∧ LogAt w2 base d mb n' (appX x dir op zs) p dir cp (segsX segs (rollX x dir op).2) (rollX x dir op).2 A' B' ∧ Step2 W4 w2 A B A' B') → AppOut w base d mb n x p dir cp segs op A B zs (.returned (.int .i64 0)) (w2.setCell ⟨w1.heap.size + 1, 0, none⟩ (.int .i64 0))) := by
    rintro w2 ⟨n', A', B', h1, h2, h3⟩
    refine ⟨rfl, n', A', B', h1, (h2.cell37 (fun ha => (hold _ (by omega)).1 (h3.oldA _ (by rw [hz4]; omega) ha)) (fun hb => (hold _ (by omega)).2 (h3.oldB _ (by rw [hz4]; omega) hb))).1, ((Step2.grown A B hgw4).trans h3).cell (by omega)⟩
  rw [← eW3]
  clear hz0 hz1 hz3 hz4 hg13 hgw4 hq4 hr4 hs4 hL4 hold had hfne hadl eW3 eW4 hout hg1 hpos HFR
  refine HC.out.mono ?_
  rintro e w3 ⟨rfl, w2, hx, rfl⟩
  have HX : Hid (AppOut w base d mb n x p dir cp segs op A B zs (.returned (.int .i64 0)) (w2.setCell ⟨w1.heap.size + 1, 0, none⟩ (.int .i64 0))) := HFIN.out w2 hx
  clear hx HC HFIN
  go_wp2
  go_ret
  exact HX.out
end Go.Proofs.YtbhffjeoakalbaaGreatDoor
