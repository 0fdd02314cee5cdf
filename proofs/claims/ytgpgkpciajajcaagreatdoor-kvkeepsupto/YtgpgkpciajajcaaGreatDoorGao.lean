/- Several texts in one: Wi, Wj, Wk, Wq. -/
import Derived.Test.YtgpgkpciajajcaaGreatDoorGan
import Derived.Deep.RegionHeld3
/- Package wal: Append. -/
namespace Go.Proofs.YtgpgkpciajajcaaGreatDoor
open Go.RowKit Go.Maps Go.Sort
set_option linter.unusedVariables false
set_option maxRecDepth 20000

/-- The library's table isn't among these blocks. -/
def Far (A B : Nat → Prop) : Prop := ∀ g, Tryz.prog.globalNamed "internal/strconv.uint64pow10" = some g → ¬ A g ∧ ¬ B g
theorem Tab.keptK {w w' : World} {X : Nat → Prop} (h : Tab w) (hk : Kept w w' X) (hX : ∀ g, Tryz.prog.globalNamed "internal/strconv.uint64pow10" = some g → ¬ X g) : Tab w' := by
  unfold Tab Lib.TabIs World.var? at h ⊢
  cases hn : Tryz.prog.globalNamed "internal/strconv.uint64pow10" with
  | none => rw [hn] at h; cases h
  | some g =>
    rw [hn] at h
    simp only [Option.bind_some] at h ⊢
    have hlt : g < w.heap.size := by
      rcases Nat.lt_or_ge g w.heap.size with h1 | h1
      · exact h1
      · rw [Array.getElem?_eq_none h1] at h; cases h
    rw [hk.block g hlt (hX g hn)]
    exact h
theorem Tab.lt {w : World} (h : Tab w) {g : Nat} (hn : Tryz.prog.globalNamed "internal/strconv.uint64pow10" = some g) : g < w.heap.size := by
  unfold Tab Lib.TabIs World.var? at h
  rw [hn] at h
  simp only [Option.bind_some] at h
  rcases Nat.lt_or_ge g w.heap.size with h1 | h1
  · exact h1
  · rw [Array.getElem?_eq_none h1] at h; cases h
theorem Tab.step {w w' : World} {A B A' B' : Nat → Prop} (h : Tab w) (hs : Step2 w w' A B A' B') (hf : Far A B) : Tab w' ∧ Far A' B' :=
  ⟨h.keptK hs.kept (fun g hg hx => hx.elim (hf g hg).1 (hf g hg).2), fun g hg => ⟨fun ha => (hf g hg).1 (hs.oldA g (h.lt hg) ha), fun hb => (hf g hg).2 (hs.oldB g (h.lt hg) hb)⟩⟩
theorem rollX_on (x : DSt) (dir : ByteArray) (op : Nat) (hon : x.off = false) (hset : x.set = false) (hok : x.ok) (hw : x.wn ≤ 999999990) : (rollX x dir op).1.off = false ∧ (rollX x dir op).1.set = false ∧ (rollX x dir op).1.ok ∧ (rollX x dir op).1.wn ≤ x.wn + 1 ∧ x.wn ≤ (rollX x dir op).1.wn ∧ (rollX x dir op).2 ≤ op + 1 := by
  unfold rollX
  cases hV : x.V (segN dir op) with
  | none => exact ⟨hon, hset, hok, by dsimp only; omega, Int.le_refl _, Nat.le_succ _⟩
  | some q =>
    dsimp only
    split
    · have e : (x.sync (segN dir op)).2 = { x with wn := x.wn + 1, V := setV x.V (segN dir op) (some (q.1, q.1.length)) } := by
        unfold DSt.sync
        rw [hon, hV]
        unfold DSt.wr
        simp [hset, hon]
      rw [e]
      obtain ⟨h1, h2, h3⟩ := hok
      exact ⟨hon, hset, ⟨by dsimp only; omega, h2, h3⟩, by dsimp only; omega, by dsimp only; omega, Nat.le_refl _⟩
    · exact ⟨hon, hset, hok, by dsimp only; omega, Int.le_refl _, Nat.le_succ _⟩
theorem cell_lt {w : World} {b i : Nat} {v : Value} (h : w.cell? ⟨b, i, none⟩ = some v) : b < w.heap.size := by
  rcases Nat.lt_or_ge b w.heap.size with h2 | h2
  · exact h2
  · exfalso
    unfold World.cell? at h
    simp only at h
    rw [Array.getElem?_eq_none h2] at h
    cases h
theorem cell_kept {w w' : World} {X : Nat → Prop} {b i : Nat} {v : Value} (hk : Kept w w' X) (hb : b < w.heap.size) (hX : ¬ X b) (h : w.cell? ⟨b, i, none⟩ = some v) : w'.cell? ⟨b, i, none⟩ = some v := by
  unfold World.cell? at h ⊢
  simp only at h ⊢
  rw [hk.block b hb hX]
  exact h
theorem srd_kept {w w' : World} {X : Nat → Prop} {ad : Addr} {l : List Int} (h : SRd byteE w (some ad) l) (hk : Kept w w' X) (hb : ad.block < w.heap.size) (hX : ¬ X ad.block) : SRd byteE w' (some ad) l := by
  rcases h with h | ⟨b, off, e, h⟩
  · exact .inl h
  · refine .inr ⟨b, off, e, fun j v hj => ?_⟩
    cases e
    exact cell_kept hk hb hX (h j v hj)
/-- What Append makes of the disk. -/
def appX (x : DSt) (dir : ByteArray) (op : Nat) (rec : List Int) : DSt := ((rollX x dir op).1.append (segN dir (rollX x dir op).2) (frameR rec)).2
set_option maxHeartbeats 8000000 in
theorem w_append1 (base d mb n : Nat) (x : DSt) (p q r : Nat) (dir cp : ByteArray) (segs : List Nat) (op : Nat) (A B : Nat → Prop) (ad : Addr) (zs : List Int) (M cd : Nat) (w : World) (hdir : dirB dir = true) (ht : Tab w) (hf : Far A B) (h : LogAt w base d mb n x p dir cp segs op A B) (hon : x.off = false) (hset : x.set = false) (hok : x.ok) (hw : x.wn ≤ 999999990) (hop : op < 99999998) (hn : n < 1048576) (hsg : segs.length ≤ 4194304) (hq : w.cell? ⟨q, 0, none⟩ = some (.pointer (some ⟨p, 0, none⟩))) (hqA : ¬ A q ∧ ¬ B q) (hrc : w.cell? ⟨r, 0, none⟩ = some (.slice (some ad) M cd)) (hrA : ¬ A r ∧ ¬ B r) (hr : SRd byteE w (some ad) (frameR zs)) (hM : (frameR zs).length = M) (hM0 : M ≠ 0) (hby : ∀ z ∈ frameR zs, 0 ≤ z ∧ z ≤ 255) (hlen : (oldV (rollX x dir op).1.V (segN dir (rollX x dir op).2)).1.length + M ≤ 4194304) (hb : base ≤ w.heap.size) (had : ¬ A ad.block ∧ ¬ B ad.block) (hadl : ad.block < w.heap.size) :
    Calls Tryz.prog 98 #[.pointer (some ⟨q, 0, none⟩), .pointer (some ⟨r, 0, none⟩)] w fun e w' => e = .returned (.tuple #[]) ∧ ∃ n' A' B', n' ≤ n + 1 ∧ LogAt w' base d mb n' (appX x dir op zs) p dir cp (segsX segs (rollX x dir op).2) (rollX x dir op).2 A' B' ∧ Step2 w w' A B A' B' := by
  have HRL : Hid (Calls Tryz.prog 99 #[.pointer (some ⟨p, 0, none⟩)] w fun e w' => e = .returned (.tuple #[]) ∧ ∃ n' B', n' ≤ n ∧ LogAt w' base d mb n' (rollX x dir op).1 p dir cp segs (rollX x dir op).2 A B' ∧ Step2 w w' A B A B') := w_roll base d mb n x p dir cp segs op A B w hdir ht h hon hset hok (by omega)
  have hrx := rollX_on x dir op hon hset hok hw
  have hql : q < w.heap.size := cell_lt hq
  have hrl : r < w.heap.size := cell_lt hrc
  clear h
  go_enter Tryz.func98, Tryz.ntmps98
  go_wp2_with fail
  refine HRL.out.mono ?_
  rintro e w1 ⟨rfl, n1, B1, hn1, hL1, hS1⟩
  have ht1 := ht.step hS1 hf
  have q1 : w1.cell? ⟨q, 0, none⟩ = some (.pointer (some ⟨p, 0, none⟩)) := cell_kept hS1.kept hql (fun h => h.elim hqA.1 hqA.2) hq
  have r1 : w1.cell? ⟨r, 0, none⟩ = some (.slice (some ad) M cd) := cell_kept hS1.kept hrl (fun h => h.elim hrA.1 hrA.2) hrc
  have HWR : Hid (Calls Tryz.prog 100 #[.pointer (some ⟨p, 0, none⟩), .slice (some ad) M cd] w1 fun e w' => e = .returned (.tuple #[]) ∧ ∃ n' A' B', n' ≤ n1 + 1 ∧ LogAt w' base d mb n' (appX x dir op zs) p dir cp (segsX segs (rollX x dir op).2) (rollX x dir op).2 A' B' ∧ Step2 w1 w' A B1 A' B') := w_write base d mb n1 (rollX x dir op).1 p dir cp segs (rollX x dir op).2 A B1 ad (frameR zs) M cd w1 hdir ht1.1 hL1 hrx.1 hrx.2.1 hrx.2.2.1 (by have := hrx.2.2.2.2.2; omega) (by omega) hsg (srd_kept hr hS1.kept hadl (fun h => h.elim had.1 had.2)) hM hby hlen (Nat.le_trans hb hS1.kept.size) (fun h => had.2 (hS1.oldB _ hadl h)) (Nat.lt_of_lt_of_le hadl hS1.kept.size)
  have HS1 : Hid (Step2 w w1 A B A B1) := hS1
  clear hS1 hL1 ht1 HRL hq hrc
  go_wp2_with fail
  refine HWR.out.mono ?_
  rintro e w2 ⟨rfl, n2, A2, B2, hn2, hL2, hS2⟩
  have HR2 : Hid (n2 ≤ n + 1 ∧ LogAt w2 base d mb n2 (appX x dir op zs) p dir cp (segsX segs (rollX x dir op).2) (rollX x dir op).2 A2 B2 ∧ Step2 w w2 A B A2 B2) := ⟨by omega, hL2, HS1.out.trans hS2⟩
  clear hn2 hL2 hS2 HWR
  go_wp2
  go_end0
  exact ⟨rfl, n2, A2, B2, HR2.out⟩
theorem LogAt.cell37 {w : World} {base d mb n : Nat} {x : DSt} {p : Nat} {dir cp : ByteArray} {segs : List Nat} {op s : Nat} {A B : Nat → Prop} {u : Value} (h : LogAt w base d mb n x p dir cp segs op A B) (hA : ¬ A s) (hB : ¬ B s) : LogAt (w.setCell ⟨s, 0, none⟩ u) base d mb n x p dir cp segs op A B ∧ w.grownBy (w.setCell ⟨s, 0, none⟩ u) (some s) := by
  have hg : w.grownBy (w.setCell ⟨s, 0, none⟩ u) (some s) := gb_set rfl
  have hk : Kept w (w.setCell ⟨s, 0, none⟩ u) (fun k => k = s) := Kept.of hg (fun k hk => by cases hk; rfl)
  exact ⟨⟨h.disk.others hk (fun k hb e => hB (e ▸ hb)), h.wal.kept hk (fun k ha e => hA (e ▸ ha)), h.apart, fun k hb => Nat.lt_of_lt_of_le (h.ltB k hb) hg.size, fun k ha => Nat.lt_of_lt_of_le (h.ltA k ha) hg.size⟩, hg⟩
theorem rd_srd {w : World} {a : Option Addr} {zs : List Int} (h : Rd w a zs) : SRd byteE w a zs := by
  rcases h.1 with h1 | ⟨b, off, e, hc⟩
  · exact .inl h1
  · refine .inr ⟨b, off, e, fun j v hj => ?_⟩
    rw [byteE_flat, List.getElem?_map] at hj
    cases hz : zs[j]? with
    | none => rw [hz] at hj; cases hj
    | some z =>
      rw [hz] at hj
      simp only [Option.map_some, Option.some.injEq] at hj
      subst hj
      rw [hc j (List.getElem?_eq_some_iff.1 hz).1, List.getD_eq_getElem?_getD, hz]
      rfl
/-- One more cell, made since, is written. -/
theorem Step2.cell {w w1 : World} {A B A' B' : Nat → Prop} {s : Nat} {u : Value} (h : Step2 w w1 A B A' B') (hs : w.heap.size ≤ s) : Step2 w (w1.setCell ⟨s, 0, none⟩ u) A B A' B' :=
  ⟨h.kept.trans (Kept.of (gb_set (g := s) rfl) (X := fun k => k = s) (fun k hk => by cases hk; rfl)) (fun k hk e => by subst e; omega), h.oldB, h.oldA⟩
/-- What Append leaves. -/
def AppOut (w : World) (base d mb n : Nat) (x : DSt) (p : Nat) (dir cp : ByteArray) (segs : List Nat) (op : Nat) (A B : Nat → Prop) (rec : List Int) (e : Ending) (w' : World) : Prop := e = .returned (.int .i64 0) ∧ ∃ n' A' B', n' ≤ n + 1 ∧ LogAt w' base d mb n' (appX x dir op rec) p dir cp (segsX segs (rollX x dir op).2) (rollX x dir op).2 A' B' ∧ Step2 w w' A B A' B'
set_option maxHeartbeats 8000000 in
theorem w_append (base d mb n : Nat) (x : DSt) (p : Nat) (dir cp : ByteArray) (segs : List Nat) (op : Nat) (A B : Nat → Prop) (a : Option Addr) (zs : List Int) (L cap : Nat) (w : World) (hdir : dirB dir = true) (ht : Tab w) (hf : Far A B) (h : LogAt w base d mb n x p dir cp segs op A B) (hon : x.off = false) (hset : x.set = false) (hok : x.ok) (hw : x.wn ≤ 999999990) (hop : op < 99999998) (hn : n < 1048576) (hsg : segs.length ≤ 4194304) (hr : Rd w a zs) (hL : zs.length = L) (hnil : a = none → cap = 0) (hz : L ≤ 65536) (hlen : (oldV (rollX x dir op).1.V (segN dir (rollX x dir op).2)).1.length + (frameR zs).length ≤ 4194304) (hb : base ≤ w.heap.size) :
    Calls Tryz.prog 73 #[.pointer (some ⟨p, 0, none⟩), .slice a L cap] w (AppOut w base d mb n x p dir cp segs op A B zs) := by
  have hfl : flist zs = frameR zs := by unfold flist; rw [if_neg (by omega)]
  have hfc : fcode zs = 0 := by unfold fcode; rw [if_neg (by omega)]
  have hgq : w.grownBy (w.alloc (.cells #[.pointer (some ⟨p, 0, none⟩)] 65)) none := World.grownBy_alloc w _ none
  have HFR : Hid (Calls Tryz.prog 96 #[.slice a L cap] (w.alloc (.cells #[.pointer (some ⟨p, 0, none⟩)] 65)) fun e w' => ∃ v N c, e = .returned (.tuple #[.slice v N c, .int .i64 0]) ∧ Out (w.alloc (.cells #[.pointer (some ⟨p, 0, none⟩)] 65)) w' v N c (frameR zs) ∧ (w.alloc (.cells #[.pointer (some ⟨p, 0, none⟩)] 65)).grownBy w' none) := f_frame a zs L cap (frameR zs) 0 _ (hr.grown hgq (by simp)) hL hnil (by omega) hfl hfc
  have HL : Hid (LogAt w base d mb n x p dir cp segs op A B) := h
  have HT : Hid (Tab w) := ht
  have HGQ : Hid (w.grownBy (w.alloc (.cells #[.pointer (some ⟨p, 0, none⟩)] 65)) none) := hgq
  have hmf : ∀ (fn : Fn) (first cap : Array Value) (w : World), (Instr.makeFunc fn first cap).run Tryz.prog w = .ok (.func fn first cap) w := fun _ _ _ _ => rfl
  have hs1 : ∀ (w : World) o, (w.alloc o).heap.size = w.heap.size + 1 := fun w o => Array.size_push _
  clear h ht hgq hr hfl hfc
  go_enter Tryz.func73, Tryz.ntmps73
  go_wp2_with fail
  refine HFR.out.mono ?_
  rintro e w1 ⟨fv, FN, fc, rfl, hout, hg1⟩
  obtain ⟨ad, rfl⟩ : ∃ ad, fv = some ad := by
    cases fv with
    | some ad => exact ⟨ad, rfl⟩
    | none =>
      exfalso
      have h1 := hout.1
      have h2 := framing.pos zs
      have h3 := hout.2.2.1 rfl
      have h4 := hout.2.2.2.1
      omega
  go_wp2_with fail
  obtain ⟨W3, eW3⟩ : ∃ W3, W3 = w1.alloc (.cells #[.slice (some ad) FN fc] 37) := ⟨_, rfl⟩
  obtain ⟨W4, eW4⟩ : ∃ W4, W4 = W3.alloc (.cells #[.int .i64 0] 31) := ⟨_, rfl⟩
  have hz0 : (w.alloc (.cells #[.pointer (some ⟨p, 0, none⟩)] 65)).heap.size = w.heap.size + 1 := hs1 _ _
  have hz1 := hg1.size
  rw [hz0] at hz1
  have hz3 : W3.heap.size = w1.heap.size + 1 := by rw [eW3, hs1]
  have hz4 : W4.heap.size = w1.heap.size + 2 := by rw [eW4, hs1, hz3]
  have hg13 : w1.grownBy W4 none := by rw [eW4, eW3]; exact (World.grownBy_alloc w1 _ none).trans (World.grownBy_alloc _ _ none)
  have hgw4 : w.grownBy W4 none := (HGQ.out.trans hg1).trans hg13
  have hq4 : W4.rowIs w.heap.size 65 1 (fun _ => .pointer (some ⟨p, 0, none⟩)) := (row1 w (.pointer (some ⟨p, 0, none⟩)) 65).of_block ((hg1.trans hg13).block _ (by rw [hz0]; omega) (by simp))
  have hr4 : W4.rowIs w1.heap.size 37 1 (fun _ => .slice (some ad) FN fc) := by
    rw [eW4, eW3]
    exact (row1 w1 (.slice (some ad) FN fc) 37).alloc _
  have hs4 : W4.rowIs (w1.heap.size + 1) 31 1 (fun _ => .int .i64 0) := by
    have := row1 W3 (.int .i64 0) 31
    rw [hz3] at this
    rw [eW4]
    exact this
  have hL4 := HL.out.grown hgw4
  have hold : ∀ k, w.heap.size ≤ k → ¬ A k ∧ ¬ B k := fun k hk => ⟨fun ha => by have := HL.out.ltA k ha; omega, fun hb => by have := HL.out.ltB k hb; omega⟩
  have had : w.heap.size ≤ ad.block := by have := hout.2.2.2.2 ad rfl; rw [hz0] at this; omega
  have hfne : frameR zs ≠ [] := by have h2 := framing.pos zs; intro e; rw [e] at h2; simp at h2
  have hadl : ad.block < w1.heap.size := rd_lt hout.2.1 hfne
  have hpos := framing.pos zs
  have HC := w_caught47 #[.pointer (some ⟨w.heap.size, 0, none⟩), .pointer (some ⟨w1.heap.size, 0, none⟩)] (fun w2 => ∃ n' A' B', n' ≤ n + 1 ∧ LogAt w2 base d mb n' (appX x dir op zs) p dir cp (segsX segs (rollX x dir op).2) (rollX x dir op).2 A' B' ∧ Step2 W4 w2 A B A' B') W3 (by
    rw [← eW4, hz3]
    refine (w_append1 base d mb n x p w.heap.size w1.heap.size dir cp segs op A B ad zs FN fc W4 hdir (HT.out.grown hgw4) hf hL4 hon hset hok hw hop hn hsg (hq4.cell (i := 0) (by omega)) (hold _ (Nat.le_refl _)) (hr4.cell (i := 0) (by omega)) (hold _ (by omega)) (rd_srd (hout.2.1.grown hg13 (by simp))) hout.1 (by have := hout.1; omega) hout.2.1.2 (by have := hout.1; omega) (Nat.le_trans hb hgw4.size) (hold _ had) (Nat.lt_of_lt_of_le hadl hg13.size)).mono ?_
    rintro e w2 ⟨rfl, n', A', B', h1, h2, h3⟩
    refine ⟨rfl, ⟨n', A', B', h1, h2, h3⟩, ?_⟩
    have hs5 := hs4.of_block (h3.kept.block _ hs4.lt (fun h => h.elim (hold _ (by omega)).1 (hold _ (by omega)).2))
    exact ⟨hs5.cell (i := 0) (by omega), hs5.frozen 0⟩)
  rw [hz3] at HC
  have HC : Hid (Calls Tryz.prog 97 #[.func (.func 98) #[] #[.pointer (some ⟨w.heap.size, 0, none⟩), .pointer (some ⟨w1.heap.size, 0, none⟩)]] W3 fun e w' => e = .returned (.int .i64 0) ∧ ∃ w2, (∃ n' A' B', n' ≤ n + 1 ∧ LogAt w2 base d mb n' (appX x dir op zs) p dir cp (segsX segs (rollX x dir op).2) (rollX x dir op).2 A' B' ∧ Step2 W4 w2 A B A' B') ∧ w' = w2.setCell ⟨w1.heap.size + 1, 0, none⟩ (.int .i64 0)) := HC
  have HFIN : Hid (∀ w2, (∃ n' A' B', n' ≤ n + 1 ∧ LogAt w2 base d mb n' (appX x dir op zs) p dir cp (segsX segs (rollX x dir op).2) (rollX x dir op).2 A' B' ∧ Step2 W4 w2 A B A' B') → AppOut w base d mb n x p dir cp segs op A B zs (.returned (.int .i64 0)) (w2.setCell ⟨w1.heap.size + 1, 0, none⟩ (.int .i64 0))) := by
    rintro w2 ⟨n', A', B', h1, h2, h3⟩
    refine ⟨rfl, n', A', B', h1, (h2.cell37 (fun ha => (hold _ (by omega)).1 (h3.oldA _ (by rw [hz4]; omega) ha)) (fun hb => (hold _ (by omega)).2 (h3.oldB _ (by rw [hz4]; omega) hb))).1, ((Step2.grown A B hgw4).trans h3).cell (by omega)⟩
  rw [← eW3]
  clear hz0 hz1 hz3 hz4 hg13 hgw4 hq4 hr4 hs4 hL4 hold had hfne hadl eW3 eW4 hout hg1 hpos HFR
  refine HC.out.mono ?_
  rintro e w3 ⟨rfl, w2, hx, rfl⟩
  have HX : Hid (AppOut w base d mb n x p dir cp segs op A B zs (.returned (.int .i64 0)) (w2.setCell ⟨w1.heap.size + 1, 0, none⟩ (.int .i64 0))) := HFIN.out w2 hx
  clear hx HC HFIN
  go_wp2
  go_ret
  exact HX.out
end Go.Proofs.YtgpgkpciajajcaaGreatDoor

/- Package wal: Sync, Segments. -/
namespace Go.Proofs.YtgpgkpciajajcaaGreatDoor
open Go.RowKit Go.Maps Go.Sort
set_option linter.unusedVariables false
set_option maxRecDepth 20000

theorem w_segments (w : World) (p d : Nat) (dir cp : ByteArray) (segs : List Nat) (op : Nat) (A : Nat → Prop) (h : WalA w p d dir cp segs op A) : Calls Tryz.prog 75 #[.pointer (some ⟨p, 0, none⟩)] w fun e w' => e = .returned (.int .i64 (segs.length : Int)) ∧ w = w' := by
  obtain ⟨a, c, hW, _⟩ := h
  obtain ⟨c0, c1, c2, c3, c4⟩ := hW.cells
  clear hW c0 c1 c2 c4
  go_enter Tryz.func75, Tryz.ntmps75
  go_wp2
  go_ret
  exact ⟨rfl, rfl⟩
def syncX (x : DSt) (dir : ByteArray) (segs : List Nat) (op : Nat) : DSt := if isOpen segs op = true then (x.sync (segN dir op)).2 else x
set_option maxHeartbeats 8000000 in
theorem w_sync1 (base d mb n : Nat) (x : DSt) (p q : Nat) (dir cp : ByteArray) (segs : List Nat) (op : Nat) (A B : Nat → Prop) (w : World) (hdir : dirB dir = true) (ht : Tab w) (h : LogAt w base d mb n x p dir cp segs op A B) (hok : x.ok) (hop : op < 99999999) (hs0 : (x.sync (segN dir op)).1 = 0) (hq : w.rowIs q 65 1 (fun _ => .pointer (some ⟨p, 0, none⟩))) (hqA : ¬ A q ∧ ¬ B q) :
    Calls Tryz.prog 102 #[.pointer (some ⟨q, 0, none⟩)] w fun e w' => e = .returned (.tuple #[]) ∧ ∃ n' B', n' ≤ n ∧ LogAt w' base d mb n' (x.sync (segN dir op)).2 p dir cp segs op A B' ∧ Step2 w w' A B A B' := by
  have hds : dir.size ≤ 32 := by simp only [dirB, Bool.and_eq_true, decide_eq_true_eq] at hdir; exact hdir.2
  have hnm := seg_name hdir op
  have HL : Hid (LogAt w base d mb n x p dir cp segs op A B) := h
  obtain ⟨a, c, hW, _⟩ := h.wal
  have HW : Hid (WRow w p d dir cp (.slice a segs.length c) (op : Int)) := hW
  have HQ : Hid (w.rowIs q 65 1 (fun _ => .pointer (some ⟨p, 0, none⟩))) := hq
  have HS0 : Hid ((x.sync (segN dir op)).1 = 0) := hs0
  have c0 := hW.cells.1
  have c4 := hW.cells.2.2.2.2
  have cq : w.cell? ⟨q, 0, none⟩ = some (.pointer (some ⟨p, 0, none⟩)) := hq.cell (i := 0) (by omega)
  have HD0 := fun w => w_done0 w
  have HGD : Hid (w.grownBy w.drew none) := gb_drew (World.grownBy.refl _ _)
  have HSG : Hid (Calls Tryz.prog 105 #[.pointer (some ⟨p, 0, none⟩), .int .i64 (op : Int)] w.drew fun e w' => e = .returned (.string (segN dir op)) ∧ w.drew.grownBy w' none) := w_segment p d dir cp _ _ op (by omega) _ (by omega) (ht.grown HGD.out) (hW.kept HGD.out (by simp))
  have HSY : Hid (∀ w1, w.grownBy w1 none → Calls Tryz.prog 104 #[.pointer (some ⟨d, 0, none⟩), .string (segN dir op)] w1 fun e w' => e = .returned (.int .i64 0) ∧ ∃ n' B', n' ≤ n ∧ LogAt w' base d mb n' (x.sync (segN dir op)).2 p dir cp segs op A B' ∧ Step2 w w' A B A B') := fun w1 hg => by
    have h1 := HL.out.grown hg
    refine (x_syncN base d mb n x B (segN dir op) w1 h1.disk hok hnm).mono ?_
    rintro e w' ⟨rfl, n', B', hn', hd', hst⟩
    obtain ⟨B'', h2, h3⟩ := h1.write hd' hst
    exact ⟨by rw [HS0.out], n', B'', hn', h2, (Step2.grown A B hg).trans h3⟩
  have HCELL : Hid (∀ w2, (∃ n' B', n' ≤ n ∧ LogAt w2 base d mb n' (x.sync (segN dir op)).2 p dir cp segs op A B' ∧ Step2 w w2 A B A B') → w2.cell? ⟨p, 0, none⟩ = some (.pointer (some ⟨d, 0, none⟩)) ∧ w2.cell? ⟨p, 4, none⟩ = some (.int .i64 (op : Int)) ∧ w2.cell? ⟨q, 0, none⟩ = some (.pointer (some ⟨p, 0, none⟩))) := by
    rintro w2 ⟨n', B', _, h2, h3⟩
    obtain ⟨a2, c2, hW2, _⟩ := h2.wal
    exact ⟨hW2.cells.1, hW2.cells.2.2.2.2, cell_kept h3.kept HQ.out.lt (fun h => h.elim hqA.1 hqA.2) cq⟩
  clear h hW hq hs0
  go_enter Tryz.func102, Tryz.ntmps102
  go_wp2_with fail
  go_region_held3 (fun W => W.cell? ⟨q, 0, none⟩ = some (.pointer (some ⟨p, 0, none⟩)) ∧ W.cell? ⟨p, 0, none⟩ = some (.pointer (some ⟨d, 0, none⟩)) ∧ W.cell? ⟨p, 4, none⟩ = some (.int .i64 (op : Int))) (go_keep) (first
    | (go_at_call 105; refine HSG.out.mono ?_; rintro e w1 ⟨rfl, hg1⟩; have HG1 : Hid (w.grownBy w1 none) := HGD.out.trans hg1; have c0' := (HW.out.kept HG1.out (by simp)).cells.1; have c4' := (HW.out.kept HG1.out (by simp)).cells.2.2.2.2; have cq' : w1.cell? ⟨q, 0, none⟩ = some (.pointer (some ⟨p, 0, none⟩)) := HG1.out.cell cq (by simp); clear hg1)
    | (go_at_call 104; refine (HSY.out _ HG1.out).mono ?_; rintro e w2 ⟨rfl, hx2⟩; have HX2 : Hid (∃ n' B', n' ≤ n ∧ LogAt w2 base d mb n' (x.sync (segN dir op)).2 p dir cp segs op A B' ∧ Step2 w w2 A B A B') := hx2; obtain ⟨c0'', c4'', cq''⟩ := HCELL.out w2 hx2; clear hx2)
    | (go_at_call 103; refine (HD0 _).mono ?_; rintro e w3 ⟨rfl, rfl⟩))
  all_goals go_wp2
  all_goals go_end0
  all_goals exact ⟨rfl, HX2.out⟩
def SyncOut (w : World) (base d mb n : Nat) (x : DSt) (p : Nat) (dir cp : ByteArray) (segs : List Nat) (op : Nat) (A B : Nat → Prop) (e : Ending) (w' : World) : Prop := e = .returned (.int .i64 0) ∧ ∃ n' B', n' ≤ n ∧ LogAt w' base d mb n' (syncX x dir segs op) p dir cp segs op A B' ∧ Step2 w w' A B A B'
set_option maxHeartbeats 8000000 in
theorem w_sync (base d mb n : Nat) (x : DSt) (p : Nat) (dir cp : ByteArray) (segs : List Nat) (op : Nat) (A B : Nat → Prop) (w : World) (hdir : dirB dir = true) (ht : Tab w) (h : LogAt w base d mb n x p dir cp segs op A B) (hok : x.ok) (hop : op < 99999999) (hsg : segs.length ≤ 4194304) (hs0 : isOpen segs op = true → (x.sync (segN dir op)).1 = 0) :
    Calls Tryz.prog 74 #[.pointer (some ⟨p, 0, none⟩)] w (SyncOut w base d mb n x p dir cp segs op A B) := by
  have hg0 : w.grownBy (w.alloc (.cells #[.pointer (some ⟨p, 0, none⟩)] 65)) none := World.grownBy_alloc w _ none
  have hL0 := h.grown hg0
  have HL : Hid (LogAt w base d mb n x p dir cp segs op A B) := h
  have HT : Hid (Tab w) := ht
  have HS0 : Hid (isOpen segs op = true → (x.sync (segN dir op)).1 = 0) := hs0
  have HG0 : Hid (w.grownBy (w.alloc (.cells #[.pointer (some ⟨p, 0, none⟩)] 65)) none) := hg0
  obtain ⟨a, c, hW, hso, _⟩ := hL0.wal
  have HHF : Hid (Calls Tryz.prog 101 #[.pointer (some ⟨p, 0, none⟩)] (w.alloc (.cells #[.pointer (some ⟨p, 0, none⟩)] 65)) fun e w' => e = .returned (.bool (isOpen segs op)) ∧ ∃ k, w' = (w.alloc (.cells #[.pointer (some ⟨p, 0, none⟩)] 65)).drewN k) := w_hasFile p d dir cp a c segs op _ hW hso.rd (by omega)
  have hmf : ∀ (fn : Fn) (first cap : Array Value) (w : World), (Instr.makeFunc fn first cap).run Tryz.prog w = .ok (.func fn first cap) w := fun _ _ _ _ => rfl
  have hs1 : ∀ (w : World) o, (w.alloc o).heap.size = w.heap.size + 1 := fun w o => Array.size_push _
  clear h ht hg0 hL0 hW hso hs0
  go_enter Tryz.func74, Tryz.ntmps74
  go_wp2_with fail
  refine HHF.out.mono ?_
  rintro e w1 ⟨rfl, kq, rfl⟩
  obtain ⟨W3, eW3⟩ : ∃ W3, W3 = (w.alloc (.cells #[.pointer (some ⟨p, 0, none⟩)] 65)).drewN kq := ⟨_, rfl⟩
  have hg3 : w.grownBy W3 none := by rw [eW3]; exact gb_drewR HG0.out kq
  rw [← eW3]
  cases ho : isOpen segs op with
  | false =>
    have HX : Hid (SyncOut w base d mb n x p dir cp segs op A B (.returned (.int .i64 0)) W3) := by
      refine ⟨rfl, n, B, Nat.le_refl _, ?_, Step2.grown A B hg3⟩
      unfold syncX
      rw [if_neg (by rw [ho]; simp)]
      exact HL.out.grown hg3
    clear hg3 eW3 HHF
    go_wp2
    go_ret
    exact HX.out
  | true =>
    obtain ⟨W4, eW4⟩ : ∃ W4, W4 = W3.alloc (.cells #[.int .i64 0] 31) := ⟨_, rfl⟩
    have hz3 : W3.heap.size = w.heap.size + 1 := by rw [eW3]; exact hs1 _ _
    have hz4 : W4.heap.size = w.heap.size + 2 := by rw [eW4, hs1, hz3]
    have hgw4 : w.grownBy W4 none := by rw [eW4]; exact hg3.trans (World.grownBy_alloc _ _ none)
    have hq4 : W4.rowIs w.heap.size 65 1 (fun _ => .pointer (some ⟨p, 0, none⟩)) := by
      rw [eW4, eW3]
      exact World.rowIs.alloc (w := (w.alloc (.cells #[.pointer (some ⟨p, 0, none⟩)] 65)).drewN kq) ((row1 w (.pointer (some ⟨p, 0, none⟩)) 65).of_block rfl) _
    have hs4 : W4.rowIs (w.heap.size + 1) 31 1 (fun _ => .int .i64 0) := by
      have := row1 W3 (.int .i64 0) 31
      rw [hz3] at this
      rw [eW4]
      exact this
    have hold : ∀ k, w.heap.size ≤ k → ¬ A k ∧ ¬ B k := fun k hk => ⟨fun ha => by have := HL.out.ltA k ha; omega, fun hb => by have := HL.out.ltB k hb; omega⟩
    have HC := w_caught51 #[.pointer (some ⟨w.heap.size, 0, none⟩)] (fun w2 => ∃ n' B', n' ≤ n ∧ LogAt w2 base d mb n' (x.sync (segN dir op)).2 p dir cp segs op A B' ∧ Step2 W4 w2 A B A B') W3 (by
      rw [← eW4, hz3]
      refine (w_sync1 base d mb n x p w.heap.size dir cp segs op A B W4 hdir (HT.out.grown hgw4) (HL.out.grown hgw4) hok hop (HS0.out ho) hq4 (hold _ (Nat.le_refl _))).mono ?_
      rintro e w2 ⟨rfl, n', B', h1, h2, h3⟩
      refine ⟨rfl, ⟨n', B', h1, h2, h3⟩, ?_⟩
      have hs5 := hs4.of_block (h3.kept.block _ hs4.lt (fun h => h.elim (hold _ (by omega)).1 (hold _ (by omega)).2))
      exact ⟨hs5.cell (i := 0) (by omega), hs5.frozen 0⟩)
    rw [hz3] at HC
    have HC : Hid (Calls Tryz.prog 97 #[.func (.func 102) #[] #[.pointer (some ⟨w.heap.size, 0, none⟩)]] W3 fun e w' => e = .returned (.int .i64 0) ∧ ∃ w2, (∃ n' B', n' ≤ n ∧ LogAt w2 base d mb n' (x.sync (segN dir op)).2 p dir cp segs op A B' ∧ Step2 W4 w2 A B A B') ∧ w' = w2.setCell ⟨w.heap.size + 1, 0, none⟩ (.int .i64 0)) := HC
    have HFIN : Hid (∀ w2, (∃ n' B', n' ≤ n ∧ LogAt w2 base d mb n' (x.sync (segN dir op)).2 p dir cp segs op A B' ∧ Step2 W4 w2 A B A B') → SyncOut w base d mb n x p dir cp segs op A B (.returned (.int .i64 0)) (w2.setCell ⟨w.heap.size + 1, 0, none⟩ (.int .i64 0))) := by
      rintro w2 ⟨n', B', h1, h2, h3⟩
      refine ⟨rfl, n', B', h1, ?_, ((Step2.grown A B hgw4).trans h3).cell (by omega)⟩
      unfold syncX
      rw [if_pos ho]
      exact (h2.cell37 (hold _ (by omega)).1 (fun hb => (hold _ (by omega)).2 (h3.oldB _ (by rw [hz4]; omega) hb))).1
    clear hz3 hz4 hgw4 hq4 hs4 hold eW3 eW4 hg3 HHF
    go_wp2_with fail
    refine HC.out.mono ?_
    rintro e w3 ⟨rfl, w2, hx, rfl⟩
    have HX : Hid (SyncOut w base d mb n x p dir cp segs op A B (.returned (.int .i64 0)) (w2.setCell ⟨w.heap.size + 1, 0, none⟩ (.int .i64 0))) := HFIN.out w2 hx
    clear hx HC HFIN
    go_wp2
    go_ret
    exact HX.out
end Go.Proofs.YtgpgkpciajajcaaGreatDoor

/- Package wal: put. -/
namespace Go.Proofs.YtgpgkpciajajcaaGreatDoor
open Go.RowKit Go.Maps Go.Sort
set_option linter.unusedVariables false
set_option maxRecDepth 20000

/-- What put makes of the disk. -/
def putX (x : DSt) (dir name : ByteArray) (zs : List Int) : DSt := ((((x.append (newN dir) zs).2.sync (newN dir)).2).rename (newN dir) name).2
/-- A disk that is on and not armed. -/
structure DSt.Calm (x : DSt) : Prop where
  on : x.off = false
  free : x.set = false
  ok : x.ok
theorem calm_wr (x : DSt) (h : x.Calm) (l : Bool) (V : Cont) : x.wr l V = (0, { x with wn := x.wn + 1, V := V }) := by
  unfold DSt.wr
  rw [if_pos h.free]
theorem calm_app (x : DSt) (h : x.Calm) (s : ByteArray) (zs : List Int) : x.append s zs = (0, { x with wn := x.wn + 1, V := setV x.V s (some ((oldV x.V s).1 ++ zs, (oldV x.V s).2)) }) := by
  unfold DSt.append
  rw [if_neg (by rw [h.on]; simp), calm_wr x h]
theorem calm_sync (x : DSt) (h : x.Calm) (s : ByteArray) (q : List Int × Nat) (hV : x.V s = some q) : x.sync s = (0, { x with wn := x.wn + 1, V := setV x.V s (some (q.1, q.1.length)) }) := by
  unfold DSt.sync
  rw [if_neg (by rw [h.on]; simp), hV]
  exact calm_wr x h _ _
theorem calm_ren (x : DSt) (h : x.Calm) (s t : ByteArray) (q : List Int × Nat) (hV : x.V s = some q) : x.rename s t = (0, { x with wn := x.wn + 1, V := setV (setV x.V s none) t (some q) }) := by
  unfold DSt.rename
  rw [if_neg (by rw [h.on]; simp), hV]
  exact calm_wr x h _ _
theorem calm_del (x : DSt) (h : x.Calm) (s : ByteArray) (q : List Int × Nat) (hV : x.V s = some q) : x.delete s = (0, { x with wn := x.wn + 1, V := setV x.V s none }) := by
  unfold DSt.delete
  rw [if_neg (by rw [h.on]; simp), hV]
  exact calm_wr x h _ _
theorem calm_next (x : DSt) (h : x.Calm) (hw : x.wn ≤ 999999990) (V : Cont) : ({ x with wn := x.wn + 1, V := V } : DSt).Calm := by
  obtain ⟨h1, h2, h3⟩ := h.ok
  exact ⟨h.on, h.free, ⟨by dsimp only; omega, h2, h3⟩⟩
theorem putX_eq (x : DSt) (h : x.Calm) (hw : x.wn ≤ 999999980) (dir name : ByteArray) (zs : List Int) (hnew : x.V (newN dir) = none) : putX x dir name zs = { x with wn := x.wn + 3, V := setV (setV x.V (newN dir) none) name (some (zs, zs.length)) } := by
  unfold putX
  rw [calm_app x h]
  have e0 : oldV x.V (newN dir) = ([], 0) := by unfold oldV; rw [hnew]; rfl
  rw [e0, List.nil_append]
  have h1 := calm_next x h (by omega) (setV x.V (newN dir) (some (zs, 0)))
  rw [calm_sync _ h1 (newN dir) (zs, 0) (setV_same _ _ _)]
  have h2 := calm_next _ h1 (by dsimp only; omega) (setV (setV x.V (newN dir) (some (zs, 0))) (newN dir) (some (zs, zs.length)))
  rw [calm_ren _ h2 (newN dir) name (zs, zs.length) (setV_same _ _ _)]
  dsimp only
  congr 1
  · omega
  · funext t
    unfold setV
    by_cases e : t = name
    · simp [e]
    · by_cases e2 : t = newN dir
      · simp [e2]
      · simp [e, e2]
set_option maxHeartbeats 8000000 in
theorem w_put (base d mb n : Nat) (x : DSt) (p : Nat) (dir cp name : ByteArray) (segs : List Nat) (op : Nat) (A B : Nat → Prop) (ad : Addr) (zs : List Int) (M cd : Nat) (w : World) (hdir : dirB dir = true) (h : LogAt w base d mb n x p dir cp segs op A B) (hc : x.Calm) (hw : x.wn ≤ 999999980) (hn : n < 1048574) (hnew : x.V (newN dir) = none) (hname : nameB name = true) (hr : SRd byteE w (some ad) zs) (hM : zs.length = M) (hby : ∀ z ∈ zs, 0 ≤ z ∧ z ≤ 255) (hlen : M ≤ 4194304) (hb : base ≤ w.heap.size) (had : ¬ B ad.block) :
    Calls Tryz.prog 140 #[.pointer (some ⟨p, 0, none⟩), .string name, .slice (some ad) M cd] w fun e w' => e = .returned (.tuple #[]) ∧ ∃ n' B', n' ≤ n + 2 ∧ LogAt w' base d mb n' (putX x dir name zs) p dir cp segs op A B' ∧ Step2 w w' A B A B' := by
  have hds : dir.size ≤ 32 := by simp only [dirB, Bool.and_eq_true, decide_eq_true_eq] at hdir; exact hdir.2
  have hnm := new_name hdir
  have HD0 := fun w => w_done0 w
  obtain ⟨x1, ex1⟩ : ∃ x1, x1 = (x.append (newN dir) zs).2 := ⟨_, rfl⟩
  obtain ⟨x2, ex2⟩ : ∃ x2, x2 = (x1.sync (newN dir)).2 := ⟨_, rfl⟩
  obtain ⟨x3, ex3⟩ : ∃ x3, x3 = (x2.rename (newN dir) name).2 := ⟨_, rfl⟩
  have hX3 : putX x dir name zs = x3 := by unfold putX; rw [ex3, ex2, ex1]
  have e0 : oldV x.V (newN dir) = ([], 0) := by unfold oldV; rw [hnew]; rfl
  have k1 := calm_app x hc (newN dir) zs
  have hc1 : x1.Calm := by rw [ex1, k1]; exact calm_next x hc (by omega) _
  have hV1 : x1.V (newN dir) = some (zs, 0) := by rw [ex1, k1]; dsimp only; rw [setV_same, e0]; rfl
  have hw1 : x1.wn = x.wn + 1 := by rw [ex1, k1]
  have k2 := calm_sync x1 hc1 (newN dir) _ hV1
  have hc2 : x2.Calm := by rw [ex2, k2]; exact calm_next x1 hc1 (by omega) _
  have hV2 : x2.V (newN dir) = some (zs, zs.length) := by rw [ex2, k2]; exact setV_same _ _ _
  have hw2 : x2.wn = x.wn + 2 := by rw [ex2, k2]; dsimp only; omega
  have k3 := calm_ren x2 hc2 (newN dir) name _ hV2
  have hBd : B d := by obtain ⟨F, G, _, _, hb⟩ := h.disk; exact hb d (.inl rfl)
  have hBm : B mb := by obtain ⟨F, G, _, _, hb⟩ := h.disk; exact hb mb (.inr (.inl rfl))
  have A1 : Hid (∀ w1, w.grownBy w1 none → Calls Tryz.prog 134 #[.pointer (some ⟨d, 0, none⟩), .string (newN dir), .slice (some ad) M cd] w1 fun e w' => e = .returned (.int .i64 0) ∧ ∃ n' B', n' ≤ n + 1 ∧ LogAt w' base d mb n' x1 p dir cp segs op A B' ∧ Step2 w w' A B A B') := fun w1 hg => by
    have h1 := h.grown hg
    refine (x_append base d mb n x B (newN dir) ad zs M cd w1 h1.disk hc.ok hnm (by omega) (hr.grown hg (by simp)) hM hby (by rw [e0]; simpa using hlen) (Nat.le_trans hb hg.size) (fun e => had (e ▸ hBm)) (fun e => had (e ▸ hBd))).mono ?_
    rintro e w' ⟨rfl, n', B', hn', hd', hst⟩
    rw [← ex1] at hd'
    obtain ⟨B'', h2, h3⟩ := h1.write hd' hst
    exact ⟨by rw [k1], n', B'', hn', h2, (Step2.grown A B hg).trans h3⟩
  have A2 : Hid (∀ n1 B1 w1, LogAt w1 base d mb n1 x1 p dir cp segs op A B1 → Calls Tryz.prog 104 #[.pointer (some ⟨d, 0, none⟩), .string (newN dir)] w1 fun e w' => e = .returned (.int .i64 0) ∧ ∃ n' B', n' ≤ n1 ∧ LogAt w' base d mb n' x2 p dir cp segs op A B' ∧ Step2 w1 w' A B1 A B') := fun n1 B1 w1 h1 => by
    refine (x_syncN base d mb n1 x1 B1 (newN dir) w1 h1.disk hc1.ok hnm).mono ?_
    rintro e w' ⟨rfl, n', B', hn', hd', hst⟩
    rw [← ex2] at hd'
    obtain ⟨B'', h2, h3⟩ := h1.write hd' hst
    exact ⟨by rw [k2], n', B'', hn', h2, h3⟩
  have A3 : Hid (∀ n1 B1 w1, n1 ≤ 1048576 → LogAt w1 base d mb n1 x2 p dir cp segs op A B1 → Calls Tryz.prog 166 #[.pointer (some ⟨d, 0, none⟩), .string (newN dir), .string name] w1 fun e w' => e = .returned (.int .i64 0) ∧ ∃ n' B', n' ≤ n1 + 1 ∧ LogAt w' base d mb n' x3 p dir cp segs op A B' ∧ Step2 w1 w' A B1 A B') := fun n1 B1 w1 hn1 h1 => by
    refine (x_rename base d mb n1 x2 B1 (newN dir) name w1 h1.disk hc2.ok hnm hname hn1).mono ?_
    rintro e w' ⟨rfl, n', B', hn', hd', hst⟩
    rw [← ex3] at hd'
    obtain ⟨B'', h2, h3⟩ := h1.write hd' hst
    exact ⟨by rw [k3], n', B'', hn', h2, h3⟩
  have HDR : Hid (∀ w1 n1 x' B1, LogAt w1 base d mb n1 x' p dir cp segs op A B1 → Calls Tryz.prog 150 #[.pointer (some ⟨p, 0, none⟩)] w1 fun e w' => e = .returned (.string (newN dir)) ∧ w1 = w') := fun w1 n1 x' B1 h1 => by
    obtain ⟨a1, c1, hW, _⟩ := h1.wal
    exact w_draft p d dir cp _ _ w1 (by omega) hW
  have HCL : Hid (∀ w1 n1 x' B1, LogAt w1 base d mb n1 x' p dir cp segs op A B1 → w1.cell? ⟨p, 0, none⟩ = some (.pointer (some ⟨d, 0, none⟩))) := fun w1 n1 x' B1 h1 => by
    obtain ⟨a1, c1, hW, _⟩ := h1.wal
    exact hW.cells.1
  have HGD : ∀ W : World, W.grownBy W.drew none := fun W => gb_drew (World.grownBy.refl _ _)
  have HL : Hid (LogAt w base d mb n x p dir cp segs op A B) := h
  have c0 := HCL.out _ _ _ _ h
  have HLd : Hid (LogAt w.drew base d mb n x p dir cp segs op A B) := h.grown (HGD w)
  rw [hX3]
  clear h hr hby had hBd hBm k1 k2 k3 hc1 hc2 hV1 hV2 ex1 ex2 ex3 hX3 e0 hnew
  go_enter Tryz.func140, Tryz.ntmps140
  go_wp2_with fail
  go_region_held3 (fun W => W.cell? ⟨p, 0, none⟩ = some (.pointer (some ⟨d, 0, none⟩))) (go_keep) (first
    | (go_at_call 150; refine (HDR.out _ _ _ _ HLd.out).mono ?_; rintro e w1 ⟨rfl, rfl⟩)
    | (go_at_call 134; refine (A1.out _ (HGD w)).mono ?_; rintro e w2 ⟨rfl, n1, B1, hn1, hL1, hS1⟩; have HL1 : Hid (LogAt w2 base d mb n1 x1 p dir cp segs op A B1) := hL1; have HS1 : Hid (Step2 w w2 A B A B1) := hS1; have c01 := HCL.out _ _ _ _ hL1; clear hL1 hS1)
    | (go_at_call 103; refine (HD0 _).mono ?_; rintro e w3 ⟨rfl, rfl⟩))
  have HL1d : Hid (LogAt w2.drew base d mb n1 x1 p dir cp segs op A B1) := HL1.out.grown (HGD w2)
  go_wp2_with fail
  go_region_held3 (fun W => W.cell? ⟨p, 0, none⟩ = some (.pointer (some ⟨d, 0, none⟩))) (go_keep) (first
    | (go_at_call 150; refine (HDR.out _ _ _ _ HL1d.out).mono ?_; rintro e w1 ⟨rfl, rfl⟩)
    | (go_at_call 104; refine (A2.out _ _ _ HL1d.out).mono ?_; rintro e w4 ⟨rfl, n2, B2, hn2, hL2, hS2⟩; have HL2 : Hid (LogAt w4 base d mb n2 x2 p dir cp segs op A B2) := hL2; have HS2 : Hid (Step2 w w4 A B A B2) := (HS1.out.trans (Step2.grown A B1 (HGD w2))).trans hS2; have c02 := HCL.out _ _ _ _ hL2; clear hL2 hS2)
    | (go_at_call 103; refine (HD0 _).mono ?_; rintro e w3 ⟨rfl, rfl⟩))
  have HL2d : Hid (LogAt w4.drew base d mb n2 x2 p dir cp segs op A B2) := HL2.out.grown (HGD w4)
  go_wp2_with fail
  go_region_held3 (fun W => W.cell? ⟨p, 0, none⟩ = some (.pointer (some ⟨d, 0, none⟩))) (go_keep) (first
    | (go_at_call 150; refine (HDR.out _ _ _ _ HL2d.out).mono ?_; rintro e w1 ⟨rfl, rfl⟩)
    | (go_at_call 166; refine (A3.out _ _ _ (by omega) HL2d.out).mono ?_; rintro e w6 ⟨rfl, n3, B3, hn3, hL3, hS3⟩; have HL3 : Hid (LogAt w6 base d mb n3 x3 p dir cp segs op A B3) := hL3; have HS3 : Hid (Step2 w w6 A B A B3) := (HS2.out.trans (Step2.grown A B2 (HGD w4))).trans hS3; have c03 := HCL.out _ _ _ _ hL3; clear hL3 hS3)
    | (go_at_call 103; refine (HD0 _).mono ?_; rintro e w3 ⟨rfl, rfl⟩))
  go_wp2
  go_end0
  exact ⟨rfl, n3, B3, by omega, HL3.out, HS3.out⟩
end Go.Proofs.YtgpgkpciajajcaaGreatDoor

/- Package wal: cut. -/
namespace Go.Proofs.YtgpgkpciajajcaaGreatDoor
open Go.RowKit Go.Maps Go.Sort
set_option linter.unusedVariables false
set_option maxRecDepth 20000

/-- Deleted, one behind the other. -/
def delAll (x : DSt) : List ByteArray → DSt
  | [] => x
  | s :: l => delAll (x.delete s).2 l
theorem delAll_snoc (x : DSt) (s : ByteArray) : ∀ l, delAll x (l ++ [s]) = ((delAll x l).delete s).2 := by
  intro l
  induction l generalizing x with
  | nil => rfl
  | cons t l ih => exact ih _
/-- What cut makes of the disk. -/
def cutX (x : DSt) (dir cp : ByteArray) (segs : List Nat) (op : Nat) (zs : List Int) : DSt := delAll (putX x dir (cpN dir op) zs) ((if cp = ⟨#[]⟩ then [] else [cp]) ++ segs.map (segN dir))
/-- In the midst of cut's deletions: the disk, and what is left of the struct's segments. -/
structure CutAt (w w' : World) (base d mb n : Nat) (x : DSt) (p : Nat) (dir cp : ByteArray) (left : List Nat) (op : Nat) (A B B' : Nat → Prop) (a : Option Addr) (c : Nat) : Prop where
  disk : DS w' base d mb n x B'
  row : WRow w' p d dir cp (.slice a left.length c) (op : Int) ∧ IOwn w' 0 (.slice a left.length c) left.length (nI left) ∧ left.length ≤ c ∧ ∀ y, a = some y → A y.block ∧ y.block ≠ p ∧ y.block < w'.heap.size ∧ y.spot = none
  apart : ∀ k, A k → ¬ B' k
  step : Step2 w w' A B A B'
  ltB : ∀ k, B' k → k < w'.heap.size
  ltA : ∀ k, A k → k < w'.heap.size
  own : A p
theorem LogAt.cutAt {w0 w : World} {base d mb n : Nat} {x : DSt} {p : Nat} {dir cp : ByteArray} {segs : List Nat} {op : Nat} {A B0 B : Nat → Prop} (h : LogAt w base d mb n x p dir cp segs op A B) (hs : Step2 w0 w A B0 A B) : ∃ a c, CutAt w0 w base d mb n x p dir cp segs op A B0 B a c := by
  obtain ⟨a, c, h1, h2, h3, h4⟩ := h.wal
  exact ⟨a, c, h.disk, ⟨h1, h2, (iown_cap h2).1, fun y hy => ⟨(h4 y hy).1, (h4 y hy).2, (h2.lt y hy).1, (h2.lt y hy).2⟩⟩, h.apart, hs, h.ltB, h.ltA, h3⟩
theorem CutAt.grown {w0 w w' : World} {base d mb n : Nat} {x : DSt} {p : Nat} {dir cp : ByteArray} {left : List Nat} {op : Nat} {A B0 B : Nat → Prop} {a : Option Addr} {c : Nat} (h : CutAt w0 w base d mb n x p dir cp left op A B0 B a c) (hg : w.grownBy w' none) : CutAt w0 w' base d mb n x p dir cp left op A B0 B a c := by
  obtain ⟨h1, h2, h3, h4⟩ := h.row
  exact ⟨DV.kept h.disk hg, ⟨h1.kept hg (by simp), h2.grown hg, h3, fun y hy => ⟨(h4 y hy).1, (h4 y hy).2.1, Nat.lt_of_lt_of_le (h4 y hy).2.2.1 hg.size, (h4 y hy).2.2.2⟩⟩, h.apart, h.step.trans (Step2.grown A B hg), fun k hk => Nat.lt_of_lt_of_le (h.ltB k hk) hg.size, fun k hk => Nat.lt_of_lt_of_le (h.ltA k hk) hg.size, h.own⟩
theorem CutAt.write {w0 w w' : World} {base d mb n n' : Nat} {x x' : DSt} {p : Nat} {dir cp : ByteArray} {left : List Nat} {op : Nat} {A B0 B B' : Nat → Prop} {a : Option Addr} {c : Nat} (h : CutAt w0 w base d mb n x p dir cp left op A B0 B a c) (hd : DS w' base d mb n' x' B') (hs : Step w w' B B') : ∃ B'', CutAt w0 w' base d mb n' x' p dir cp left op A B0 B'' a c := by
  obtain ⟨h1, h2, h3, h4⟩ := h.row
  have hX : ∀ k, A k → ¬ B k := h.apart
  refine ⟨fun k => B' k ∧ k < w'.heap.size, hd.bound, ⟨h1.of_block (hs.1.block p h1.lt (hX p h.own)), h2.keptK hs.1 (fun k hk => by
    cases a with
    | none => cases hk
    | some y => have e : y.block = k := Option.some.inj hk; subst e; exact hX _ (h4 y rfl).1), h3, fun y hy => ⟨(h4 y hy).1, (h4 y hy).2.1, Nat.lt_of_lt_of_le (h4 y hy).2.2.1 hs.1.size, (h4 y hy).2.2.2⟩⟩, fun k ha hb => h.apart k ha (hs.2 k (h.ltA k ha) hb.1), h.step.trans ⟨hs.1.mono (fun k _ hb => .inr hb), fun k hk hb => hs.2 k hk hb.1, fun k _ ha => ha⟩, fun k hb => hb.2, fun k ha => Nat.lt_of_lt_of_le (h.ltA k ha) hs.1.size, h.own⟩
/-- A cell of the struct is written. -/
theorem CutAt.set {w0 w : World} {base d mb n : Nat} {x : DSt} {p : Nat} {dir cp cp' : ByteArray} {left left' : List Nat} {op op' : Nat} {A B0 B : Nat → Prop} {i : Nat} {u : Value} {a a' : Option Addr} {c c' : Nat} (h : CutAt w0 w base d mb n x p dir cp left op A B0 B a c) (hW : WRow (w.setCell ⟨p, i, none⟩ u) p d dir cp' (.slice a' left'.length c') (op' : Int)) (hr : IOwn w 0 (.slice a' left'.length c') left'.length (nI left')) (hc : left'.length ≤ c') (ha : ∀ y, a' = some y → A y.block ∧ y.block ≠ p ∧ y.block < w.heap.size ∧ y.spot = none) : CutAt w0 (w.setCell ⟨p, i, none⟩ u) base d mb n x p dir cp' left' op' A B0 B a' c' := by
  have hg : w.grownBy (w.setCell ⟨p, i, none⟩ u) (some p) := gb_set rfl
  have hk : Kept w (w.setCell ⟨p, i, none⟩ u) (fun k => k = p) := Kept.of hg (fun k hk => by cases hk; rfl)
  exact ⟨h.disk.others hk (fun k hb e => by subst e; exact h.apart _ h.own hb), ⟨hW, hr.keptK hk (fun k hk e => by
    cases a' with
    | none => cases hk
    | some y => have e' : y.block = k := Option.some.inj hk; subst e'; exact (ha y rfl).2.1 e), hc, fun y hy => ⟨(ha y hy).1, (ha y hy).2.1, Nat.lt_of_lt_of_le (ha y hy).2.2.1 hg.size, (ha y hy).2.2.2⟩⟩, h.apart, h.step.trans ⟨hk.mono (fun k _ e => by subst e; exact .inl h.own), fun k _ hb => hb, fun k _ ha => ha⟩, fun k hb => Nat.lt_of_lt_of_le (h.ltB k hb) hg.size, fun k ha => Nat.lt_of_lt_of_le (h.ltA k ha) hg.size, h.own⟩
theorem tail75n (w : World) (b off M C : Nat) (h : M + 1 ≤ C) : (Instr.slice 44 (.slice (some ⟨b, off, none⟩) (M + 1) C) (some (.int .i64 1)) none none).run Tryz.prog w = .ok (.slice (some (if C = 1 then ⟨b, off, none⟩ else ⟨b, off + 1, none⟩)) M (C - 1)) w := by
  rw [run_slice_l w 44 _ (M + 1) C (by rw [elem75]; exact Tryz.underlying44) .i64 1 (by omega) (by omega), elem75, Tryz.sizeOf3]
  by_cases hC : C = 1
  · subst hC
    simp [sliced, Result.andThen]
  · simp [sliced, Result.andThen, Addr.add, hC]
end Go.Proofs.YtgpgkpciajajcaaGreatDoor

