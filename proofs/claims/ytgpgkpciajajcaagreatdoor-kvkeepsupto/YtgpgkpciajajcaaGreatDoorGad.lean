/- Several texts in one: Dk9, Dk10, Dk11, Dk12, Dk13. -/
import Derived.Test.YtgpgkpciajajcaaGreatDoorGac
/- Package disk: Append. -/
namespace Go.Proofs.YtgpgkpciajajcaaGreatDoor
open Go.RowKit Go.Maps
set_option linter.unusedVariables false
set_option maxRecDepth 20000

def oldV (V : Cont) (s : ByteArray) : List Int × Nat := (V s).getD ([], 0)
theorem v_app1 (base d mb n B3 B4 B5 M cd : Nat) (off set : Bool) (ah kp wn : Int) (V : Cont) (B : Nat → Prop) (s : ByteArray) (ad : Addr) (zs : List Int) (w : World) (F : ByteArray → Option Nat) (G : Nat → FD) (h : DiskIs w base d mb n off set ah kp wn F G) (hv : ∀ s, V s = (F s).map fun b => ((G b).zs, (G b).syn)) (hB : ∀ k, OwnAll d mb F G k → B k) (hss : s.size ≤ 64) (hn : n ≤ 1048576)
    (hB3 : w.rowIs B3 23 1 (fun _ => .pointer (some ⟨d, 0, none⟩))) (hB4 : w.rowIs B4 9 1 (fun _ => .string s)) (hB5 : w.rowIs B5 37 1 (fun _ => .slice (some ad) M cd)) (hr : SRd byteE w (some ad) zs) (hM : zs.length = M) (hby : ∀ z ∈ zs, 0 ≤ z ∧ z ≤ 255) (hlen : (oldV V s).1.length + M ≤ 4194304) (hb : base ≤ w.heap.size) (had : ad.block ≠ mb) :
    Calls Tryz.prog 163 #[.pointer (some ⟨B3, 0, none⟩), .pointer (some ⟨B4, 0, none⟩), .pointer (some ⟨B5, 0, none⟩)] w fun e w' => e = .returned (.tuple #[]) ∧ ∃ n' F' G' B', n' ≤ n + 1 ∧ DiskIs w' base d mb n' off set ah kp wn F' G' ∧ (∀ t, setV V s (some ((oldV V s).1 ++ zs, (oldV V s).2)) t = (F' t).map fun b => ((G' b).zs, (G' b).syn)) ∧ (∀ k, OwnAll d mb F' G' k → B' k) ∧ Step w w' B B' := by
  have hvs := hv s
  cases hF : F s with
  | none =>
    have e0 : oldV V s = ([], 0) := by unfold oldV; rw [hvs, hF]; rfl
    rw [e0] at hlen ⊢
    refine (d_appNew base d mb n B3 B4 B5 M cd off set ah kp wn F G s ad zs w h hF hss hn hB3 hB4 hB5 hr hM hby (by simpa using hlen) hb had).mono ?_
    rintro e w' ⟨rfl, a', c', hd, hk, hx⟩
    obtain ⟨B', ⟨F2, G2, h1, h2, h3⟩, h4⟩ := DV.of (f := ⟨a', c', zs, 0⟩) (s := s) (b := w.heap.size) hB hv hd (setF_same F s _) (updG_same _ _ _) (fun t ht => setF_other F _ ht) (fun t k ht hk => by
      have := (h.lt t k hk).1
      rw [updG_other _ _ (by omega), updG_other _ _ (by omega)]) hk (fun k hk => .inr (.inl hk)) (fun _ => Nat.le_refl _) (fun x hx' => .inr (.inl (hx x hx')))
    exact ⟨rfl, n + 1, F2, G2, B', Nat.le_refl _, h1, by simpa using h2, h3, h4⟩
  | some b =>
    obtain ⟨f, hf⟩ : ∃ f, G b = f := ⟨_, rfl⟩
    obtain ⟨A, C, Z, Y⟩ := f
    have e0 : oldV V s = (Z, Y) := by unfold oldV; rw [hvs, hF, Option.map_some, hf]; rfl
    rw [e0] at hlen ⊢
    refine (d_appOld base d mb n b B3 B4 B5 M cd off set ah kp wn F G A C Z Y s ad zs w h hf hF hss hB3 hB4 hB5 hr hM hby hlen hb).mono ?_
    rintro e w' ⟨rfl, a', c', hd, hk, hx⟩
    obtain ⟨B', ⟨F2, G2, h1, h2, h3⟩, h4⟩ := DV.of (f := ⟨a', c', Z ++ zs, Y⟩) (s := s) (b := b) hB hv hd hF (updG_same _ _ _) (fun t ht => rfl) (fun t k ht hk => by
      rw [updG_other _ _ (fun e => ht (h.inj t s b (by rw [← e]; exact hk) hF))]) hk (fun k hk => by
        rcases hk with e | ⟨x, hx, e⟩
        · exact .inr (.inr ⟨s, b, hF, .inl e⟩)
        · exact .inr (.inr ⟨s, b, hF, .inr ⟨x, by rw [hf]; exact hx, e⟩⟩)) (fun hne => absurd hF hne) (fun x hx' => by
        rcases hx x hx' with h5 | ⟨y, hy, h5⟩
        · exact .inr (.inl h5)
        · exact .inr (.inr ⟨y, hF, by rw [hf]; exact hy, h5⟩))
    exact ⟨rfl, n, F2, G2, B', Nat.le_succ _, h1, h2, h3, h4⟩
/-- The three boxes and the names that Append lays first. -/
def box3 (w : World) (d : Nat) (s : ByteArray) (v : Value) : World := (((w.alloc (.cells #[.pointer (some ⟨d, 0, none⟩)] 23)).alloc (.cells #[.string s] 9)).alloc (.cells #[v] 37)).alloc (.cells #[.string s] 9)
theorem box3_facts (w : World) (d : Nat) (s : ByteArray) (v : Value) : w.grownBy (box3 w d s v) none ∧ (box3 w d s v).rowIs w.heap.size 23 1 (fun _ => .pointer (some ⟨d, 0, none⟩)) ∧ (box3 w d s v).rowIs (w.heap.size + 1) 9 1 (fun _ => .string s) ∧ (box3 w d s v).rowIs (w.heap.size + 1 + 1) 37 1 (fun _ => v) ∧ SRd strE (box3 w d s v) (some ⟨w.heap.size + 1 + 1 + 1, 0, none⟩) [s] := by
  have hs1 : ∀ (w : World) o, (w.alloc o).heap.size = w.heap.size + 1 := fun w o => Array.size_push _
  have g1 := World.grownBy_alloc w (.cells #[.pointer (some ⟨d, 0, none⟩)] 23) none
  have g2 := World.grownBy_alloc (w.alloc (.cells #[.pointer (some ⟨d, 0, none⟩)] 23)) (.cells #[.string s] 9) none
  have g3 := World.grownBy_alloc ((w.alloc (.cells #[.pointer (some ⟨d, 0, none⟩)] 23)).alloc (.cells #[.string s] 9)) (.cells #[v] 37) none
  have g4 := World.grownBy_alloc (((w.alloc (.cells #[.pointer (some ⟨d, 0, none⟩)] 23)).alloc (.cells #[.string s] 9)).alloc (.cells #[v] 37)) (.cells #[.string s] 9) none
  have one : ∀ (u : Value) (i : Nat), i < 1 → (#[u] : Array Value)[i]? = some u := by
    intro u i hi
    obtain rfl : i = 0 := by omega
    rfl
  refine ⟨g1.trans (g2.trans (g3.trans g4)), ?_, ?_, ?_, ?_⟩
  · have r := World.rowIs_alloc w #[.pointer (some ⟨d, 0, none⟩)] 23 (fun _ => .pointer (some ⟨d, 0, none⟩)) (one _)
    exact r.of_block ((g2.trans (g3.trans g4)).block w.heap.size r.lt (by simp))
  · have r := World.rowIs_alloc (w.alloc (.cells #[.pointer (some ⟨d, 0, none⟩)] 23)) #[.string s] 9 (fun _ => .string s) (one _)
    rw [hs1] at r
    exact r.of_block ((g3.trans g4).block _ r.lt (by simp))
  · have r := World.rowIs_alloc ((w.alloc (.cells #[.pointer (some ⟨d, 0, none⟩)] 23)).alloc (.cells #[.string s] 9)) #[v] 37 (fun _ => v) (one _)
    rw [hs1, hs1] at r
    exact r.of_block (g4.block _ r.lt (by simp))
  · have r := slit (((w.alloc (.cells #[.pointer (some ⟨d, 0, none⟩)] 23)).alloc (.cells #[.string s] 9)).alloc (.cells #[v] 37)) [s]
    rw [hs1, hs1, hs1] at r
    exact r
set_option maxHeartbeats 2000000 in
theorem v_appendOff (base d mb n : Nat) (set : Bool) (ah kp wn : Int) (V : Cont) (B : Nat → Prop) (s : ByteArray) (a : Option Addr) (M cd : Nat) (w : World) (h : DV w base d mb n true set ah kp wn V B) (hs : (s.size : Int) ≤ 9223372036854775807) :
    Calls Tryz.prog 134 #[.pointer (some ⟨d, 0, none⟩), .string s, .slice a M cd] w fun e w' => e = .returned (.int .i64 60) ∧ w.grownBy w' none := by
  obtain ⟨hg, r3, r4, r5, hsl⟩ := box3_facts w d s (.slice a M cd)
  have HRC : Hid (Calls Tryz.prog 161 #[.pointer (some ⟨d, 0, none⟩), .slice (some ⟨w.heap.size + 1 + 1 + 1, 0, none⟩) 1 1] (box3 w d s (.slice a M cd)) fun e w' => e = .returned (.int .i64 (reachC true [s])) ∧ (box3 w d s (.slice a M cd)) = w') := d_reach d mb true set ah kp wn _ [s] 1 1 _ (h.row.of_block (hg.block d h.row.lt (by simp))) hsl rfl (by omega) (by intro x hx; simp only [List.mem_singleton] at hx; subst hx; exact hs)
  have HG : Hid (w.grownBy (box3 w d s (.slice a M cd)) none) := hg
  unfold box3 at HRC HG
  clear h hg r3 r4 r5 hsl
  go_enter Tryz.func134, Tryz.ntmps134
  go_wp2_with fail
  refine HRC.out.mono ?_
  rintro e w' ⟨rfl, rfl⟩
  rw [show reachC true [s] = 60 from rfl]
  go_wp2
  go_ret
  exact ⟨rfl, HG.out⟩
end Go.Proofs.YtgpgkpciajajcaaGreatDoor

/- Package disk: Append, done or cut. -/
namespace Go.Proofs.YtgpgkpciajajcaaGreatDoor
open Go.RowKit Go.Maps
set_option linter.unusedVariables false
set_option maxRecDepth 20000

set_option maxHeartbeats 4000000 in
theorem v_appendBy (base d mb n : Nat) (set : Bool) (ah kp wn : Int) (V : Cont) (B : Nat → Prop) (s : ByteArray) (ad : Addr) (M cd : Nat) (R : Int → World → Prop) (w : World) (h : DV w base d mb n false set ah kp wn V B) (hnm : nameB s = true) (hn : n < 1048576) (hlen : (oldV V s).1.length + M ≤ 4194304)
    (hw : Calls Tryz.prog 136 #[.pointer (some ⟨d, 0, none⟩), .bool true, .func (.func 163) #[] #[.pointer (some ⟨w.heap.size, 0, none⟩), .pointer (some ⟨w.heap.size + 1, 0, none⟩), .pointer (some ⟨w.heap.size + 1 + 1, 0, none⟩)]] (box3 w d s (.slice (some ad) M cd)) fun e w' => ∃ c, e = .returned (.int .i64 c) ∧ R c w') :
    Calls Tryz.prog 134 #[.pointer (some ⟨d, 0, none⟩), .string s, .slice (some ad) M cd] w fun e w' => ∃ c, e = .returned (.int .i64 c) ∧ R c w' := by
  obtain ⟨hg, r3, r4, r5, hsl⟩ := box3_facts w d s (.slice (some ad) M cd)
  have hss := nameB_size hnm
  have HRC : Hid (Calls Tryz.prog 161 #[.pointer (some ⟨d, 0, none⟩), .slice (some ⟨w.heap.size + 1 + 1 + 1, 0, none⟩) 1 1] (box3 w d s (.slice (some ad) M cd)) fun e w' => e = .returned (.int .i64 0) ∧ (box3 w d s (.slice (some ad) M cd)) = w') := by
    have := d_reach d mb false set ah kp wn _ [s] 1 1 _ (h.row.of_block (hg.block d h.row.lt (by simp))) hsl rfl (by omega) (by intro x hx; simp only [List.mem_singleton] at hx; subst hx; omega)
    rw [show reachC false [s] = 0 by simp [reachC, hnm]] at this
    exact this
  have HRM : Hid (Calls Tryz.prog 162 #[.pointer (some ⟨d, 0, none⟩), .string s, .int .i64 M] (box3 w d s (.slice (some ad) M cd)) fun e w' => e = .returned (.bool true) ∧ (box3 w d s (.slice (some ad) M cd)) = w') := by
    obtain ⟨F, G, hd, hv, _⟩ := h
    have hd4 := hd.kept hg
    have hvs := hv s
    unfold oldV at hlen
    cases hF : F s with
    | none =>
      rw [hvs, hF] at hlen
      have := d_roomNew d mb n false set ah kp wn M F s _ hd4.row hd4.map hss hF hn
      rw [decide_eq_true (show ((M : Nat) : Int) ≤ 4194304 by simp at hlen; omega)] at this
      exact this
    | some b =>
      rw [hvs, hF] at hlen
      have hf := (hd4.file s b hF).1
      have := d_roomOld d mb n b _ _ _ false set ah kp wn M _ F s _ hd4.row hd4.map hss hF (FileIs.row hf) (FileIs.len hf)
      rw [decide_eq_true (show ((M : Nat) : Int) ≤ 4194304 - ((G b).zs.length : Int) by simp at hlen; omega)] at this
      exact this
  have HW : Hid (Calls Tryz.prog 136 #[.pointer (some ⟨d, 0, none⟩), .bool true, .func (.func 163) #[] #[.pointer (some ⟨w.heap.size, 0, none⟩), .pointer (some ⟨w.heap.size + 1, 0, none⟩), .pointer (some ⟨w.heap.size + 1 + 1, 0, none⟩)]] (box3 w d s (.slice (some ad) M cd)) fun e w' => ∃ c, e = .returned (.int .i64 c) ∧ R c w') := hw
  unfold box3 at HRC HRM HW
  clear h hg r3 r4 r5 hsl hw hlen hn
  go_enter Tryz.func134, Tryz.ntmps134
  go_wp2_with fail
  refine HRC.out.mono ?_
  rintro e w' ⟨rfl, rfl⟩
  go_wp2_with fail
  refine HRM.out.mono ?_
  rintro e w' ⟨rfl, rfl⟩
  go_wp2_with fail
  refine HW.out.mono ?_
  rintro e w' ⟨c, rfl, hR⟩
  have HR : Hid (R c w') := hR
  clear hR
  go_wp2
  go_ret
  exact ⟨c, rfl, HR.out⟩
/-- What stands behind an Append that is done. -/
theorem boxes_stay {w w1 : World} {d : Nat} {s : ByteArray} {v : Value} {mb : Nat} {off set : Bool} {ah kp wn : Int} (hrow : DRow (box3 w d s v) d mb off set ah kp wn) (hk : Kept (box3 w d s v) w1 (fun k => k = d)) :
    w1.rowIs w.heap.size 23 1 (fun _ => .pointer (some ⟨d, 0, none⟩)) ∧ w1.rowIs (w.heap.size + 1) 9 1 (fun _ => .string s) ∧ w1.rowIs (w.heap.size + 1 + 1) 37 1 (fun _ => v) := by
  obtain ⟨hg, r3, r4, r5, _⟩ := box3_facts w d s v
  exact ⟨r3.of_block (hk.block _ r3.lt (row_ne r3 hrow (by decide))), r4.of_block (hk.block _ r4.lt (row_ne r4 hrow (by decide))), r5.of_block (hk.block _ r5.lt (row_ne r5 hrow (by decide)))⟩
/-- Append's closure, called in the midst of a write. -/
theorem app_clos (base d mb n : Nat) (off set set' : Bool) (ah ah' kp wn wn' : Int) (V : Cont) (B : Nat → Prop) (s : ByteArray) (ad : Addr) (zs : List Int) (M cd : Nat) (F : ByteArray → Option Nat) (G : Nat → FD) (w w1 : World) (hd4 : DiskIs (box3 w d s (.slice (some ad) M cd)) base d mb n off set ah kp wn F G) (h1 : DiskIs w1 base d mb n off set' ah' kp wn' F G) (hk1 : Kept (box3 w d s (.slice (some ad) M cd)) w1 (fun k => k = d)) (hv : ∀ s, V s = (F s).map fun b => ((G b).zs, (G b).syn)) (hB : ∀ k, OwnAll d mb F G k → B k)
    (hnm : nameB s = true) (hn : n < 1048576) (hr : SRd byteE w (some ad) zs) (hM : zs.length = M) (hby : ∀ z ∈ zs, 0 ≤ z ∧ z ≤ 255) (hlen : (oldV V s).1.length + M ≤ 4194304) (hb : base ≤ w.heap.size) (had : ad.block ≠ mb) (hadd : ad.block ≠ d) :
    Calls Tryz.prog 163 #[.pointer (some ⟨w.heap.size, 0, none⟩), .pointer (some ⟨w.heap.size + 1, 0, none⟩), .pointer (some ⟨w.heap.size + 1 + 1, 0, none⟩)] w1 fun e w' => e = .returned (.tuple #[]) ∧ ∃ n' F' G', DiskIs w' base d mb n' off set' ah' kp wn' F' G' ∧ n' ≤ n + 1 ∧ (∀ t, setV V s (some ((oldV V s).1 ++ zs, (oldV V s).2)) t = (F' t).map fun b => ((G' b).zs, (G' b).syn)) ∧ ∃ B', (∀ k, OwnAll d mb F' G' k → B' k) ∧ Step w w' B B' := by
  obtain ⟨hg, r3, r4, r5, hsl⟩ := box3_facts w d s (.slice (some ad) M cd)
  obtain ⟨q3, q4, q5⟩ := boxes_stay hd4.row hk1
  have hr1 : SRd byteE w1 (some ad) zs := by
    have h0 := hr.grown hg (by simp)
    rcases h0 with e | ⟨b, off, e, hc⟩
    · exact .inl e
    · refine .inr ⟨b, off, e, fun j v hj => ?_⟩
      have hcj := hc j v hj
      have hbl := World.block_lt_of_cell? _ _ hcj
      have hbd : b ≠ d := by
        have : ad.block = b := by cases e; rfl
        rw [← this]; exact hadd
      unfold World.cell? at hcj ⊢
      rw [hk1.block b hbl hbd]
      exact hcj
  refine (v_app1 base d mb n _ _ _ M cd off set' ah' kp wn' V B s ad zs w1 F G h1 hv hB (nameB_size hnm) (by omega) q3 q4 q5 hr1 hM hby hlen (Nat.le_trans hb (Nat.le_trans hg.size hk1.size)) had).mono ?_
  rintro e w' ⟨rfl, n', F', G', B', hn', hd', hv', hB', hst⟩
  exact ⟨rfl, n', F', G', hd', hn', hv', B', hB', ((Step.grown B hg).trans ⟨hk1.mono (fun k _ hk => hB k (.inl hk)), fun k _ hk => hk⟩).trans hst⟩
theorem v_append (base d mb n : Nat) (ah kp wn : Int) (V : Cont) (B : Nat → Prop) (s : ByteArray) (ad : Addr) (zs : List Int) (M cd : Nat) (w : World) (h : DV w base d mb n false false ah kp wn V B) (hnm : nameB s = true) (hn : n < 1048576) (hw : 0 ≤ wn ∧ wn ≤ 1000000000) (hr : SRd byteE w (some ad) zs) (hM : zs.length = M) (hby : ∀ z ∈ zs, 0 ≤ z ∧ z ≤ 255) (hlen : (oldV V s).1.length + M ≤ 4194304) (hb : base ≤ w.heap.size) (had : ad.block ≠ mb) (hadd : ad.block ≠ d) :
    Calls Tryz.prog 134 #[.pointer (some ⟨d, 0, none⟩), .string s, .slice (some ad) M cd] w fun e w' => e = .returned (.int .i64 0) ∧ ∃ n' B', n' ≤ n + 1 ∧ DV w' base d mb n' false false ah kp (wn + 1) (setV V s (some ((oldV V s).1 ++ zs, (oldV V s).2))) B' ∧ Step w w' B B' := by
  obtain ⟨hg, _⟩ := box3_facts w d s (.slice (some ad) M cd)
  obtain ⟨F, G, hd, hv, hB⟩ := id h
  have hd4 := hd.kept hg
  refine (v_appendBy base d mb n false ah kp wn V B s ad M cd (fun c w' => c = 0 ∧ ∃ n' B', n' ≤ n + 1 ∧ DV w' base d mb n' false false ah kp (wn + 1) (setV V s (some ((oldV V s).1 ++ zs, (oldV V s).2))) B' ∧ Step w w' B B') w h hnm hn hlen ?_).mono ?_
  · refine (d_writeGo46 base d mb n true false ah kp wn F G _ (fun w' => ∃ n' B', n' ≤ n + 1 ∧ DV w' base d mb n' false false ah kp (wn + 1) (setV V s (some ((oldV V s).1 ++ zs, (oldV V s).2))) B' ∧ Step w w' B B') _ hd4 hw ?_).mono ?_
    · intro w1 h1 hk1
      refine (app_clos base d mb n false false false ah ah kp wn (wn + 1) V B s ad zs M cd F G w w1 hd4 h1 hk1 hv hB hnm hn hr hM hby hlen hb had hadd).mono ?_
      rintro e w' ⟨rfl, n', F', G', hd', hn', hv', B', hB', hst⟩
      exact ⟨rfl, n', B', hn', ⟨F', G', hd', hv', hB'⟩, hst⟩
    · rintro e w' ⟨rfl, hP⟩
      exact ⟨0, rfl, rfl, hP⟩
  · rintro e w' ⟨c, rfl, rfl, hP⟩
    exact ⟨rfl, hP⟩
theorem v_appendArmed (base d mb n : Nat) (ah kp wn : Int) (V : Cont) (B : Nat → Prop) (s : ByteArray) (ad : Addr) (zs : List Int) (M cd : Nat) (w : World) (h : DV w base d mb n false true ah kp wn V B) (ha : 0 < ah ∧ ah ≤ 9223372036854775807) (hnm : nameB s = true) (hn : n < 1048576) (hw : 0 ≤ wn ∧ wn ≤ 1000000000) (hr : SRd byteE w (some ad) zs) (hM : zs.length = M) (hby : ∀ z ∈ zs, 0 ≤ z ∧ z ≤ 255) (hlen : (oldV V s).1.length + M ≤ 4194304) (hb : base ≤ w.heap.size) (had : ad.block ≠ mb) (hadd : ad.block ≠ d) :
    Calls Tryz.prog 134 #[.pointer (some ⟨d, 0, none⟩), .string s, .slice (some ad) M cd] w fun e w' => e = .returned (.int .i64 0) ∧ ∃ n' B', n' ≤ n + 1 ∧ DV w' base d mb n' false true (ah - 1) kp (wn + 1) (setV V s (some ((oldV V s).1 ++ zs, (oldV V s).2))) B' ∧ Step w w' B B' := by
  obtain ⟨hg, _⟩ := box3_facts w d s (.slice (some ad) M cd)
  obtain ⟨F, G, hd, hv, hB⟩ := id h
  have hd4 := hd.kept hg
  refine (v_appendBy base d mb n true ah kp wn V B s ad M cd (fun c w' => c = 0 ∧ ∃ n' B', n' ≤ n + 1 ∧ DV w' base d mb n' false true (ah - 1) kp (wn + 1) (setV V s (some ((oldV V s).1 ++ zs, (oldV V s).2))) B' ∧ Step w w' B B') w h hnm hn hlen ?_).mono ?_
  · refine (d_writeArmed46 base d mb n true false ah kp wn F G _ (fun w' => ∃ n' B', n' ≤ n + 1 ∧ DV w' base d mb n' false true (ah - 1) kp (wn + 1) (setV V s (some ((oldV V s).1 ++ zs, (oldV V s).2))) B' ∧ Step w w' B B') _ hd4 hw ha ?_).mono ?_
    · intro w1 h1 hk1
      refine (app_clos base d mb n false true true ah (ah - 1) kp wn (wn + 1) V B s ad zs M cd F G w w1 hd4 h1 hk1 hv hB hnm hn hr hM hby hlen hb had hadd).mono ?_
      rintro e w' ⟨rfl, n', F', G', hd', hn', hv', B', hB', hst⟩
      exact ⟨rfl, n', B', hn', ⟨F', G', hd', hv', hB'⟩, hst⟩
    · rintro e w' ⟨rfl, hP⟩
      exact ⟨0, rfl, rfl, hP⟩
  · rintro e w' ⟨c, rfl, rfl, hP⟩
    exact ⟨rfl, hP⟩
theorem v_appendCut (base d mb n : Nat) (kp wn : Int) (V : Cont) (B : Nat → Prop) (s : ByteArray) (ad : Addr) (zs : List Int) (M cd : Nat) (w : World) (h : DV w base d mb n false true 0 kp wn V B) (hk : -9223372036854775808 ≤ kp ∧ kp ≤ 9223372036854775807) (hnm : nameB s = true) (hn : n < 1048576) (hw : 0 ≤ wn ∧ wn ≤ 1000000000) (hr : SRd byteE w (some ad) zs) (hM : zs.length = M) (hby : ∀ z ∈ zs, 0 ≤ z ∧ z ≤ 255) (hlen : (oldV V s).1.length + M ≤ 4194304) (hb : base ≤ w.heap.size) (had : ad.block ≠ mb) (hadd : ad.block ≠ d) :
    Calls Tryz.prog 134 #[.pointer (some ⟨d, 0, none⟩), .string s, .slice (some ad) M cd] w fun e w' => e = .returned (.int .i64 60) ∧ ∃ n' B', n' ≤ n + 1 ∧ DV w' base d mb n' true false 0 0 (wn + 1) (fun t => (setV V s (some ((oldV V s).1 ++ zs, (oldV V s).2)) t).map (cutV kp)) B' ∧ Step w w' B B' := by
  obtain ⟨hg, _⟩ := box3_facts w d s (.slice (some ad) M cd)
  obtain ⟨F, G, hd, hv, hB⟩ := id h
  have hd4 := hd.kept hg
  refine (v_appendBy base d mb n true 0 kp wn V B s ad M cd (fun c w' => c = 60 ∧ ∃ n' B', n' ≤ n + 1 ∧ DV w' base d mb n' true false 0 0 (wn + 1) (fun t => (setV V s (some ((oldV V s).1 ++ zs, (oldV V s).2)) t).map (cutV kp)) B' ∧ Step w w' B B') w h hnm hn hlen ?_).mono ?_
  · refine (d_writeCut46 base d mb n false kp wn F G _ (fun w1 n' F' G' => n' ≤ n + 1 ∧ (∀ t, setV V s (some ((oldV V s).1 ++ zs, (oldV V s).2)) t = (F' t).map fun b => ((G' b).zs, (G' b).syn)) ∧ ∃ B', (∀ k, OwnAll d mb F' G' k → B' k) ∧ Step w w1 B B') _ hd4 hw hk ?_).mono ?_
    · intro w1 h1 hk1
      exact app_clos base d mb n false true true 0 0 kp wn (wn + 1) V B s ad zs M cd F G w w1 hd4 h1 hk1 hv hB hnm hn hr hM hby hlen hb had hadd
    · rintro e w' ⟨rfl, w1, n', F', G', ⟨hn', hv', B', hB', hst⟩, hd', hk'⟩
      obtain ⟨h1, h2⟩ := DV.cut (off := false) (set := true) (ah := 0) (kp := kp) (wn := wn) hd' hv' hB' hk'
      exact ⟨60, rfl, rfl, n', B', hn', h1, hst.trans h2⟩
  · rintro e w' ⟨c, rfl, rfl, hP⟩
    exact ⟨rfl, hP⟩
end Go.Proofs.YtgpgkpciajajcaaGreatDoor

/- Package disk: Sync. -/
namespace Go.Proofs.YtgpgkpciajajcaaGreatDoor
open Go.RowKit Go.Maps
set_option linter.unusedVariables false
set_option maxRecDepth 20000

theorem one_cell (u : Value) : ∀ i, i < (#[u] : Array Value).size → (#[u] : Array Value)[i]? = some u := by
  intro i hi
  obtain rfl : i = 0 := by simpa using hi
  rfl
theorem DiskIs.synced {w : World} {base d mb n b : Nat} {off set : Bool} {ah kp wn : Int} {F : ByteArray → Option Nat} {G : Nat → FD} {A : Option Addr} {C : Nat} {Z : List Int} {Y : Nat} {s : ByteArray} (h : DiskIs w base d mb n off set ah kp wn F G) (hG : G b = ⟨A, C, Z, Y⟩) (hs : F s = some b) :
    DiskIs (w.setCell ⟨b, 1, none⟩ (.int .i64 (Z.length : Nat))) base d mb n off set ah kp wn F (updG G b ⟨A, C, Z, Z.length⟩) ∧ Kept w (w.setCell ⟨b, 1, none⟩ (.int .i64 (Z.length : Nat))) (fun k => k = b) := by
  have hfile : FileIs w base b A C Z Y := by have := (h.file s b hs).1; rw [hG] at this; exact this
  have hgs : w.grownBy (w.setCell ⟨b, 1, none⟩ (.int .i64 (Z.length : Nat))) (some b) := gb_set rfl
  have hk : Kept w (w.setCell ⟨b, 1, none⟩ (.int .i64 (Z.length : Nat))) (fun k => k = b) := Kept.of hgs (fun k hk => by cases hk; rfl)
  have hlt := h.lt s b hs
  refine ⟨h.put hs hk (fun e => hlt.2.1 e.symm) (fun e => hlt.2.2 e.symm) (fun t b' ht hne => ⟨hne, fun x hx e => (h.slc ht hx).2.2.2.2 s b hs e⟩) ⟨?_, ?_, hfile.byte, Nat.le_refl _, hfile.len⟩ ?_, hk⟩
  · exact (hfile.row.set 1 _).congr (two rfl rfl)
  · exact SOwn.kept hfile.own hgs (.inr (sown_apart hfile.own hfile.row (by decide)))
  · intro t b' ht hne x y hx hy
    exact h.apart s t b b' hs ht (fun e => hne e.symm) x y (by rw [hG]; exact hx) hy
set_option maxHeartbeats 4000000 in
theorem d_sync1 (base d mb n b p : Nat) (off set : Bool) (ah kp wn : Int) (F : ByteArray → Option Nat) (G : Nat → FD) (A : Option Addr) (C : Nat) (Z : List Int) (Y : Nat) (s : ByteArray) (w : World) (h : DiskIs w base d mb n off set ah kp wn F G) (hG : G b = ⟨A, C, Z, Y⟩) (hs : F s = some b) (hp : w.cell? ⟨p, 0, none⟩ = some (.pointer (some ⟨b, 0, none⟩))) :
    Calls Tryz.prog 137 #[.pointer (some ⟨p, 0, none⟩)] w fun e w' => e = .returned (.tuple #[]) ∧ DiskIs w' base d mb n off set ah kp wn F (updG G b ⟨A, C, Z, Z.length⟩) ∧ Kept w w' (fun k => k = b) := by
  have hfile : FileIs w base b A C Z Y := by have := (h.file s b hs).1; rw [hG] at this; exact this
  obtain ⟨L, eL⟩ : ∃ L, L = Z.length := ⟨_, rfl⟩
  have b0 : w.cell? ⟨b, 0, none⟩ = some (.slice A L C) := by rw [eL]; exact hfile.row.cell (i := 0) (by omega)
  have b1 : w.cell? ⟨b, 1, none⟩ = some (.int .i64 Y) := hfile.row.cell (i := 1) (by omega)
  have f1 := hfile.row.frozen 1
  have hsy := h.synced hG hs
  rw [← eL] at hsy ⊢
  have HS : Hid (DiskIs (w.setCell ⟨b, 1, none⟩ (.int .i64 (L : Nat))) base d mb n off set ah kp wn F (updG G b ⟨A, C, Z, L⟩) ∧ Kept w (w.setCell ⟨b, 1, none⟩ (.int .i64 (L : Nat))) (fun k => k = b)) := hsy
  clear h hG hs hfile hsy eL
  go_enter Tryz.func137, Tryz.ntmps137
  go_wp2_with fail
  go_region
  all_goals go_wp2
  all_goals go_end0
  all_goals exact ⟨rfl, HS.out.1.drew, HS.out.2.os, HS.out.2.tape, HS.out.2.output, HS.out.2.size, HS.out.2.block⟩
set_option maxHeartbeats 4000000 in
theorem v_syncBy (base d mb n b : Nat) (set : Bool) (ah kp wn : Int) (F : ByteArray → Option Nat) (G : Nat → FD) (s : ByteArray) (R : Int → World → Prop) (w : World) (h : DiskIs w base d mb n false set ah kp wn F G) (hnm : nameB s = true) (hs : F s = some b)
    (hw : ∀ W p, w.grownBy W none → W.cell? ⟨p, 0, none⟩ = some (.pointer (some ⟨b, 0, none⟩)) → p ≠ d → Calls Tryz.prog 136 #[.pointer (some ⟨d, 0, none⟩), .bool false, .func (.func 137) #[] #[.pointer (some ⟨p, 0, none⟩)]] W fun e w' => ∃ c, e = .returned (.int .i64 c) ∧ R c w') :
    Calls Tryz.prog 104 #[.pointer (some ⟨d, 0, none⟩), .string s] w fun e w' => ∃ c, e = .returned (.int .i64 c) ∧ R c w' := by
  have hss := nameB_size hnm
  have HF : Hid (Calls Tryz.prog 135 #[.pointer (some ⟨d, 0, none⟩), .string s] w fun e w' => e = .returned (.tuple #[.pointer (some ⟨b, 0, none⟩), .int .i64 0]) ∧ w.grownBy w' none) := by
    have := d_find d mb n false set ah kp wn F s w h.row h.map (by omega)
    rw [show findP false F s = some b by simp [findP, hnm, hs], show findC false F s = 0 by simp [findC, hnm, hs]] at this
    exact this
  have hdl := h.row.lt
  have HW : Hid (∀ W p, w.grownBy W none → W.cell? ⟨p, 0, none⟩ = some (.pointer (some ⟨b, 0, none⟩)) → p ≠ d → Calls Tryz.prog 136 #[.pointer (some ⟨d, 0, none⟩), .bool false, .func (.func 137) #[] #[.pointer (some ⟨p, 0, none⟩)]] W fun e w' => ∃ c, e = .returned (.int .i64 c) ∧ R c w') := hw
  clear h hs hw
  go_enter Tryz.func104, Tryz.ntmps104
  go_wp2_with fail
  refine HF.out.mono ?_
  rintro e w1 ⟨rfl, hg1⟩
  have HG1 : Hid (w.grownBy w1 none) := hg1
  have hsz := hg1.size
  clear hg1
  go_wp2_with fail
  have hga := World.grownBy_alloc w1 (.cells #[.pointer (some ⟨b, 0, none⟩)] 114) none
  have hrow := World.rowIs_alloc w1 #[.pointer (some ⟨b, 0, none⟩)] 114 (fun _ => .pointer (some ⟨b, 0, none⟩)) (one_cell _)
  refine (HW.out _ w1.heap.size (HG1.out.trans hga) (hrow.cell (i := 0) (by simp)) (by omega)).mono ?_
  rintro e w' ⟨c, rfl, hR⟩
  have HR : Hid (R c w') := hR
  clear hR hga hrow
  go_wp2
  go_ret
  exact ⟨c, rfl, HR.out⟩
theorem kept_cell {w w' : World} {X : Nat → Prop} {p : Nat} {v : Value} (hk : Kept w w' X) (hp : w.cell? ⟨p, 0, none⟩ = some v) (hx : ¬ X p) : w'.cell? ⟨p, 0, none⟩ = some v := by
  have hbl := World.block_lt_of_cell? _ _ hp
  unfold World.cell? at hp ⊢
  rw [hk.block p hbl hx]
  exact hp
theorem v_sync (base d mb n : Nat) (ah kp wn : Int) (V : Cont) (B : Nat → Prop) (s : ByteArray) (Z : List Int) (Y : Nat) (w : World) (h : DV w base d mb n false false ah kp wn V B) (hnm : nameB s = true) (hs : V s = some (Z, Y)) (hw : 0 ≤ wn ∧ wn ≤ 1000000000) :
    Calls Tryz.prog 104 #[.pointer (some ⟨d, 0, none⟩), .string s] w fun e w' => e = .returned (.int .i64 0) ∧ ∃ B', DV w' base d mb n false false ah kp (wn + 1) (setV V s (some (Z, Z.length))) B' ∧ Step w w' B B' := by
  obtain ⟨F, G, hd, hv, hB⟩ := h
  obtain ⟨b, hF, hZ, hY⟩ : ∃ b, F s = some b ∧ (G b).zs = Z ∧ (G b).syn = Y := by
    rw [hv s] at hs
    cases hF : F s with
    | none => rw [hF] at hs; cases hs
    | some b => rw [hF] at hs; simp only [Option.map_some, Option.some.injEq, Prod.mk.injEq] at hs; exact ⟨b, rfl, hs.1, hs.2⟩
  have hG : G b = ⟨(G b).a, (G b).c, Z, Y⟩ := by rw [← hZ, ← hY]
  refine (v_syncBy base d mb n b false ah kp wn F G s (fun c w' => c = 0 ∧ ∃ B', DV w' base d mb n false false ah kp (wn + 1) (setV V s (some (Z, Z.length))) B' ∧ Step w w' B B') w hd hnm hF ?_).mono ?_
  · intro W p hg hp hpd
    refine (d_writeGo48 base d mb n false false ah kp wn F G _ (fun w' => ∃ B', DV w' base d mb n false false ah kp (wn + 1) (setV V s (some (Z, Z.length))) B' ∧ Step w w' B B') W (hd.kept hg) hw ?_).mono ?_
    · intro w1 h1 hk1
      refine (d_sync1 base d mb n b p false false ah kp (wn + 1) F G (G b).a (G b).c Z Y s w1 h1 hG hF (kept_cell hk1 hp hpd)).mono ?_
      rintro e w' ⟨rfl, hd', hk'⟩
      obtain ⟨B', h5, h6⟩ := DV.of (f := ⟨(G b).a, (G b).c, Z, Z.length⟩) (s := s) (b := b) hB hv hd' hF (updG_same _ _ _) (fun t ht => rfl) (fun t k ht hk => updG_other _ _ (fun e => ht (hd.inj t s b (by rw [← e]; exact hk) hF))) hk' (fun k hk => .inr (.inr ⟨s, b, hF, .inl hk⟩)) (fun hne => absurd hF hne) (fun x hx => .inl ⟨hF, hx⟩)
      exact ⟨rfl, B', h5, ((Step.grown B hg).trans ⟨hk1.mono (fun k _ hk => hB k (.inl hk)), fun k _ hk => hk⟩).trans h6⟩
    · rintro e w' ⟨rfl, hP⟩
      exact ⟨0, rfl, rfl, hP⟩
  · rintro e w' ⟨c, rfl, rfl, hP⟩
    exact ⟨rfl, hP⟩
theorem v_syncLost (base d mb n : Nat) (kp wn : Int) (V : Cont) (B : Nat → Prop) (s : ByteArray) (Z : List Int) (Y : Nat) (w : World) (h : DV w base d mb n false true 0 kp wn V B) (hnm : nameB s = true) (hs : V s = some (Z, Y)) (hw : 0 ≤ wn ∧ wn ≤ 1000000000) (hk : -9223372036854775808 ≤ kp ∧ kp ≤ 9223372036854775807) :
    Calls Tryz.prog 104 #[.pointer (some ⟨d, 0, none⟩), .string s] w fun e w' => e = .returned (.int .i64 60) ∧ DV w' base d mb n true false 0 0 (wn + 1) (fun t => (V t).map (cutV kp)) B ∧ Step w w' B B := by
  obtain ⟨F, G, hd, hv, hB⟩ := h
  obtain ⟨b, hF⟩ : ∃ b, F s = some b := by
    rw [hv s] at hs
    cases hF : F s with
    | none => rw [hF] at hs; cases hs
    | some b => exact ⟨b, rfl⟩
  refine (v_syncBy base d mb n b true 0 kp wn F G s (fun c w' => c = 60 ∧ DV w' base d mb n true false 0 0 (wn + 1) (fun t => (V t).map (cutV kp)) B ∧ Step w w' B B) w hd hnm hF ?_).mono ?_
  · intro W p hg hp hpd
    refine (d_writeLost base d mb n false kp wn F G _ W (hd.kept hg) hw hk).mono ?_
    rintro e w' ⟨rfl, hd', hk'⟩
    obtain ⟨h1, h2⟩ := DV.cut (off := false) (set := true) (ah := 0) (kp := kp) (wn := wn) hd' hv hB hk'
    exact ⟨60, rfl, rfl, h1, (Step.grown B hg).trans h2⟩
  · rintro e w' ⟨c, rfl, rfl, hP⟩
    exact ⟨rfl, hP⟩
end Go.Proofs.YtgpgkpciajajcaaGreatDoor

/- Package disk: Read, and the small calls as a caller sees them. -/
namespace Go.Proofs.YtgpgkpciajajcaaGreatDoor
open Go.RowKit Go.Maps
set_option linter.unusedVariables false
set_option maxRecDepth 20000

theorem d_cloneNil (w : World) : Calls Tryz.prog 160 #[.slice none 0 0] w fun e w' => e = .returned (.slice none 0 0) ∧ w = w' := by
  have heq : ∀ w, (binOp .eql 37 (.slice none 0 0) (.slice none 0 0)).run Tryz.prog w = .ok (.bool true) w := fun w => Lib.run_eql_slice_nil w 37 5 none 0 0 0 0 Tryz.underlying37
  go_enter Tryz.func160, Tryz.ntmps160
  go_wp2
  go_ret
  exact ⟨rfl, rfl⟩
theorem d_clone (ad : Addr) (zs : List Int) (k c : Nat) (w : World) (hr : SRd byteE w (some ad) zs) (hk : zs.length = k) (hz : k ≤ 4194304) :
    Calls Tryz.prog 160 #[.slice (some ad) k c] w fun e w' => ∃ a' c', e = .returned (.slice a' k c') ∧ SOwn byteE 5 w' w.heap.size (.slice a' k c') k zs ∧ w.grownBy w' none := by
  have HR : Hid (SRd byteE w (some ad) zs) := hr
  have HK : Hid (zs.length = k) := hk
  have heq : ∀ w, (binOp .eql 37 (.slice (some ad) k c) (.slice none 0 0)).run Tryz.prog w = .ok (.bool false) w := fun w => Lib.run_eql_slice_nil w 37 5 (some ad) k c 0 0 Tryz.underlying37
  clear hr hk
  go_enter Tryz.func160, Tryz.ntmps160
  go_wp2_with (at_builtin; refine wpList_append_s byteET rfl (.tmp 5) (.tmp 6) rfl w.heap.size (.slice (some ⟨w.heap.size, 0, none⟩) 0 0) 0 [] rfl (SOwn.empty byteE 5 w) (some ad) zs k c rfl HK.out (HR.out.grown (World.grownBy_alloc w _ none) (by simp)) (by simp) (by omega) (by unfold maxLen; omega) (Nat.le_of_lt (by rw [show ((w.alloc (.cells #[] 5)).heap.size) = w.heap.size + 1 from Array.size_push _]; omega)) ?_; intro v1 w1 ho1 hg1 hn1)
  rw [List.nil_append, Nat.zero_add] at ho1
  have HO : Hid (SOwn byteE 5 w1 w.heap.size v1 k zs) := ho1
  have HG : Hid (w.grownBy w1 none) := gb_trans (World.grownBy_alloc w _ none) hg1 (fun i hi => .inl (by simp [Value.ownBlock] at hi; omega))
  clear ho1 hg1 hn1
  obtain ⟨a', c', rfl⟩ := sown_slice HO.out
  go_wp2
  go_ret
  exact ⟨a', c', rfl, HO.out, HG.out⟩
set_option maxHeartbeats 2000000 in
theorem v_read (base d mb n : Nat) (set : Bool) (ah kp wn : Int) (V : Cont) (B : Nat → Prop) (s : ByteArray) (Z : List Int) (Y : Nat) (w : World) (h : DV w base d mb n false set ah kp wn V B) (hnm : nameB s = true) (hs : V s = some (Z, Y)) :
    Calls Tryz.prog 133 #[.pointer (some ⟨d, 0, none⟩), .string s] w fun e w' => ∃ a' c', e = .returned (.tuple #[.slice a' Z.length c', .int .i64 0]) ∧ SOwn byteE 5 w' w.heap.size (.slice a' Z.length c') Z.length Z ∧ (∀ z ∈ Z, 0 ≤ z ∧ z ≤ 255) ∧ Z.length ≤ 4194304 ∧ w.grownBy w' none := by
  obtain ⟨F, G, hd, hv, hB⟩ := h
  obtain ⟨b, hF, hZ, hY⟩ : ∃ b, F s = some b ∧ (G b).zs = Z ∧ (G b).syn = Y := by
    rw [hv s] at hs
    cases hF : F s with
    | none => rw [hF] at hs; cases hs
    | some b => rw [hF] at hs; simp only [Option.map_some, Option.some.injEq, Prod.mk.injEq] at hs; exact ⟨b, rfl, hs.1, hs.2⟩
  have hfile : FileIs w base b (G b).a (G b).c Z Y := by have := (hd.file s b hF).1; unfold FIs at this; rw [hZ, hY] at this; exact this
  have hss := nameB_size hnm
  have HF : Hid (Calls Tryz.prog 135 #[.pointer (some ⟨d, 0, none⟩), .string s] w fun e w' => e = .returned (.tuple #[.pointer (some ⟨b, 0, none⟩), .int .i64 0]) ∧ w.grownBy w' none) := by
    have := d_find d mb n false set ah kp wn F s w hd.row hd.map (by omega)
    rw [show findP false F s = some b by simp [findP, hnm, hF], show findC false F s = 0 by simp [findC, hnm, hF]] at this
    exact this
  obtain ⟨L, eL⟩ : ∃ L, L = Z.length := ⟨_, rfl⟩
  have HB : Hid (∀ w1, w.grownBy w1 none → w1.cell? ⟨b, 0, none⟩ = some (.slice (G b).a L (G b).c) ∧ Calls Tryz.prog 160 #[.slice (G b).a L (G b).c] w1 fun e w' => ∃ a' c', e = .returned (.slice a' L c') ∧ SOwn byteE 5 w' w1.heap.size (.slice a' L c') L Z ∧ w1.grownBy w' none) := by
    intro w1 hg
    rw [eL]
    refine ⟨hg.cell (hfile.row.cell (i := 0) (by omega)) (by simp), ?_⟩
    have ho := hfile.own
    cases ha : (G b).a with
    | none =>
      rw [ha] at ho
      rcases ho.2 with ⟨h', h0⟩ | ⟨g, cap, cur', h', _⟩
      · simp only [Value.slice.injEq] at h'
        rw [h'.2.2, h'.2.1]
        refine (d_cloneNil w1).mono ?_
        rintro e w' ⟨rfl, rfl⟩
        have hZ0 : Z = [] := List.eq_nil_of_length_eq_zero h0
        subst hZ0
        exact ⟨none, 0, rfl, SOwn.nil 5 _ _, World.grownBy.refl _ _⟩
      · simp at h'
    | some ad =>
      rw [ha] at ho
      exact d_clone ad Z _ _ w1 ((SOwn.rd ho).grown hg (by simp)) rfl hfile.len
  have HBY : Hid (∀ z ∈ Z, 0 ≤ z ∧ z ≤ 255) := hfile.byte
  have HLE : Hid (L ≤ 4194304) := by show L ≤ _; rw [eL]; exact hfile.len
  rw [← eL]
  generalize (G b).a = A, (G b).c = C at HB
  clear hd hv hB hfile hF hZ hY hs eL
  go_enter Tryz.func133, Tryz.ntmps133
  go_wp2_with fail
  refine HF.out.mono ?_
  rintro e w1 ⟨rfl, hg1⟩
  have HG1 : Hid (w.grownBy w1 none) := hg1
  obtain ⟨b0, hcl⟩ := HB.out w1 hg1
  have HCL : Hid (Calls Tryz.prog 160 #[.slice A L C] w1 fun e w' => ∃ a' c', e = .returned (.slice a' L c') ∧ SOwn byteE 5 w' w1.heap.size (.slice a' L c') L Z ∧ w1.grownBy w' none) := hcl
  clear hg1 hcl
  go_wp2_with fail
  refine HCL.out.mono ?_
  rintro e w2 ⟨a', c', rfl, ho, hg2⟩
  have HO : Hid (SOwn byteE 5 w2 w.heap.size (.slice a' L c') L Z) := SOwn.base ho HG1.out.size
  have HG2 : Hid (w.grownBy w2 none) := HG1.out.trans hg2
  clear ho hg2
  go_wp2
  go_ret2
  exact ⟨a', c', rfl, HO.out, HBY.out, HLE.out, HG2.out⟩
set_option maxHeartbeats 2000000 in
theorem v_readNot (base d mb n : Nat) (off set : Bool) (ah kp wn : Int) (V : Cont) (B : Nat → Prop) (s : ByteArray) (c : Int) (w : World) (h : DV w base d mb n off set ah kp wn V B) (hnm : nameB s = true) (hc : (off = true ∧ c = 60) ∨ (off = false ∧ V s = none ∧ c = 62)) :
    Calls Tryz.prog 133 #[.pointer (some ⟨d, 0, none⟩), .string s] w fun e w' => e = .returned (.tuple #[.slice none 0 0, .int .i64 c]) ∧ w.grownBy w' none := by
  obtain ⟨F, G, hd, hv, hB⟩ := h
  have hss := nameB_size hnm
  have HF : Hid (Calls Tryz.prog 135 #[.pointer (some ⟨d, 0, none⟩), .string s] w fun e w' => e = .returned (.tuple #[.pointer none, .int .i64 c]) ∧ w.grownBy w' none) := by
    have := d_find d mb n off set ah kp wn F s w hd.row hd.map (by omega)
    rcases hc with ⟨rfl, rfl⟩ | ⟨rfl, hV, rfl⟩
    · exact this
    · have hF : F s = none := by
        rw [hv s] at hV
        cases hF : F s with
        | none => rfl
        | some b => rw [hF] at hV; cases hV
      rw [show findP false F s = none by simp [findP, hF], show findC false F s = 62 by simp [findC, hnm, hF]] at this
      exact this
  have q0 : (c != 0) = true := by rcases hc with ⟨_, rfl⟩ | ⟨_, _, rfl⟩ <;> rfl
  clear hd hv hB hc
  go_enter Tryz.func133, Tryz.ntmps133
  go_wp2_with fail
  refine HF.out.mono ?_
  rintro e w1 ⟨rfl, hg1⟩
  have HG1 : Hid (w.grownBy w1 none) := hg1
  clear hg1
  go_wp2
  go_ret2
  exact ⟨rfl, HG1.out⟩
/-- The small calls. -/
theorem v_new (w : World) : Calls Tryz.prog 7 #[] w fun e w' => ∃ d mb B, e = .returned (.pointer (some ⟨d, 0, none⟩)) ∧ DV w' w.heap.size d mb 0 false false 0 0 0 (fun _ => none) B ∧ w.grownBy w' none ∧ ∀ k, B k → w.heap.size ≤ k := by
  refine (d_new w).mono ?_
  rintro e w' ⟨d, mb, rfl, hr, hm, hd, hmb, hg⟩
  refine ⟨d, mb, fun k => k = d ∨ k = mb, rfl, ⟨fun _ => none, fun _ => ⟨none, 0, [], 0⟩, ⟨hr, hm, (by intro s b h; cases h), (by intro s t b h; cases h), (by intro s t b b' h; cases h), hd, hmb⟩, fun s => rfl, fun k hk => ?_⟩, hg, fun k hk => ?_⟩
  · rcases hk with e | e | ⟨s, b, hs, _⟩
    · exact .inl e
    · exact .inr e
    · cases hs
  · rcases hk with e | e <;> omega
theorem v_on (base d mb n : Nat) (off set : Bool) (ah kp wn : Int) (V : Cont) (B : Nat → Prop) (w : World) (h : DV w base d mb n off set ah kp wn V B) :
    Calls Tryz.prog 13 #[.pointer (some ⟨d, 0, none⟩)] w fun e w' => e = .returned (.tuple #[]) ∧ DV w' base d mb n false set ah kp wn V B ∧ Step w w' B B := by
  refine (d_on d mb off set ah kp wn w h.row).mono ?_
  rintro e w' ⟨rfl, hr, hg⟩
  exact ⟨rfl, h.rowed hr (Kept.of hg (fun k hk => by cases hk; rfl))⟩
theorem v_arm (base d mb n : Nat) (off set : Bool) (ah kp wn ah' kp' : Int) (V : Cont) (B : Nat → Prop) (w : World) (h : DV w base d mb n off set ah kp wn V B) (h0 : 0 ≤ ah') :
    Calls Tryz.prog 17 #[.pointer (some ⟨d, 0, none⟩), .int .i64 ah', .int .i64 kp'] w fun e w' => e = .returned (.tuple #[]) ∧ DV w' base d mb n off true ah' kp' wn V B ∧ Step w w' B B := by
  refine (d_arm d mb off set ah kp wn ah' kp' w h.row h0).mono ?_
  rintro e w' ⟨rfl, hr, hg⟩
  exact ⟨rfl, h.rowed hr (Kept.of hg (fun k hk => by cases hk; rfl))⟩
theorem v_off (base d mb n : Nat) (set : Bool) (ah kp wn keep : Int) (V : Cont) (B : Nat → Prop) (w : World) (h : DV w base d mb n false set ah kp wn V B) (hk : -9223372036854775808 ≤ keep ∧ keep ≤ 9223372036854775807) :
    Calls Tryz.prog 11 #[.pointer (some ⟨d, 0, none⟩), .int .i64 keep] w fun e w' => e = .returned (.tuple #[]) ∧ DV w' base d mb n true false 0 0 wn (fun s => (V s).map (cutV keep)) B ∧ Step w w' B B := by
  obtain ⟨F, G, hd, hv, hB⟩ := h
  refine (d_off base d mb n set ah kp wn keep F G w hd hk).mono ?_
  rintro e w' ⟨rfl, hd', hk'⟩
  exact ⟨rfl, DV.cut (off := false) (set := set) (ah := ah) (kp := kp) (wn := wn) hd' hv hB hk'⟩
end Go.Proofs.YtgpgkpciajajcaaGreatDoor

/- Package disk: Rename. -/
namespace Go.Proofs.YtgpgkpciajajcaaGreatDoor
open Go.RowKit Go.Maps
set_option linter.unusedVariables false
set_option maxRecDepth 20000

def box4 (w : World) (d : Nat) (s t : ByteArray) : World := (((w.alloc (.cells #[.pointer (some ⟨d, 0, none⟩)] 23)).alloc (.cells #[.string s] 9)).alloc (.cells #[.string t] 9)).alloc (.cells #[.string s, .string t] 9)
theorem box4_facts (w : World) (d : Nat) (s t : ByteArray) : w.grownBy (box4 w d s t) none ∧ (box4 w d s t).rowIs w.heap.size 23 1 (fun _ => .pointer (some ⟨d, 0, none⟩)) ∧ (box4 w d s t).rowIs (w.heap.size + 1) 9 1 (fun _ => .string s) ∧ (box4 w d s t).rowIs (w.heap.size + 1 + 1) 9 1 (fun _ => .string t) ∧ SRd strE (box4 w d s t) (some ⟨w.heap.size + 1 + 1 + 1, 0, none⟩) [s, t] := by
  have hs1 : ∀ (w : World) o, (w.alloc o).heap.size = w.heap.size + 1 := fun w o => Array.size_push _
  have g1 := World.grownBy_alloc w (.cells #[.pointer (some ⟨d, 0, none⟩)] 23) none
  have g2 := World.grownBy_alloc (w.alloc (.cells #[.pointer (some ⟨d, 0, none⟩)] 23)) (.cells #[.string s] 9) none
  have g3 := World.grownBy_alloc ((w.alloc (.cells #[.pointer (some ⟨d, 0, none⟩)] 23)).alloc (.cells #[.string s] 9)) (.cells #[.string t] 9) none
  have g4 := World.grownBy_alloc (((w.alloc (.cells #[.pointer (some ⟨d, 0, none⟩)] 23)).alloc (.cells #[.string s] 9)).alloc (.cells #[.string t] 9)) (.cells #[.string s, .string t] 9) none
  refine ⟨g1.trans (g2.trans (g3.trans g4)), ?_, ?_, ?_, ?_⟩
  · have r := World.rowIs_alloc w #[.pointer (some ⟨d, 0, none⟩)] 23 (fun _ => .pointer (some ⟨d, 0, none⟩)) (one_cell _)
    exact r.of_block ((g2.trans (g3.trans g4)).block w.heap.size r.lt (by simp))
  · have r := World.rowIs_alloc (w.alloc (.cells #[.pointer (some ⟨d, 0, none⟩)] 23)) #[.string s] 9 (fun _ => .string s) (one_cell _)
    rw [hs1] at r
    exact r.of_block ((g3.trans g4).block _ r.lt (by simp))
  · have r := World.rowIs_alloc ((w.alloc (.cells #[.pointer (some ⟨d, 0, none⟩)] 23)).alloc (.cells #[.string s] 9)) #[.string t] 9 (fun _ => .string t) (one_cell _)
    rw [hs1, hs1] at r
    exact r.of_block (g4.block _ r.lt (by simp))
  · have r := slit (((w.alloc (.cells #[.pointer (some ⟨d, 0, none⟩)] 23)).alloc (.cells #[.string s] 9)).alloc (.cells #[.string t] 9)) [s, t]
    rw [hs1, hs1, hs1] at r
    exact r
set_option maxHeartbeats 4000000 in
theorem v_renameBy (base d mb n b : Nat) (set : Bool) (ah kp wn : Int) (F : ByteArray → Option Nat) (G : Nat → FD) (s t : ByteArray) (R : Int → World → Prop) (w : World) (h : DiskIs w base d mb n false set ah kp wn F G) (hns : nameB s = true) (hnt : nameB t = true) (hs : F s = some b)
    (hw : ∀ W p, (box4 w d s t).grownBy W none → W.rowIs p 114 1 (fun _ => .pointer (some ⟨b, 0, none⟩)) → Calls Tryz.prog 136 #[.pointer (some ⟨d, 0, none⟩), .bool false, .func (.func 185) #[] #[.pointer (some ⟨w.heap.size, 0, none⟩), .pointer (some ⟨w.heap.size + 1, 0, none⟩), .pointer (some ⟨p, 0, none⟩), .pointer (some ⟨w.heap.size + 1 + 1, 0, none⟩)]] W fun e w' => ∃ c, e = .returned (.int .i64 c) ∧ R c w') :
    Calls Tryz.prog 166 #[.pointer (some ⟨d, 0, none⟩), .string s, .string t] w fun e w' => ∃ c, e = .returned (.int .i64 c) ∧ R c w' := by
  obtain ⟨hg, r3, r4, r5, hsl⟩ := box4_facts w d s t
  have hss := nameB_size hns
  have hst := nameB_size hnt
  have hd4 := h.kept hg
  have HRC : Hid (Calls Tryz.prog 161 #[.pointer (some ⟨d, 0, none⟩), .slice (some ⟨w.heap.size + 1 + 1 + 1, 0, none⟩) 2 2] (box4 w d s t) fun e w' => e = .returned (.int .i64 0) ∧ (box4 w d s t) = w') := by
    have := d_reach d mb false set ah kp wn _ [s, t] 2 2 _ hd4.row hsl rfl (by omega) (by intro x hx; simp only [List.mem_cons, List.mem_nil_iff, or_false] at hx; rcases hx with rfl | rfl <;> omega)
    rw [show reachC false [s, t] = 0 by simp [reachC, hns, hnt]] at this
    exact this
  have HF : Hid (Calls Tryz.prog 135 #[.pointer (some ⟨d, 0, none⟩), .string s] (box4 w d s t) fun e w' => e = .returned (.tuple #[.pointer (some ⟨b, 0, none⟩), .int .i64 0]) ∧ (box4 w d s t).grownBy w' none ∧ w'.cell? ⟨w.heap.size, 0, none⟩ = some (.pointer (some ⟨d, 0, none⟩)) ∧ w.heap.size < w'.heap.size) := by
    have := d_find d mb n false set ah kp wn F s (box4 w d s t) hd4.row hd4.map (by omega)
    rw [show findP false F s = some b by simp [findP, hns, hs], show findC false F s = 0 by simp [findC, hns, hs]] at this
    refine this.mono ?_
    rintro e w' ⟨rfl, hg'⟩
    exact ⟨rfl, hg', hg'.cell (r3.cell (i := 0) (by omega)) (by simp), Nat.lt_of_lt_of_le r3.lt hg'.size⟩
  have HW : Hid (∀ W p, (box4 w d s t).grownBy W none → W.rowIs p 114 1 (fun _ => .pointer (some ⟨b, 0, none⟩)) → Calls Tryz.prog 136 #[.pointer (some ⟨d, 0, none⟩), .bool false, .func (.func 185) #[] #[.pointer (some ⟨w.heap.size, 0, none⟩), .pointer (some ⟨w.heap.size + 1, 0, none⟩), .pointer (some ⟨p, 0, none⟩), .pointer (some ⟨w.heap.size + 1 + 1, 0, none⟩)]] W fun e w' => ∃ c, e = .returned (.int .i64 c) ∧ R c w') := hw
  unfold box4 at HRC HF HW
  clear h hg r3 r4 r5 hsl hw hd4 hs
  go_enter Tryz.func166, Tryz.ntmps166
  go_wp2_with fail
  refine HRC.out.mono ?_
  rintro e w' ⟨rfl, rfl⟩
  go_wp2_with fail
  refine HF.out.mono ?_
  rintro e w5 ⟨rfl, hg5, c5, hl5⟩
  have HG5 : Hid (((((w.alloc (.cells #[.pointer (some ⟨d, 0, none⟩)] 23)).alloc (.cells #[.string s] 9)).alloc (.cells #[.string t] 9)).alloc (.cells #[.string s, .string t] 9)).grownBy w5 none) := hg5
  have hne : w.heap.size ≠ w5.heap.size := by omega
  clear hg5
  go_wp2_with fail
  have hga := World.grownBy_alloc w5 (.cells #[.pointer (some ⟨b, 0, none⟩)] 114) none
  have hrow := World.rowIs_alloc w5 #[.pointer (some ⟨b, 0, none⟩)] 114 (fun _ => .pointer (some ⟨b, 0, none⟩)) (one_cell _)
  refine (HW.out _ w5.heap.size (HG5.out.trans hga) hrow).mono ?_
  rintro e w' ⟨c, rfl, hR⟩
  have HR : Hid (R c w') := hR
  clear hR hga hrow
  go_wp2
  go_ret
  exact ⟨c, rfl, HR.out⟩
theorem v_renameLost (base d mb n : Nat) (kp wn : Int) (V : Cont) (B : Nat → Prop) (s t : ByteArray) (Z : List Int) (Y : Nat) (w : World) (h : DV w base d mb n false true 0 kp wn V B) (hns : nameB s = true) (hnt : nameB t = true) (hs : V s = some (Z, Y)) (hw : 0 ≤ wn ∧ wn ≤ 1000000000) (hk : -9223372036854775808 ≤ kp ∧ kp ≤ 9223372036854775807) :
    Calls Tryz.prog 166 #[.pointer (some ⟨d, 0, none⟩), .string s, .string t] w fun e w' => e = .returned (.int .i64 60) ∧ DV w' base d mb n true false 0 0 (wn + 1) (fun t => (V t).map (cutV kp)) B ∧ Step w w' B B := by
  obtain ⟨F, G, hd, hv, hB⟩ := h
  obtain ⟨b, hF⟩ : ∃ b, F s = some b := by
    rw [hv s] at hs
    cases hF : F s with
    | none => rw [hF] at hs; cases hs
    | some b => exact ⟨b, rfl⟩
  obtain ⟨hg, _⟩ := box4_facts w d s t
  refine (v_renameBy base d mb n b true 0 kp wn F G s t (fun c w' => c = 60 ∧ DV w' base d mb n true false 0 0 (wn + 1) (fun t => (V t).map (cutV kp)) B ∧ Step w w' B B) w hd hns hnt hF ?_).mono ?_
  · intro W p hgW hp
    refine (d_writeLost base d mb n false kp wn F G _ W (hd.kept (hg.trans hgW)) hw hk).mono ?_
    rintro e w' ⟨rfl, hd', hk'⟩
    obtain ⟨h1, h2⟩ := DV.cut (off := false) (set := true) (ah := 0) (kp := kp) (wn := wn) hd' hv hB hk'
    exact ⟨60, rfl, rfl, h1, (Step.grown B (hg.trans hgW)).trans h2⟩
  · rintro e w' ⟨c, rfl, rfl, hP⟩
    exact ⟨rfl, hP⟩
end Go.Proofs.YtgpgkpciajajcaaGreatDoor

