/- Package disk: Append, done or cut. -/
import Derived.Test.YtdnkdopjlobklaaDk9
namespace Go.Proofs.Ytdnkdopjlobklaa
open Go.RowKit Go.Maps
set_option linter.unusedVariables false
set_option maxRecDepth 20000

set_option maxHeartbeats 4000000 in
theorem v_appendBy (base d mb n : Nat) (set : Bool) (ah kp wn : Int) (V : Cont) (B : Nat → Prop) (s : ByteArray) (ad : Addr) (M cd : Nat) (R : Int → World → Prop) (w : World) (h : DV w base d mb n false set ah kp wn V B) (hnm : nameB s = true) (hn : n < 1048576) (hlen : (oldV V s).1.length + M ≤ 4194304)
    (hw : Calls Try.prog 45 #[.pointer (some ⟨d, 0, none⟩), .bool true, .func (.func 46) #[] #[.pointer (some ⟨w.heap.size, 0, none⟩), .pointer (some ⟨w.heap.size + 1, 0, none⟩), .pointer (some ⟨w.heap.size + 1 + 1, 0, none⟩)]] (box3 w d s (.slice (some ad) M cd)) fun e w' => ∃ c, e = .returned (.int .i64 c) ∧ R c w') :
    Calls Try.prog 15 #[.pointer (some ⟨d, 0, none⟩), .string s, .slice (some ad) M cd] w fun e w' => ∃ c, e = .returned (.int .i64 c) ∧ R c w' := by
  obtain ⟨hg, r3, r4, r5, hsl⟩ := box3_facts w d s (.slice (some ad) M cd)
  have hss := nameB_size hnm
  have HRC : Hid (Calls Try.prog 43 #[.pointer (some ⟨d, 0, none⟩), .slice (some ⟨w.heap.size + 1 + 1 + 1, 0, none⟩) 1 1] (box3 w d s (.slice (some ad) M cd)) fun e w' => e = .returned (.int .i64 0) ∧ (box3 w d s (.slice (some ad) M cd)) = w') := by
    have := d_reach d mb false set ah kp wn _ [s] 1 1 _ (h.row.of_block (hg.block d h.row.lt (by simp))) hsl rfl (by omega) (by intro x hx; simp only [List.mem_singleton] at hx; subst hx; omega)
    rw [show reachC false [s] = 0 by simp [reachC, hnm]] at this
    exact this
  have HRM : Hid (Calls Try.prog 44 #[.pointer (some ⟨d, 0, none⟩), .string s, .int .i64 M] (box3 w d s (.slice (some ad) M cd)) fun e w' => e = .returned (.bool true) ∧ (box3 w d s (.slice (some ad) M cd)) = w') := by
    obtain ⟨F, G, hd, hv, _⟩ := h
    have hd4 := hd.kept hg
    have hvs := hv s
    unfold oldV at hlen
    cases hF : F s with
    | none =>
      rw [hvs, hF] at hlen
      have := d_roomNew d mb n false set ah kp wn M F s _ hd4.row hd4.map hss hF hn
      rw [decide_eq_true (show ((M : Nat) : Int) ≤ 4194304 by simp at hlen; omega)] at this
      exact this
    | some b =>
      rw [hvs, hF] at hlen
      have hf := (hd4.file s b hF).1
      have := d_roomOld d mb n b _ _ _ false set ah kp wn M _ F s _ hd4.row hd4.map hss hF (FileIs.row hf) (FileIs.len hf)
      rw [decide_eq_true (show ((M : Nat) : Int) ≤ 4194304 - ((G b).zs.length : Int) by simp at hlen; omega)] at this
      exact this
  have HW : Hid (Calls Try.prog 45 #[.pointer (some ⟨d, 0, none⟩), .bool true, .func (.func 46) #[] #[.pointer (some ⟨w.heap.size, 0, none⟩), .pointer (some ⟨w.heap.size + 1, 0, none⟩), .pointer (some ⟨w.heap.size + 1 + 1, 0, none⟩)]] (box3 w d s (.slice (some ad) M cd)) fun e w' => ∃ c, e = .returned (.int .i64 c) ∧ R c w') := hw
  unfold box3 at HRC HRM HW
  clear h hg r3 r4 r5 hsl hw hlen hn
  go_enter Try.func15, Try.ntmps15
  go_wp2_with fail
  refine HRC.out.mono ?_
  rintro e w' ⟨rfl, rfl⟩
  go_wp2_with fail
  refine HRM.out.mono ?_
  rintro e w' ⟨rfl, rfl⟩
  go_wp2_with fail
  refine HW.out.mono ?_
  rintro e w' ⟨c, rfl, hR⟩
  have HR : Hid (R c w') := hR
  clear hR
  go_wp2
  go_ret
  exact ⟨c, rfl, HR.out⟩
/-- What stands behind an Append that is done. -/
theorem boxes_stay {w w1 : World} {d : Nat} {s : ByteArray} {v : Value} {mb : Nat} {off set : Bool} {ah kp wn : Int} (hrow : DRow (box3 w d s v) d mb off set ah kp wn) (hk : Kept (box3 w d s v) w1 (fun k => k = d)) :
    w1.rowIs w.heap.size 23 1 (fun _ => .pointer (some ⟨d, 0, none⟩)) ∧ w1.rowIs (w.heap.size + 1) 9 1 (fun _ => .string s) ∧ w1.rowIs (w.heap.size + 1 + 1) 31 1 (fun _ => v) := by
  obtain ⟨hg, r3, r4, r5, _⟩ := box3_facts w d s v
  exact ⟨r3.of_block (hk.block _ r3.lt (row_ne r3 hrow (by decide))), r4.of_block (hk.block _ r4.lt (row_ne r4 hrow (by decide))), r5.of_block (hk.block _ r5.lt (row_ne r5 hrow (by decide)))⟩
/-- Append's closure, called in the midst of a write. -/
theorem app_clos (base d mb n : Nat) (off set set' : Bool) (ah ah' kp wn wn' : Int) (V : Cont) (B : Nat → Prop) (s : ByteArray) (ad : Addr) (zs : List Int) (M cd : Nat) (F : ByteArray → Option Nat) (G : Nat → FD) (w w1 : World) (hd4 : DiskIs (box3 w d s (.slice (some ad) M cd)) base d mb n off set ah kp wn F G) (h1 : DiskIs w1 base d mb n off set' ah' kp wn' F G) (hk1 : Kept (box3 w d s (.slice (some ad) M cd)) w1 (fun k => k = d)) (hv : ∀ s, V s = (F s).map fun b => ((G b).zs, (G b).syn)) (hB : ∀ k, OwnAll d mb F G k → B k)
    (hnm : nameB s = true) (hn : n < 1048576) (hr : SRd byteE w (some ad) zs) (hM : zs.length = M) (hby : ∀ z ∈ zs, 0 ≤ z ∧ z ≤ 255) (hlen : (oldV V s).1.length + M ≤ 4194304) (hb : base ≤ w.heap.size) (had : ad.block ≠ mb) (hadd : ad.block ≠ d) :
    Calls Try.prog 46 #[.pointer (some ⟨w.heap.size, 0, none⟩), .pointer (some ⟨w.heap.size + 1, 0, none⟩), .pointer (some ⟨w.heap.size + 1 + 1, 0, none⟩)] w1 fun e w' => e = .returned (.tuple #[]) ∧ ∃ n' F' G', DiskIs w' base d mb n' off set' ah' kp wn' F' G' ∧ n' ≤ n + 1 ∧ (∀ t, setV V s (some ((oldV V s).1 ++ zs, (oldV V s).2)) t = (F' t).map fun b => ((G' b).zs, (G' b).syn)) ∧ ∃ B', (∀ k, OwnAll d mb F' G' k → B' k) ∧ Step w w' B B' := by
  obtain ⟨hg, r3, r4, r5, hsl⟩ := box3_facts w d s (.slice (some ad) M cd)
  obtain ⟨q3, q4, q5⟩ := boxes_stay hd4.row hk1
  have hr1 : SRd byteE w1 (some ad) zs := by
    have h0 := hr.grown hg (by simp)
    rcases h0 with e | ⟨b, off, e, hc⟩
    · exact .inl e
    · refine .inr ⟨b, off, e, fun j v hj => ?_⟩
      have hcj := hc j v hj
      have hbl := World.block_lt_of_cell? _ _ hcj
      have hbd : b ≠ d := by
        have : ad.block = b := by cases e; rfl
        rw [← this]; exact hadd
      unfold World.cell? at hcj ⊢
      rw [hk1.block b hbl hbd]
      exact hcj
  refine (v_app1 base d mb n _ _ _ M cd off set' ah' kp wn' V B s ad zs w1 F G h1 hv hB (nameB_size hnm) (by omega) q3 q4 q5 hr1 hM hby hlen (Nat.le_trans hb (Nat.le_trans hg.size hk1.size)) had).mono ?_
  rintro e w' ⟨rfl, n', F', G', B', hn', hd', hv', hB', hst⟩
  exact ⟨rfl, n', F', G', hd', hn', hv', B', hB', ((Step.grown B hg).trans ⟨hk1.mono (fun k _ hk => hB k (.inl hk)), fun k _ hk => hk⟩).trans hst⟩
theorem v_append (base d mb n : Nat) (ah kp wn : Int) (V : Cont) (B : Nat → Prop) (s : ByteArray) (ad : Addr) (zs : List Int) (M cd : Nat) (w : World) (h : DV w base d mb n false false ah kp wn V B) (hnm : nameB s = true) (hn : n < 1048576) (hw : 0 ≤ wn ∧ wn ≤ 1000000000) (hr : SRd byteE w (some ad) zs) (hM : zs.length = M) (hby : ∀ z ∈ zs, 0 ≤ z ∧ z ≤ 255) (hlen : (oldV V s).1.length + M ≤ 4194304) (hb : base ≤ w.heap.size) (had : ad.block ≠ mb) (hadd : ad.block ≠ d) :
    Calls Try.prog 15 #[.pointer (some ⟨d, 0, none⟩), .string s, .slice (some ad) M cd] w fun e w' => e = .returned (.int .i64 0) ∧ ∃ n' B', n' ≤ n + 1 ∧ DV w' base d mb n' false false ah kp (wn + 1) (setV V s (some ((oldV V s).1 ++ zs, (oldV V s).2))) B' ∧ Step w w' B B' := by
  obtain ⟨hg, _⟩ := box3_facts w d s (.slice (some ad) M cd)
  obtain ⟨F, G, hd, hv, hB⟩ := id h
  have hd4 := hd.kept hg
  refine (v_appendBy base d mb n false ah kp wn V B s ad M cd (fun c w' => c = 0 ∧ ∃ n' B', n' ≤ n + 1 ∧ DV w' base d mb n' false false ah kp (wn + 1) (setV V s (some ((oldV V s).1 ++ zs, (oldV V s).2))) B' ∧ Step w w' B B') w h hnm hn hlen ?_).mono ?_
  · refine (d_writeGo46 base d mb n true false ah kp wn F G _ (fun w' => ∃ n' B', n' ≤ n + 1 ∧ DV w' base d mb n' false false ah kp (wn + 1) (setV V s (some ((oldV V s).1 ++ zs, (oldV V s).2))) B' ∧ Step w w' B B') _ hd4 hw ?_).mono ?_
    · intro w1 h1 hk1
      refine (app_clos base d mb n false false false ah ah kp wn (wn + 1) V B s ad zs M cd F G w w1 hd4 h1 hk1 hv hB hnm hn hr hM hby hlen hb had hadd).mono ?_
      rintro e w' ⟨rfl, n', F', G', hd', hn', hv', B', hB', hst⟩
      exact ⟨rfl, n', B', hn', ⟨F', G', hd', hv', hB'⟩, hst⟩
    · rintro e w' ⟨rfl, hP⟩
      exact ⟨0, rfl, rfl, hP⟩
  · rintro e w' ⟨c, rfl, rfl, hP⟩
    exact ⟨rfl, hP⟩
theorem v_appendArmed (base d mb n : Nat) (ah kp wn : Int) (V : Cont) (B : Nat → Prop) (s : ByteArray) (ad : Addr) (zs : List Int) (M cd : Nat) (w : World) (h : DV w base d mb n false true ah kp wn V B) (ha : 0 < ah ∧ ah ≤ 9223372036854775807) (hnm : nameB s = true) (hn : n < 1048576) (hw : 0 ≤ wn ∧ wn ≤ 1000000000) (hr : SRd byteE w (some ad) zs) (hM : zs.length = M) (hby : ∀ z ∈ zs, 0 ≤ z ∧ z ≤ 255) (hlen : (oldV V s).1.length + M ≤ 4194304) (hb : base ≤ w.heap.size) (had : ad.block ≠ mb) (hadd : ad.block ≠ d) :
    Calls Try.prog 15 #[.pointer (some ⟨d, 0, none⟩), .string s, .slice (some ad) M cd] w fun e w' => e = .returned (.int .i64 0) ∧ ∃ n' B', n' ≤ n + 1 ∧ DV w' base d mb n' false true (ah - 1) kp (wn + 1) (setV V s (some ((oldV V s).1 ++ zs, (oldV V s).2))) B' ∧ Step w w' B B' := by
  obtain ⟨hg, _⟩ := box3_facts w d s (.slice (some ad) M cd)
  obtain ⟨F, G, hd, hv, hB⟩ := id h
  have hd4 := hd.kept hg
  refine (v_appendBy base d mb n true ah kp wn V B s ad M cd (fun c w' => c = 0 ∧ ∃ n' B', n' ≤ n + 1 ∧ DV w' base d mb n' false true (ah - 1) kp (wn + 1) (setV V s (some ((oldV V s).1 ++ zs, (oldV V s).2))) B' ∧ Step w w' B B') w h hnm hn hlen ?_).mono ?_
  · refine (d_writeArmed46 base d mb n true false ah kp wn F G _ (fun w' => ∃ n' B', n' ≤ n + 1 ∧ DV w' base d mb n' false true (ah - 1) kp (wn + 1) (setV V s (some ((oldV V s).1 ++ zs, (oldV V s).2))) B' ∧ Step w w' B B') _ hd4 hw ha ?_).mono ?_
    · intro w1 h1 hk1
      refine (app_clos base d mb n false true true ah (ah - 1) kp wn (wn + 1) V B s ad zs M cd F G w w1 hd4 h1 hk1 hv hB hnm hn hr hM hby hlen hb had hadd).mono ?_
      rintro e w' ⟨rfl, n', F', G', hd', hn', hv', B', hB', hst⟩
      exact ⟨rfl, n', B', hn', ⟨F', G', hd', hv', hB'⟩, hst⟩
    · rintro e w' ⟨rfl, hP⟩
      exact ⟨0, rfl, rfl, hP⟩
  · rintro e w' ⟨c, rfl, rfl, hP⟩
    exact ⟨rfl, hP⟩
theorem v_appendCut (base d mb n : Nat) (kp wn : Int) (V : Cont) (B : Nat → Prop) (s : ByteArray) (ad : Addr) (zs : List Int) (M cd : Nat) (w : World) (h : DV w base d mb n false true 0 kp wn V B) (hk : -9223372036854775808 ≤ kp ∧ kp ≤ 9223372036854775807) (hnm : nameB s = true) (hn : n < 1048576) (hw : 0 ≤ wn ∧ wn ≤ 1000000000) (hr : SRd byteE w (some ad) zs) (hM : zs.length = M) (hby : ∀ z ∈ zs, 0 ≤ z ∧ z ≤ 255) (hlen : (oldV V s).1.length + M ≤ 4194304) (hb : base ≤ w.heap.size) (had : ad.block ≠ mb) (hadd : ad.block ≠ d) :
    Calls Try.prog 15 #[.pointer (some ⟨d, 0, none⟩), .string s, .slice (some ad) M cd] w fun e w' => e = .returned (.int .i64 60) ∧ ∃ n' B', n' ≤ n + 1 ∧ DV w' base d mb n' true false 0 0 (wn + 1) (fun t => (setV V s (some ((oldV V s).1 ++ zs, (oldV V s).2)) t).map (cutV kp)) B' ∧ Step w w' B B' := by
  obtain ⟨hg, _⟩ := box3_facts w d s (.slice (some ad) M cd)
  obtain ⟨F, G, hd, hv, hB⟩ := id h
  have hd4 := hd.kept hg
  refine (v_appendBy base d mb n true 0 kp wn V B s ad M cd (fun c w' => c = 60 ∧ ∃ n' B', n' ≤ n + 1 ∧ DV w' base d mb n' true false 0 0 (wn + 1) (fun t => (setV V s (some ((oldV V s).1 ++ zs, (oldV V s).2)) t).map (cutV kp)) B' ∧ Step w w' B B') w h hnm hn hlen ?_).mono ?_
  · refine (d_writeCut46 base d mb n false kp wn F G _ (fun w1 n' F' G' => n' ≤ n + 1 ∧ (∀ t, setV V s (some ((oldV V s).1 ++ zs, (oldV V s).2)) t = (F' t).map fun b => ((G' b).zs, (G' b).syn)) ∧ ∃ B', (∀ k, OwnAll d mb F' G' k → B' k) ∧ Step w w1 B B') _ hd4 hw hk ?_).mono ?_
    · intro w1 h1 hk1
      exact app_clos base d mb n false true true 0 0 kp wn (wn + 1) V B s ad zs M cd F G w w1 hd4 h1 hk1 hv hB hnm hn hr hM hby hlen hb had hadd
    · rintro e w' ⟨rfl, w1, n', F', G', ⟨hn', hv', B', hB', hst⟩, hd', hk'⟩
      obtain ⟨h1, h2⟩ := DV.cut (off := false) (set := true) (ah := 0) (kp := kp) (wn := wn) hd' hv' hB' hk'
      exact ⟨60, rfl, rfl, n', B', hn', h1, hst.trans h2⟩
  · rintro e w' ⟨c, rfl, rfl, hP⟩
    exact ⟨rfl, hP⟩
end Go.Proofs.Ytdnkdopjlobklaa
