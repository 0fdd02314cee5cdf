/- Package disk: Append. -/
import Derived.Test.YtdnkdopjlobklaaDk8
namespace Go.Proofs.Ytdnkdopjlobklaa
open Go.RowKit Go.Maps
set_option linter.unusedVariables false
set_option maxRecDepth 20000

def oldV (V : Cont) (s : ByteArray) : List Int × Nat := (V s).getD ([], 0)
theorem v_app1 (base d mb n B3 B4 B5 M cd : Nat) (off set : Bool) (ah kp wn : Int) (V : Cont) (B : Nat → Prop) (s : ByteArray) (ad : Addr) (zs : List Int) (w : World) (F : ByteArray → Option Nat) (G : Nat → FD) (h : DiskIs w base d mb n off set ah kp wn F G) (hv : ∀ s, V s = (F s).map fun b => ((G b).zs, (G b).syn)) (hB : ∀ k, OwnAll d mb F G k → B k) (hss : s.size ≤ 64) (hn : n ≤ 1048576)
    (hB3 : w.rowIs B3 23 1 (fun _ => .pointer (some ⟨d, 0, none⟩))) (hB4 : w.rowIs B4 9 1 (fun _ => .string s)) (hB5 : w.rowIs B5 31 1 (fun _ => .slice (some ad) M cd)) (hr : SRd byteE w (some ad) zs) (hM : zs.length = M) (hby : ∀ z ∈ zs, 0 ≤ z ∧ z ≤ 255) (hlen : (oldV V s).1.length + M ≤ 4194304) (hb : base ≤ w.heap.size) (had : ad.block ≠ mb) :
    Calls Try.prog 46 #[.pointer (some ⟨B3, 0, none⟩), .pointer (some ⟨B4, 0, none⟩), .pointer (some ⟨B5, 0, none⟩)] w fun e w' => e = .returned (.tuple #[]) ∧ ∃ n' F' G' B', n' ≤ n + 1 ∧ DiskIs w' base d mb n' off set ah kp wn F' G' ∧ (∀ t, setV V s (some ((oldV V s).1 ++ zs, (oldV V s).2)) t = (F' t).map fun b => ((G' b).zs, (G' b).syn)) ∧ (∀ k, OwnAll d mb F' G' k → B' k) ∧ Step w w' B B' := by
  have hvs := hv s
  cases hF : F s with
  | none =>
    have e0 : oldV V s = ([], 0) := by unfold oldV; rw [hvs, hF]; rfl
    rw [e0] at hlen ⊢
    refine (d_appNew base d mb n B3 B4 B5 M cd off set ah kp wn F G s ad zs w h hF hss hn hB3 hB4 hB5 hr hM hby (by simpa using hlen) hb had).mono ?_
    rintro e w' ⟨rfl, a', c', hd, hk, hx⟩
    obtain ⟨B', ⟨F2, G2, h1, h2, h3⟩, h4⟩ := DV.of (f := ⟨a', c', zs, 0⟩) (s := s) (b := w.heap.size) hB hv hd (setF_same F s _) (updG_same _ _ _) (fun t ht => setF_other F _ ht) (fun t k ht hk => by
      have := (h.lt t k hk).1
      rw [updG_other _ _ (by omega), updG_other _ _ (by omega)]) hk (fun k hk => .inr (.inl hk)) (fun _ => Nat.le_refl _) (fun x hx' => .inr (.inl (hx x hx')))
    exact ⟨rfl, n + 1, F2, G2, B', Nat.le_refl _, h1, by simpa using h2, h3, h4⟩
  | some b =>
    obtain ⟨f, hf⟩ : ∃ f, G b = f := ⟨_, rfl⟩
    obtain ⟨A, C, Z, Y⟩ := f
    have e0 : oldV V s = (Z, Y) := by unfold oldV; rw [hvs, hF, Option.map_some, hf]; rfl
    rw [e0] at hlen ⊢
    refine (d_appOld base d mb n b B3 B4 B5 M cd off set ah kp wn F G A C Z Y s ad zs w h hf hF hss hB3 hB4 hB5 hr hM hby hlen hb).mono ?_
    rintro e w' ⟨rfl, a', c', hd, hk, hx⟩
    obtain ⟨B', ⟨F2, G2, h1, h2, h3⟩, h4⟩ := DV.of (f := ⟨a', c', Z ++ zs, Y⟩) (s := s) (b := b) hB hv hd hF (updG_same _ _ _) (fun t ht => rfl) (fun t k ht hk => by
      rw [updG_other _ _ (fun e => ht (h.inj t s b (by rw [← e]; exact hk) hF))]) hk (fun k hk => by
        rcases hk with e | ⟨x, hx, e⟩
        · exact .inr (.inr ⟨s, b, hF, .inl e⟩)
        · exact .inr (.inr ⟨s, b, hF, .inr ⟨x, by rw [hf]; exact hx, e⟩⟩)) (fun hne => absurd hF hne) (fun x hx' => by
        rcases hx x hx' with h5 | ⟨y, hy, h5⟩
        · exact .inr (.inl h5)
        · exact .inr (.inr ⟨y, hF, by rw [hf]; exact hy, h5⟩))
    exact ⟨rfl, n, F2, G2, B', Nat.le_succ _, h1, h2, h3, h4⟩
/-- The three boxes and the names that Append lays first. -/
def box3 (w : World) (d : Nat) (s : ByteArray) (v : Value) : World := (((w.alloc (.cells #[.pointer (some ⟨d, 0, none⟩)] 23)).alloc (.cells #[.string s] 9)).alloc (.cells #[v] 31)).alloc (.cells #[.string s] 9)
theorem box3_facts (w : World) (d : Nat) (s : ByteArray) (v : Value) : w.grownBy (box3 w d s v) none ∧ (box3 w d s v).rowIs w.heap.size 23 1 (fun _ => .pointer (some ⟨d, 0, none⟩)) ∧ (box3 w d s v).rowIs (w.heap.size + 1) 9 1 (fun _ => .string s) ∧ (box3 w d s v).rowIs (w.heap.size + 1 + 1) 31 1 (fun _ => v) ∧ SRd strE (box3 w d s v) (some ⟨w.heap.size + 1 + 1 + 1, 0, none⟩) [s] := by
  have hs1 : ∀ (w : World) o, (w.alloc o).heap.size = w.heap.size + 1 := fun w o => Array.size_push _
  have g1 := World.grownBy_alloc w (.cells #[.pointer (some ⟨d, 0, none⟩)] 23) none
  have g2 := World.grownBy_alloc (w.alloc (.cells #[.pointer (some ⟨d, 0, none⟩)] 23)) (.cells #[.string s] 9) none
  have g3 := World.grownBy_alloc ((w.alloc (.cells #[.pointer (some ⟨d, 0, none⟩)] 23)).alloc (.cells #[.string s] 9)) (.cells #[v] 31) none
  have g4 := World.grownBy_alloc (((w.alloc (.cells #[.pointer (some ⟨d, 0, none⟩)] 23)).alloc (.cells #[.string s] 9)).alloc (.cells #[v] 31)) (.cells #[.string s] 9) none
  have one : ∀ (u : Value) (i : Nat), i < 1 → (#[u] : Array Value)[i]? = some u := by
    intro u i hi
    obtain rfl : i = 0 := by omega
    rfl
  refine ⟨g1.trans (g2.trans (g3.trans g4)), ?_, ?_, ?_, ?_⟩
  · have r := World.rowIs_alloc w #[.pointer (some ⟨d, 0, none⟩)] 23 (fun _ => .pointer (some ⟨d, 0, none⟩)) (one _)
    exact r.of_block ((g2.trans (g3.trans g4)).block w.heap.size r.lt (by simp))
  · have r := World.rowIs_alloc (w.alloc (.cells #[.pointer (some ⟨d, 0, none⟩)] 23)) #[.string s] 9 (fun _ => .string s) (one _)
    rw [hs1] at r
    exact r.of_block ((g3.trans g4).block _ r.lt (by simp))
  · have r := World.rowIs_alloc ((w.alloc (.cells #[.pointer (some ⟨d, 0, none⟩)] 23)).alloc (.cells #[.string s] 9)) #[v] 31 (fun _ => v) (one _)
    rw [hs1, hs1] at r
    exact r.of_block (g4.block _ r.lt (by simp))
  · have r := slit (((w.alloc (.cells #[.pointer (some ⟨d, 0, none⟩)] 23)).alloc (.cells #[.string s] 9)).alloc (.cells #[v] 31)) [s]
    rw [hs1, hs1, hs1] at r
    exact r
set_option maxHeartbeats 2000000 in
theorem v_appendOff (base d mb n : Nat) (set : Bool) (ah kp wn : Int) (V : Cont) (B : Nat → Prop) (s : ByteArray) (a : Option Addr) (M cd : Nat) (w : World) (h : DV w base d mb n true set ah kp wn V B) (hs : (s.size : Int) ≤ 9223372036854775807) :
    Calls Try.prog 15 #[.pointer (some ⟨d, 0, none⟩), .string s, .slice a M cd] w fun e w' => e = .returned (.int .i64 60) ∧ w.grownBy w' none := by
  obtain ⟨hg, r3, r4, r5, hsl⟩ := box3_facts w d s (.slice a M cd)
  have HRC : Hid (Calls Try.prog 43 #[.pointer (some ⟨d, 0, none⟩), .slice (some ⟨w.heap.size + 1 + 1 + 1, 0, none⟩) 1 1] (box3 w d s (.slice a M cd)) fun e w' => e = .returned (.int .i64 (reachC true [s])) ∧ (box3 w d s (.slice a M cd)) = w') := d_reach d mb true set ah kp wn _ [s] 1 1 _ (h.row.of_block (hg.block d h.row.lt (by simp))) hsl rfl (by omega) (by intro x hx; simp only [List.mem_singleton] at hx; subst hx; exact hs)
  have HG : Hid (w.grownBy (box3 w d s (.slice a M cd)) none) := hg
  unfold box3 at HRC HG
  clear h hg r3 r4 r5 hsl
  go_enter Try.func15, Try.ntmps15
  go_wp2_with fail
  refine HRC.out.mono ?_
  rintro e w' ⟨rfl, rfl⟩
  rw [show reachC true [s] = 60 from rfl]
  go_wp2
  go_ret
  exact ⟨rfl, HG.out⟩
end Go.Proofs.Ytdnkdopjlobklaa
