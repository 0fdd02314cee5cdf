/- The disk as the law of the other files sees it: what was read stays. -/
import Derived.Test.YtdnkdopjlobklaaDk17
import Derived.Test.YtdnkdopjlobklaaWDiskSynced
namespace Go.Proofs.Ytdnkdopjlobklaa
open Go.RowKit Go.Maps
set_option linter.unusedVariables false
set_option maxRecDepth 20000

def RdOk (w : World) (B : Nat → Prop) (R : List (Option Addr × List Int)) : Prop := ∀ p ∈ R, SRd byteE w p.1 p.2 ∧ (∀ x, p.1 = some x → x.block < w.heap.size ∧ ¬ B x.block)
theorem RdOk.go {w w' : World} {B B' : Nat → Prop} {R : List (Option Addr × List Int)} (h : RdOk w B R) (hs : Step w w' B B') : RdOk w' B' R := fun p hp =>
  ⟨SRd.step (B' := B) (h p hp).1 hs.1 (h p hp).2, fun x hx => ⟨Nat.lt_of_lt_of_le ((h p hp).2 x hx).1 hs.1.size, fun hb => ((h p hp).2 x hx).2 (hs.2 x.block ((h p hp).2 x hx).1 hb)⟩⟩
/-- The disk's files, and what was read so far and lies in no block of the disk. -/
def OtAt (W w : World) (d mb : Nat) (off : Bool) (wn : Int) (V : Cont) (R : List (Option Addr × List Int)) : Prop :=
  ∃ (n : Nat) (B : Nat → Prop), (n : Int) ≤ wn ∧ 0 ≤ wn ∧ DV w W.heap.size d mb n off false 0 0 wn V B ∧ From W w B ∧ RdOk w B R
theorem OtAt.grow {W w : World} {d mb : Nat} {off : Bool} {wn : Int} {V : Cont} {R : List (Option Addr × List Int)} (h : OtAt W w d mb off wn V R) : W.grownBy w none := by
  obtain ⟨n, B, _, _, _, hf, _⟩ := h
  exact hf.1
theorem OtAt.kept {W w w' : World} {d mb : Nat} {off : Bool} {wn : Int} {V : Cont} {R : List (Option Addr × List Int)} (h : OtAt W w d mb off wn V R) (hg : w.grownBy w' none) : OtAt W w' d mb off wn V R := by
  obtain ⟨n, B, h1, h2, h3, h4, h5⟩ := h
  exact ⟨n, B, h1, h2, h3.kept hg, h4.grown hg, h5.go (Step.grown B hg)⟩
theorem OtAt.rd {W w : World} {d mb : Nat} {off : Bool} {wn : Int} {V : Cont} {R : List (Option Addr × List Int)} (h : OtAt W w d mb off wn V R) {a : Option Addr} {l : List Int} (hp : (a, l) ∈ R) (hb : ∀ z ∈ l, 0 ≤ z ∧ z ≤ 255) : Rd w a l := by
  obtain ⟨n, B, _, _, _, _, h5⟩ := h
  exact srd_rd (h5 _ hp).1 hb
theorem o_new (W : World) : Calls Try.prog 8 #[] W fun e w' => ∃ d mb, e = .returned (.pointer (some ⟨d, 0, none⟩)) ∧ OtAt W w' d mb false 0 V0 [] := by
  refine (v_new W).mono ?_
  rintro e w' ⟨d, mb, B, rfl, h1, h2, h3⟩
  exact ⟨d, mb, rfl, 0, B, by omega, by omega, h1, ⟨h2, fun k hk hb => by have := h3 k hb; omega⟩, fun p hp => by cases hp⟩
theorem o_append (W : World) (d mb g c : Nat) (wn : Int) (V : Cont) (R : List (Option Addr × List Int)) (s : ByteArray) (zs : List Int) (L : Nat) (w1 w2 : World) (h : OtAt W w1 d mb false wn V R) (ho : Own w2 w1.heap.size g L c zs) (hg : w1.grownBy w2 none) (hnm : nameB s = true) (hV : V s = none) (hL : zs.length = L) (hz : L ≤ 5000) (hw : wn ≤ 100) :
    Calls Try.prog 15 #[.pointer (some ⟨d, 0, none⟩), .string s, .slice (some ⟨g, 0, none⟩) L c] w2 fun e w' => e = .returned (.int .i64 0) ∧ OtAt W w' d mb false (wn + 1) (setV V s (some (zs, 0))) R := by
  obtain ⟨n, B, h1, h2, h3, h4, h5⟩ := h
  obtain ⟨l1, l2⟩ := h3.lts
  have hge := ho.ge.1
  have eo : oldV V s = ([], 0) := by unfold oldV; rw [hV]; rfl
  refine (v_append W.heap.size d mb n 0 0 wn V B s ⟨g, 0, none⟩ zs L c w2 (h3.kept hg) hnm (by omega) (by omega) (SOwn.rd (own_sown ho)) hL ho.2 (by rw [eo]; show 0 + L ≤ _; omega) (Nat.le_trans h4.1.size hg.size) (by show g ≠ mb; omega) (by show g ≠ d; omega)).mono ?_
  rintro e w' ⟨rfl, n', B', hn', hd', hst⟩
  rw [eo] at hd'
  exact ⟨rfl, n', B', by omega, by omega, hd', (h4.grown hg).step hst, h5.go ((Step.grown B hg).trans hst)⟩
theorem o_sync (W : World) (d mb : Nat) (wn : Int) (V : Cont) (R : List (Option Addr × List Int)) (s : ByteArray) (Z : List Int) (Y : Nat) (w1 : World) (h : OtAt W w1 d mb false wn V R) (hnm : nameB s = true) (hV : V s = some (Z, Y)) (hw : wn ≤ 100) :
    Calls Try.prog 17 #[.pointer (some ⟨d, 0, none⟩), .string s] w1 fun e w' => e = .returned (.int .i64 0) ∧ OtAt W w' d mb false (wn + 1) (setV V s (some (Z, Z.length))) R := by
  obtain ⟨n, B, h1, h2, h3, h4, h5⟩ := h
  refine (v_sync W.heap.size d mb n 0 0 wn V B s Z Y w1 h3 hnm hV (by omega)).mono ?_
  rintro e w' ⟨rfl, B', hd', hst⟩
  exact ⟨rfl, n, B', by omega, by omega, hd', h4.step hst, h5.go hst⟩
theorem o_read (W : World) (d mb : Nat) (wn : Int) (V : Cont) (R : List (Option Addr × List Int)) (s : ByteArray) (Z : List Int) (Y L : Nat) (w1 : World) (h : OtAt W w1 d mb false wn V R) (hnm : nameB s = true) (hV : V s = some (Z, Y)) (hL : Z.length = L) :
    Calls Try.prog 20 #[.pointer (some ⟨d, 0, none⟩), .string s] w1 fun e w' => ∃ a' c', e = .returned (.tuple #[.slice a' L c', .int .i64 0]) ∧ OtAt W w' d mb false wn V ((a', Z) :: R) := by
  obtain ⟨n, B, h1, h2, h, hf, h5⟩ := h
  subst hL
  refine (v_read W.heap.size d mb n false 0 0 wn V B s Z Y w1 h hnm hV).mono ?_
  rintro e w' ⟨a', c', rfl, ho, _, _, hg⟩
  have hst : Step w1 w' B (fun k => B k ∧ k < w1.heap.size) := ⟨Kept.of hg (X := B) (fun k hk => by cases hk), (fun k _ (hb : B k ∧ k < w1.heap.size) => hb.1)⟩
  refine ⟨a', c', rfl, n, fun k => B k ∧ k < w1.heap.size, h1, h2, ?_, hf.step hst, ?_⟩
  · obtain ⟨F, G, hd, hv, hB⟩ := h
    refine ⟨F, G, hd.kept hg, hv, fun k hk => ⟨hB k hk, ?_⟩⟩
    rcases hk with e | e | ⟨s, b, hs, e | ⟨x, hx, e⟩⟩
    · rw [e]; exact hd.row.lt
    · rw [e]; exact hd.map.lt
    · rw [e]; exact (hd.lt s b hs).1
    · rw [e]; exact (hd.slc hs hx).2.1
  · intro p hp
    rcases List.mem_cons.1 hp with rfl | hp
    · refine ⟨SOwn.rd ho, fun x hx => ?_⟩
      have := SOwn.block ho x.block (by show Value.ownBlock (.slice a' _ _) = _; rw [show a' = some x from hx]; rfl)
      exact ⟨this.2, fun hb => by have := hb.2; omega⟩
    · exact h5.go hst p hp
theorem o_readNot (W : World) (d mb : Nat) (wn : Int) (V : Cont) (R : List (Option Addr × List Int)) (s : ByteArray) (w1 : World) (h : OtAt W w1 d mb false wn V R) (hnm : nameB s = true) (hV : V s = none) :
    Calls Try.prog 20 #[.pointer (some ⟨d, 0, none⟩), .string s] w1 fun e w' => e = .returned (.tuple #[.slice none 0 0, .int .i64 62]) ∧ OtAt W w' d mb false wn V R := by
  obtain ⟨n, B, h1, h2, h3, h4, h5⟩ := id h
  refine (v_readNot W.heap.size d mb n false false 0 0 wn V B s 62 w1 h3 hnm (.inr ⟨rfl, hV, rfl⟩)).mono ?_
  rintro e w' ⟨rfl, hg⟩
  exact ⟨rfl, h.kept hg⟩
theorem o_rename (W : World) (d mb : Nat) (wn : Int) (V : Cont) (R : List (Option Addr × List Int)) (s t : ByteArray) (Z : List Int) (Y : Nat) (w1 : World) (h : OtAt W w1 d mb false wn V R) (hns : nameB s = true) (hnt : nameB t = true) (hV : V s = some (Z, Y)) (hw : wn ≤ 100) :
    Calls Try.prog 25 #[.pointer (some ⟨d, 0, none⟩), .string s, .string t] w1 fun e w' => e = .returned (.int .i64 0) ∧ OtAt W w' d mb false (wn + 1) (setV (setV V s none) t (some (Z, Y))) R := by
  obtain ⟨n, B, h1, h2, h3, h4, h5⟩ := h
  refine (v_rename W.heap.size d mb n 0 0 wn V B s t Z Y w1 h3 hns hnt hV (by omega) (by omega)).mono ?_
  rintro e w' ⟨rfl, hd', hst⟩
  exact ⟨rfl, n + 1, B, by omega, by omega, hd', h4.step hst, h5.go hst⟩
theorem o_off (W : World) (d mb : Nat) (wn : Int) (V : Cont) (R : List (Option Addr × List Int)) (keep : Int) (w1 : World) (h : OtAt W w1 d mb false wn V R) (hk : -9223372036854775808 ≤ keep ∧ keep ≤ 9223372036854775807) :
    Calls Try.prog 19 #[.pointer (some ⟨d, 0, none⟩), .int .i64 keep] w1 fun e w' => e = .returned (.tuple #[]) ∧ OtAt W w' d mb true wn (fun s => (V s).map (cutV keep)) R := by
  obtain ⟨n, B, h1, h2, h3, h4, h5⟩ := h
  refine (v_off W.heap.size d mb n false 0 0 wn keep V B w1 h3 hk).mono ?_
  rintro e w' ⟨rfl, hd', hst⟩
  exact ⟨rfl, n, B, h1, h2, hd', h4.step hst, h5.go hst⟩
theorem o_on (W : World) (d mb : Nat) (wn : Int) (V : Cont) (R : List (Option Addr × List Int)) (w1 : World) (h : OtAt W w1 d mb true wn V R) :
    Calls Try.prog 21 #[.pointer (some ⟨d, 0, none⟩)] w1 fun e w' => e = .returned (.tuple #[]) ∧ OtAt W w' d mb false wn V R := by
  obtain ⟨n, B, h1, h2, h3, h4, h5⟩ := h
  refine (v_on W.heap.size d mb n true false 0 0 wn V B w1 h3).mono ?_
  rintro e w' ⟨rfl, hd', hst⟩
  exact ⟨rfl, n, B, h1, h2, hd', h4.step hst, h5.go hst⟩
theorem o_list (W : World) (d mb : Nat) (wn : Int) (V : Cont) (R : List (Option Addr × List Int)) (p : List Int × Nat) (w1 : World) (h : OtAt W w1 d mb false wn V R) (hA : V nmA = some p) (ho : ∀ s, s ≠ nmA → V s = none) :
    Calls Try.prog 27 #[.pointer (some ⟨d, 0, none⟩), .string ⟨#[]⟩] w1 fun e w' => ∃ a c, e = .returned (.slice a 1 c) ∧ SRd strE w' a [nmA] ∧ w1.grownBy w' none := by
  obtain ⟨n, B, h1, h2, h3, h4, h5⟩ := h
  refine (v_list1 W.heap.size d mb n false 0 0 wn V B p w1 h3 hA ho).mono ?_
  rintro e w' ⟨a, c, rfl, h1, h2⟩
  exact ⟨a, c, rfl, SOwn.rd h1, h2⟩
def nmC : ByteArray := ⟨#[99]⟩
theorem nameCC : nameB nmC = true := by decide
theorem neAB : nmA ≠ nmB := by decide
theorem neBA : nmB ≠ nmA := by decide
theorem neBC : nmB ≠ nmC := by decide
theorem neCA : nmC ≠ nmA := by decide
def X1 (z0 : List Int) : Cont := setV V0 nmA (some (z0, 0))
def X2 (z0 : List Int) : Cont := setV (X1 z0) nmA (some (z0, z0.length))
def X3 (z0 z1 : List Int) : Cont := setV (X2 z0) nmB (some (z1, 0))
def X4 (z0 z1 : List Int) : Cont := setV (setV (X3 z0 z1) nmB none) nmC (some (z1, 0))
def X5 (z0 z1 : List Int) : Cont := setV (setV (X4 z0 z1) nmC none) nmA (some (z1, 0))
def X6 (z0 z1 : List Int) (keep : Int) : Cont := fun s => (X5 z0 z1 s).map (cutV keep)
theorem X2_b (z0 : List Int) : X2 z0 nmB = none := by
  unfold X2 X1
  rw [setV_other _ _ neBA, setV_other _ _ neBA]
  rfl
theorem X3_a (z0 z1 : List Int) : X3 z0 z1 nmA = some (z0, z0.length) := by
  unfold X3 X2
  rw [setV_other _ _ neAB, setV_same]
theorem X4_b (z0 z1 : List Int) : X4 z0 z1 nmB = none := by
  unfold X4
  rw [setV_other _ _ neBC, setV_same]
theorem X5_o (z0 z1 : List Int) (s : ByteArray) (h : s ≠ nmA) : X5 z0 z1 s = none := by
  unfold X5
  rw [setV_other _ _ h]
  by_cases e : s = nmC
  · subst e; rw [setV_same]
  · rw [setV_other _ _ e]
    unfold X4
    rw [setV_other _ _ e]
    by_cases e' : s = nmB
    · subst e'; rw [setV_same]
    · rw [setV_other _ _ e']
      unfold X3 X2 X1
      rw [setV_other _ _ e', setV_other _ _ h, setV_other _ _ h]
      rfl
theorem X6_o (z0 z1 : List Int) (keep : Int) (s : ByteArray) (h : s ≠ nmA) : X6 z0 z1 keep s = none := by
  show (X5 z0 z1 s).map _ = _
  rw [X5_o z0 z1 s h]
  rfl
theorem X6_a (z0 z1 : List Int) (keep : Int) : X6 z0 z1 keep nmA = some (z1.take (keptN keep z1.length), keptN keep z1.length) := by
  show (setV _ _ _ nmA).map _ = _
  rw [setV_same]
  show some (cutV keep (z1, 0)) = _
  unfold cutV
  simp
end Go.Proofs.Ytdnkdopjlobklaa
