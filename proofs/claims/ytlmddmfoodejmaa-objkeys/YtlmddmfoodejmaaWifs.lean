/- ObjIfs: the walk. -/
import Derived.Test.YtlmddmfoodejmaaOp
namespace Go.Proofs.Ytlmddmfoodejmaa
open Go.RowKit Go.Maps
set_option linter.unusedVariables false
set_option maxRecDepth 20000

def u64E : Elem Int where
  cells z := [.int .u64 z]
  size := 1
  pos := by decide
  len _ := rfl
  one z v h := by
    simp only [List.mem_cons, List.mem_nil_iff, or_false] at h
    subst h
    rfl
def nmK : ByteArray := ⟨#[107]⟩
theorem keyK : keyB nmK = true := by decide
/-- A store whose object k has that generation; none of its puts were more than these. -/
def IfAt (W w : World) (d mb p now : Nat) : Prop := ∃ n x B O, StAt W w d mb n x p O B ∧ genO (O nmK) = now ∧ now ≤ 8 ∧ n ≤ 4 * now ∧ x.wn ≤ 3 * now
theorem IfAt.grown {W w w' : World} {d mb p now : Nat} (h : IfAt W w d mb p now) (hg : w.grownBy w' none) : IfAt W w' d mb p now := by
  obtain ⟨n, x, B, O, h1, h2⟩ := h
  exact ⟨n, x, B, O, h1.grown hg, h2⟩
theorem IfAt.from_ {W w : World} {d mb p now : Nat} (h : IfAt W w d mb p now) : W.grownBy w none := by
  obtain ⟨n, x, B, O, h1, h2⟩ := h
  exact h1.from_
theorem if_put {W w : World} {d mb p now : Nat} (h : IfAt W w d mb p now) (hn : now < 8) (a : Option Addr) (M cd : Nat) (dd : List Int) (hr : Rd w a dd) (hM : dd.length = M) (hnil : a = none → cd = 0) (hlen : M ≤ 1048576) :
    Calls Try.prog 20 #[.pointer (some ⟨p, 0, none⟩), .string ⟨#[107]⟩, .slice a M cd, .int .u64 (now : Int)] w fun e w' => e = .returned (.tuple #[.int .u64 ((now : Int) + 1), .int .i64 0]) ∧ IfAt W w' d mb p (now + 1) := by
  obtain ⟨n, x, B, O, h1, h2, h3, h4, h5⟩ := h
  refine (st_putIf h1 nmK a M cd dd (now : Int) (by rw [h2]) keyK (by omega) (by omega) (by omega) hr hM hnil hlen).mono ?_
  rintro e w' ⟨rfl, n', x', B', k1, k2, k3, k4⟩
  refine ⟨by rw [h2], n', x', B', _, k1, ?_, by omega, by omega, by omega⟩
  rw [setO_same, h2]
  rfl
theorem if_not {W w : World} {d mb p now : Nat} (h : IfAt W w d mb p now) (g : Nat) (hg : g ≠ now) (a : Option Addr) (M cd : Nat) (hlen : M ≤ 1048576) :
    Calls Try.prog 20 #[.pointer (some ⟨p, 0, none⟩), .string ⟨#[107]⟩, .slice a M cd, .int .u64 (g : Int)] w fun e w' => e = .returned (.tuple #[.int .u64 (now : Int), .int .i64 112]) ∧ IfAt W w' d mb p now := by
  have h0 := h
  obtain ⟨n, x, B, O, h1, h2, h3, h4, h5⟩ := h
  refine (st_putIfNot h1 nmK a M cd (g : Int) (by rw [h2]; omega) keyK hlen).mono ?_
  rintro e w' ⟨rfl, hg⟩
  exact ⟨by rw [h2], h0.grown hg⟩
theorem if_get {W w : World} {d mb p now : Nat} (h : IfAt W w d mb p now) :
    Calls Try.prog 16 #[.pointer (some ⟨p, 0, none⟩), .string ⟨#[107]⟩] w fun e w' => (∃ v N c E, e = .returned (.tuple #[.slice v N c, .int .u64 (now : Int), .int .i64 E])) ∧ IfAt W w' d mb p now := by
  have h0 := h
  obtain ⟨n, x, B, O, h1, h2, h3, h4, h5⟩ := h
  refine (st_get h1 nmK keyK).mono ?_
  rintro e w' ⟨v, N, c, rfl, _, hg⟩
  rw [h2]
  exact ⟨⟨v, N, c, _, rfl⟩, h0.grown hg⟩
theorem if_new (W : World) {w : World} {d mb : Nat} {B : Nat → Prop} (hd : DS w W.heap.size d mb 0 ⟨false, false, 0, 0, 0, fun _ => none⟩ B) (hW : W.grownBy w none) (low : ∀ k, B k → W.heap.size ≤ k) (ltB : ∀ k, B k → k < w.heap.size) :
    Calls Try.prog 8 #[.pointer (some ⟨d, 0, none⟩)] w fun e w' => ∃ p, e = .returned (.tuple #[.pointer (some ⟨p, 0, none⟩), .int .i64 0]) ∧ IfAt W w' d mb p 0 := by
  refine (st_open0 hd hW low ltB).mono ?_
  rintro e w' ⟨p, x', B', rfl, h1, h2, h3⟩
  exact ⟨p, rfl, 0, x', B', O0, h1, rfl, by omega, by omega, by omega⟩
set_option maxHeartbeats 8000000 in
theorem objIfs_walk (a : Option Addr) (gs : List Int) (L c : Nat) (b : Option Addr) (zs : List Int) (M cap : Nat) (W : World) (hr : SRd u64E W a gs) (hgs : ∀ z ∈ gs, 0 ≤ z ∧ z ≤ 18446744073709551615) (hL : gs.length = L) (hL2 : L ≤ 140737488351232) (hz : Rd W b zs) (hnil : b = none → cap = 0) (hM : zs.length = M) (hM2 : M ≤ 140737488351232) :
    Calls Try.prog 4 #[.slice a L c, .slice b M cap] W fun e w' => e = .returned (.bool true) ∧ Below W.heap.size W w' := by
  have HAW : Hid (∀ w, Calls Try.prog 9 #[] w fun e w' => e = .returned (.bool true) ∧ w.grownBy w' none) := o_awake
  have HA0 := st_new W
  have HR : Hid (SRd u64E W a gs) := hr
  have HGS : Hid (∀ z ∈ gs, 0 ≤ z ∧ z ≤ 18446744073709551615) := hgs
  have HL : Hid (gs.length = L) := hL
  have HZ : Hid (Rd W b zs) := hz
  have HM : Hid (zs.length = M) := hM
  have HNIL : Hid (b = none → cap = 0) := hnil
  clear hr hgs hL hz hM hnil
  go_enter Try.func4, Try.ntmps4
  go_wp2_with fail
  refine HA0.mono ?_
  rintro e w1 ⟨d, mb, B, rfl, hd, hW, hlo, hlt⟩
  have HA1 := if_new W hd hW hlo hlt
  clear HA0 hd hW hlo hlt
  go_wp2_with fail
  refine HA1.mono ?_
  rintro e w2 ⟨p, rfl, hI⟩
  have HI : Hid (IfAt W w2 d mb p 0) := hI
  clear HA1 hI
  by_cases hM1 : 1000 < M
  · have q1 : decide ((1000 : Int) < (M : Int)) = true := by simp; omega
    have q2 : decide (1000 < M) = true := by simp; omega
    go_wp2_with fail
    refine (HAW.out _).mono ?_
    rintro e w3 ⟨rfl, hg⟩
    have HG : Hid (W.grownBy w3 none) := HI.out.from_.trans hg
    clear hg
    go_wp2
    go_ret
    exact ⟨rfl, gb_below HG.out⟩
  · have q1 : decide ((1000 : Int) < (M : Int)) = false := by simp; omega
    have q2 : decide (1000 < M) = false := by simp; omega
    go_wp2
    go_loopw [7, 8] (fun v i wr => ∃ now k : Nat, now ≤ 8 ∧ k ≤ L ∧ v = .int .u64 now ∧ i = .int .i64 k ∧ Hid (IfAt W wr d mb p now)) (fun _ i _ => L - (intOf i).toNat)
    case atStart => exact ⟨0, 0, by omega, Nat.zero_le _, rfl, rfl, HI⟩
    case round =>
      obtain ⟨now, k, hnow, hk, rfl, rfl, HI⟩ := hrel
      by_cases hlt : k < L
      · have hi : (k : Int) < (L : Int) := by omega
        have hl := HL.out
        obtain ⟨z, ex⟩ : ∃ z, gs[k]? = some z := ⟨_, List.getElem?_eq_getElem (by omega)⟩
        obtain ⟨ba, off, rfl, hcc⟩ := (HR.out.grown HI.out.from_ (by simp)).at (by omega)
        have a0 : wr.cell? ⟨ba, off + k, none⟩ = some (.int .u64 z) := by
          have h := hcc k z 0 (.int .u64 z) ex rfl
          simpa [u64E] using h
        obtain ⟨z0, z1⟩ := HGS.out z (List.mem_of_getElem? ex)
        obtain ⟨g, eg⟩ : ∃ g : Nat, z.tmod 8 = (g : Int) := ⟨(z.tmod 8).toNat, by have := Int.tmod_nonneg 8 z0; omega⟩
        have hg8 : g < 8 := by have := Int.tmod_lt_of_pos z (show (0 : Int) < 8 by decide); omega
        have HCP := copy_any b zs cap wr (HZ.out.grown HI.out.from_ (by simp)) HNIL.out (by have := HM.out; omega)
        rw [HM.out] at HCP
        clear hcc ex
        obtain ⟨y, ey⟩ : ∃ y : Int, (k : Int) % 256 = y := ⟨_, rfl⟩
        have ey2 : IntKind.u8.wrap (k : Int) = y := by rw [IntKind.wrap_u8]; exact ey
        have hy : 0 ≤ y ∧ y ≤ 255 := by omega
        have HMM := HM.out
        go_wp2_with fail
        refine HCP.mono ?_
        rintro e w3 ⟨gq, cq, rfl, ho, hg3⟩
        have HO : Hid (Own w3 wr.heap.size gq M cq zs) := ho
        have HG3 : Hid (wr.grownBy w3 none) := hg3
        clear HCP ho hg3 HMM
        go_wp2_with (at_builtin; refine wpList_append_rd rfl (.tmp 50) (.tmp 53) rfl wr.heap.size gq M cq zs rfl (HO.out.kept (World.grownBy_alloc w3 _ none) (by simp)) (some ⟨w3.heap.size, 0, none⟩) [y] 1 1 rfl rfl (rd_lit w3 [y] (by intro z hz; simp at hz; subst hz; exact hy)) (by simp) (by omega) ?_; intro g4 c4 w4 ho4 hg4)
        have HRD : Hid (Rd w4 (some ⟨g4, 0, none⟩) (zs ++ [y])) := ho4.rd
        have HLEN : Hid ((zs ++ [y]).length = M + 1) := by show _ = _; rw [List.length_append, HM.out]; rfl
        have HI4 : Hid (IfAt W w4 d mb p now) := HI.out.grown (gb_trans (HG3.out.trans (World.grownBy_alloc w3 _ none)) hg4 (fun k hk => .inl (by cases hk; exact HO.out.ge.1)))
        clear ho4 hg4
        by_cases hgn : g = now
        · subst hgn
          have HC := if_put HI4.out hg8 (some ⟨g4, 0, none⟩) (M + 1) c4 (zs ++ [y]) HRD.out HLEN.out (by simp) (by omega)
          clear HRD HLEN HO HG3 HI
          go_wp2_with fail
          refine HC.mono ?_
          rintro e w5 ⟨rfl, hI5⟩
          have HI5 : Hid (IfAt W w5 d mb p (g + 1)) := hI5
          have HG := if_get hI5
          rw [show ((g + 1 : Nat) : Int) = (g : Int) + 1 by omega] at HG
          clear HC hI5 HI4
          go_wp2_with fail
          refine HG.mono ?_
          rintro e w6 ⟨⟨v, N, cc, E, rfl⟩, hI6⟩
          have HI6 : Hid (IfAt W w6 d mb p (g + 1)) := hI6
          clear HG hI6 HI5
          go_wp2
          go_roundw
          case rel => exact ⟨g + 1, k + 1, by omega, by omega, by go_num, by go_num, HI6⟩
          case measure => simp [intOf]; omega
        · have q3 : ((g : Int) == (now : Int)) = false := by simp; omega
          have q4 : (g == now) = false := by simpa using hgn
          have HC := if_not HI4.out g hgn (some ⟨g4, 0, none⟩) (M + 1) c4 (by omega)
          clear HRD HLEN HO HG3 HI hgn
          go_wp2_with fail
          refine HC.mono ?_
          rintro e w5 ⟨rfl, hI5⟩
          have HG := if_get hI5
          clear HC hI5 HI4
          go_wp2_with fail
          refine HG.mono ?_
          rintro e w6 ⟨⟨v, N, cc, E, rfl⟩, hI6⟩
          have HI6 : Hid (IfAt W w6 d mb p now) := hI6
          clear HG hI6
          go_wp2
          go_roundw
          case rel => exact ⟨now, k + 1, by omega, by omega, rfl, by go_num, HI6⟩
          case measure => simp [intOf]; omega
      · have hkk : k = L := by omega
        have hi : ¬ (k : Int) < (L : Int) := by omega
        clear hkk
        go_wp2_with fail
        refine (HAW.out _).mono ?_
        rintro e w3 ⟨rfl, hg⟩
        have HG : Hid (W.grownBy w3 none) := HI.out.from_.trans hg
        clear hg
        go_wp2
        go_ret
        exact ⟨rfl, gb_below HG.out⟩
end Go.Proofs.Ytlmddmfoodejmaa
