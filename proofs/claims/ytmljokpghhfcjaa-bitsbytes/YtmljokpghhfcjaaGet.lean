/- Reading bits. -/
import Derived.Test.YtmljokpghhfcjaaSmall
import Derived.Test.YtmljokpghhfcjaaMath
import Derived.WalkMore
import Derived.ScopeJumps
namespace Go.Proofs.Ytmljokpghhfcjaa
open Go.RowKit

/-- A scope that jumps back to its one label: the way in comes to the label, too. -/
theorem wp_scope_from {P : Program} {a : Act} {w : World} {Q : Exit → Act → World → Prop} {c rest : Code} (l : Nat) (J : Act → World → Prop) (μ : Act → World → Nat) (hf : findLabel c l = some (Code.skip.seq rest))
    (pass : ∀ a w, J a w → rest.wp P (Exit.jump l (fun a' w' => J a' w' ∧ μ a' w' < μ a w) Q) a w)
    (first : (∀ a w, J a w → rest.wp P (Exit.jump l J Q) a w) → c.wp P (Exit.jump l J Q) a w) : (Code.scope c).wp P Q a w := by
  refine wp_scope_jumps l J μ hf (first fun a w hJ => ?_) fun a w hJ => wp_seq (wp_skip (pass a w hJ))
  refine Code.wp_mono (fun e a' w' q => ?_) (pass a w hJ)
  cases e with
  | goto l' => exact ⟨q.1, q.2.1⟩
  | _ => exact q

set_option maxHeartbeats 400000 in
theorem get_any (a : Option Addr) (zs : List Int) (cap : Nat) (p wd : Nat) (w : World) (hr : Rd w a zs) (hl : p + wd ≤ 8 * zs.length) (h1 : (zs.length : Int) ≤ 140737488351232) (hw : wd ≤ 64) :
    Calls Try.prog 25 #[.slice a zs.length cap, .int .i64 p, .int .i64 wd] w fun e w' => e = .returned (.int .u64 (rdv zs p wd)) ∧ w = w' := by
  go_enter Try.func25, Try.ntmps25
  go_wp2
  refine wp_scope_from 0 (fun a' w' => w = w' ∧ ∃ (k : Nat) (u9 u10 u11 u12 u13 u14 u15 u16 u17 u18 u19 u20 u21 u22 u23 u24 u25 u26 u27 u28 u29 u30 u31 : Value), a' = { tmps := #[.slice a zs.length cap, .int .i64 ((p : Int) + k), .int .i64 wd, undef, undef, undef, .int .u64 0, .int .u64 (rdv zs p k), .int .i64 ((p : Int) + wd), u9, u10, u11, u12, u13, u14, u15, u16, u17, u18, u19, u20, u21, u22, u23, u24, u25, u26, u27, u28, u29, u30, u31], defers := [] } ∧ k ≤ wd) (fun a' _ => p + wd - (intOf (a'.tmps.getD 1 undef)).toNat) rfl ?_ ?_
  · rintro a' w' ⟨rfl, k, u9, u10, u11, u12, u13, u14, u15, u16, u17, u18, u19, u20, u21, u22, u23, u24, u25, u26, u27, u28, u29, u30, u31, rfl, hk⟩
    go_hide hQ
    have HQQ : Hid (_ = _) := hQ
    clear hQ
    by_cases hlt : k < wd
    · obtain ⟨b, off, rfl, hc⟩ := hr.at (by omega)
      have hcell := hc ((p + k) / 8) (by omega)
      have hby := hr.byte ((p + k) / 8)
      obtain ⟨z, hz⟩ : ∃ z, z = zs.getD ((p + k) / 8) 0 := ⟨_, rfl⟩
      rw [← hz] at hcell hby
      obtain ⟨v, hv⟩ : ∃ v, v = rdv zs p k := ⟨_, rfl⟩
      rw [← hv]
      have hvb : 0 ≤ v ∧ v ≤ 9223372036854775807 := hv ▸ rdv_63 zs p k (by omega)
      have HV : Hid (v = rdv zs p k) := hv
      have HZ : Hid (z = zs.getD ((p + k) / 8) 0) := hz
      obtain ⟨q, hq⟩ : ∃ q, q = p + k := ⟨_, rfl⟩
      have HQ : Hid (q = p + k) := hq
      have eq1 : (p : Int) + k = (q : Int) := by omega
      obtain ⟨E, hE⟩ : ∃ E, E = p + wd := ⟨_, rfl⟩
      have eE : (p : Int) + wd = (E : Int) := by omega
      rw [eq1, eE]
      rw [← hq] at hcell HZ
      have hq1 : q < E := by omega
      have hne : ((q : Int) == (E : Int)) = false := by simp; omega
      have hq2 : q / 8 < zs.length := by omega
      have hEb : E ≤ 1125899906809856 := by omega
      obtain ⟨L, hL⟩ : ∃ L, L = zs.length := ⟨_, rfl⟩
      have H2 : Hid ((q : Int) + 1 = (p : Int) + ((k + 1 : Nat) : Int)) := by show _ = _; omega
      have H3 : Hid (bits .or .u64 (v * 2) (IntKind.u64.wrap (bits .and .u8 (z / 2 ^ (7 - q % 8)) 1)) = rdv zs p (k + 1)) := by
        show _ = _
        rw [or_step v z _ hvb.1 hvb.2 hby.1 hby.2, rdv, bitOf, hv, hz, hq]
      have H4 : Hid ((E : Int) = (p : Int) + wd) := eE.symm
      have H5 : Hid (L = zs.length) := hL
      rw [← hL] at hq2 ⊢
      clear hc hr hz hv hq eq1 eE hE hL
      go_wp2
      go_step3
      rw [H2.out, H3.out, H4.out, H5.out, ← HQQ.out]
      refine ⟨rfl, ⟨rfl, k + 1, _, _, _, _, _, _, _, _, _, _, _, _, _, _, _, _, _, _, _, _, _, _, _, rfl, by omega⟩, ?_⟩
      simp [intOf]
      have := HQ.out
      omega
    · have : k = wd := by omega
      subst this
      clear hr
      go_wp2
      rw [← HQQ.out]
      simp only [Exit.jump]
      go_ret
      exact ⟨rfl, rfl⟩
  · intro go_on
    go_wp2
    go_step3
    refine ‹∀ (a : Act) (w : World), Code.wp Try.prog _ _ a w → _› _ _ (go_on _ _ ?_)
    exact ⟨rfl, 0, _, _, _, _, _, _, _, _, _, _, _, _, _, _, _, _, _, _, _, _, _, _, _, rfl, Nat.zero_le _⟩


def readB (zs : List Int) (n p k : Int) : Bool := wholeB zs n && (widthB k && (decide (0 ≤ p) && decide (p ≤ n - k)))
theorem wholeB_n {zs : List Int} {n : Int} (h : wholeB zs n = true) : 0 ≤ n ∧ (zs.length : Int) = (n + 7) / 8 ∧ n ≤ 8 * zs.length := by
  simp [wholeB] at h
  omega
theorem widthB_n {n : Int} (h : widthB n = true) : 0 ≤ n ∧ n ≤ 64 := by simpa [widthB] using h
theorem readB_n {zs : List Int} {n p k : Int} (h : readB zs n p k = true) : wholeB zs n = true ∧ widthB k = true ∧ 0 ≤ p ∧ p ≤ n - k := by simpa [readB] using h

set_option maxHeartbeats 400000 in
theorem read_yes (a : Option Addr) (zs : List Int) (cap : Nat) (n : Int) (p k : Nat) (w : World) (hr : Rd w a zs) (hn : n ≤ 9223372036854775807) (h1 : (zs.length : Int) ≤ 140737488351232) (hy : readB zs n p k = true) :
    Calls Try.prog 19 #[.slice a zs.length cap, .int .i64 n, .int .i64 p, .int .i64 k] w fun e w' => e = .returned (.tuple #[.int .u64 (rdv zs p k), .bool true]) ∧ w = w' := by
  obtain ⟨hW, hK, hp0, hp1⟩ := readB_n hy
  have hWn := wholeB_n hW
  have hKn := widthB_n hK
  have H : p + k ≤ 8 * zs.length := by omega
  have H' : k ≤ 64 := by omega
  clear hy
  go_enter Try.func19, Try.ntmps19
  go_wp2_with (first | (go_at_call 11; refine (whole_any _ _ _ _ _ hr hn).mono ?_; rintro e w' ⟨rfl, rfl⟩) | (go_at_call 22; refine (isWidth_any _ _).mono ?_; rintro e w' ⟨rfl, rfl⟩) | (go_at_call 25; refine (get_any _ _ _ _ _ _ hr H h1 H').mono ?_; rintro e w' ⟨rfl, rfl⟩))
  go_ret2
  exact ⟨rfl, rfl⟩

set_option maxHeartbeats 400000 in
theorem read_no (a : Option Addr) (zs : List Int) (cap : Nat) (n p k : Int) (w : World) (hr : Rd w a zs) (hn : n ≤ 9223372036854775807) (hno : readB zs n p k = false) :
    Calls Try.prog 19 #[.slice a zs.length cap, .int .i64 n, .int .i64 p, .int .i64 k] w fun e w' => e = .returned (.tuple #[.int .u64 0, .bool false]) ∧ w = w' := by
  by_cases hW : wholeB zs n = true
  · have hWn := wholeB_n hW
    by_cases hK : widthB k = true
    · have hKn := widthB_n hK
      by_cases hp : p < 0
      · have hd : decide (p < 0) = true := by simpa using hp
        clear hno
        go_enter Try.func19, Try.ntmps19
        go_wp2_with (first | (go_at_call 11; refine (whole_any _ _ _ _ _ hr hn).mono ?_; rintro e w' ⟨rfl, rfl⟩) | (go_at_call 22; refine (isWidth_any _ _).mono ?_; rintro e w' ⟨rfl, rfl⟩))
        go_ret2
        exact ⟨rfl, rfl⟩
      · have hd : decide (p < 0) = false := by simpa using hp
        have hq : decide (n - k < p) = true := by
          simp [readB, hW, hK] at hno
          simp; omega
        clear hno
        go_enter Try.func19, Try.ntmps19
        go_wp2_with (first | (go_at_call 11; refine (whole_any _ _ _ _ _ hr hn).mono ?_; rintro e w' ⟨rfl, rfl⟩) | (go_at_call 22; refine (isWidth_any _ _).mono ?_; rintro e w' ⟨rfl, rfl⟩))
        go_ret2
        exact ⟨rfl, rfl⟩
    · have hK' : widthB k = false := by simpa using hK
      clear hno hK
      go_enter Try.func19, Try.ntmps19
      go_wp2_with (first | (go_at_call 11; refine (whole_any _ _ _ _ _ hr hn).mono ?_; rintro e w' ⟨rfl, rfl⟩) | (go_at_call 22; refine (isWidth_any _ _).mono ?_; rintro e w' ⟨rfl, rfl⟩))
      go_ret2
      exact ⟨rfl, rfl⟩
  · have hW' : wholeB zs n = false := by simpa using hW
    clear hno hW
    go_enter Try.func19, Try.ntmps19
    go_wp2_with (first | (go_at_call 11; refine (whole_any _ _ _ _ _ hr hn).mono ?_; rintro e w' ⟨rfl, rfl⟩) | (go_at_call 22; refine (isWidth_any _ _).mono ?_; rintro e w' ⟨rfl, rfl⟩))
    go_ret2
    exact ⟨rfl, rfl⟩
end Go.Proofs.Ytmljokpghhfcjaa
