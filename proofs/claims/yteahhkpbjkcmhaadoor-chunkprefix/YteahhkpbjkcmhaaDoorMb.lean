/- Several texts in one: Bsm, Bget, Bput, Bapp. -/
import Derived.Test.YteahhkpbjkcmhaaDoorMs
import Derived.Test.YteahhkpbjkcmhaaDoorRread
import Derived.Test.YteahhkpbjkcmhaaDoorMh
import Derived.WalkKit
import Derived.WalkSpells
import Derived.WalkLawsBesides
import Derived.WalkMore
import Derived.ScopeJumps
/- The small calls of package bits: how many bytes some bits take, whether a width may be, whether a string of bits is one. -/
namespace Go.Proofs.YteahhkpbjkcmhaaDoor
open Go.RowKit
set_option linter.unusedVariables false
set_option maxHeartbeats 400000 in
theorem bytesOf_any (n : Int) (w : World) (h0 : 0 ≤ n) (h1 : n ≤ 9223372036854775807) :
    Calls Tryd.prog 58 #[.int .i64 n] w fun e w' => e = .returned (.int .i64 ((n + 7) / 8)) ∧ w = w' := by
  by_cases h : n % 8 = 0
  · have H : Hid (n / 8 = (n + 7) / 8) := by show _ = _; omega
    go_enter Tryd.func58, Tryd.ntmps58
    go_wp2
    go_ret
    exact ⟨ret_int H.out, rfl⟩
  · have H : Hid (n / 8 + 1 = (n + 7) / 8) := by show _ = _; omega
    go_enter Tryd.func58, Tryd.ntmps58
    go_wp2
    go_ret
    exact ⟨ret_int H.out, rfl⟩
set_option maxHeartbeats 400000 in
theorem isWidth_any (n : Int) (w : World) :
    Calls Tryd.prog 59 #[.int .i64 n] w fun e w' => e = .returned (.bool (widthB n)) ∧ w = w' := by
  by_cases h : 0 ≤ n
  · go_enter Tryd.func59, Tryd.ntmps59
    go_wp2
    go_ret
    exact ⟨ret_bool (by simp [widthB, h]), rfl⟩
  · go_enter Tryd.func59, Tryd.ntmps59
    go_wp2
    go_ret
    exact ⟨ret_bool (by simp [widthB]; omega), rfl⟩
set_option maxHeartbeats 400000 in
theorem whole_odd (a : Option Addr) (zs : List Int) (cap : Nat) (n : Int) (w : World) (hr : Rd w a zs) (h0 : 0 ≤ n) (h1 : n ≤ 9223372036854775807) (hl : (zs.length : Int) = (n + 7) / 8) (h8 : ¬ n % 8 = 0) :
    Calls Tryd.prog 49 #[.slice a zs.length cap, .int .i64 n] w fun e w' => e = .returned (.bool (decide (zs.getD (zs.length - 1) 0 * 2 ^ (n % 8).toNat % 256 = 0))) ∧ w = w' := by
  obtain ⟨b, off, rfl, hc⟩ := hr.at (by omega)
  have hcell := hc (zs.length - 1) (by omega)
  have hb := hr.byte (zs.length - 1)
  clear hc hr
  obtain ⟨z, hz⟩ : ∃ z, z = zs.getD (zs.length - 1) 0 := ⟨_, rfl⟩
  rw [← hz] at hcell hb ⊢
  clear hz
  obtain ⟨L, hL⟩ : ∃ L, L = zs.length := ⟨_, rfl⟩
  rw [← hL] at hl hcell ⊢
  clear hL
  have HL : ((L : Int) != ((n + 7) / 8)) = false := by simp; omega
  have H8 : (n % 8 == 0) = false := by simp; omega
  have hn : decide (n < 0) = false := by simp; omega
  have hp : 1 ≤ (L : Int) ∧ (L : Int) ≤ 9223372036854775807 := by omega
  clear hl h8
  go_enter Tryd.func49, Tryd.ntmps49
  go_wp2_with (go_at_call 58; refine (bytesOf_any _ _ (by omega) (by omega)).mono ?_; rintro e w' ⟨rfl, rfl⟩)
  go_ret
  refine ⟨ret_bool ?_, rfl⟩
  by_cases hz : z * 2 ^ (n % 8).toNat % 256 = 0 <;> simp [hz]
set_option maxHeartbeats 400000 in
theorem whole_even (a : Option Addr) (L : Nat) (cap : Nat) (n : Int) (w : World) (h0 : 0 ≤ n) (h1 : n ≤ 9223372036854775807) (hl : (L : Int) = (n + 7) / 8) (h8 : n % 8 = 0) :
    Calls Tryd.prog 49 #[.slice a L cap, .int .i64 n] w fun e w' => e = .returned (.bool true) ∧ w = w' := by
  have HL : ((L : Int) != ((n + 7) / 8)) = false := by simp; omega
  have H8 : (n % 8 == 0) = true := by simp; omega
  have hn : decide (n < 0) = false := by simp; omega
  clear hl h8
  go_enter Tryd.func49, Tryd.ntmps49
  go_wp2_with (go_at_call 58; refine (bytesOf_any _ _ (by omega) (by omega)).mono ?_; rintro e w' ⟨rfl, rfl⟩)
  go_ret
  exact ⟨rfl, rfl⟩
set_option maxHeartbeats 400000 in
theorem whole_long (a : Option Addr) (L : Nat) (cap : Nat) (n : Int) (w : World) (h0 : 0 ≤ n) (h1 : n ≤ 9223372036854775807) (hl : ¬ (L : Int) = (n + 7) / 8) :
    Calls Tryd.prog 49 #[.slice a L cap, .int .i64 n] w fun e w' => e = .returned (.bool false) ∧ w = w' := by
  have HL : ((L : Int) != ((n + 7) / 8)) = true := by simp; omega
  have hn : decide (n < 0) = false := by simp; omega
  clear hl
  go_enter Tryd.func49, Tryd.ntmps49
  go_wp2_with (go_at_call 58; refine (bytesOf_any _ _ (by omega) (by omega)).mono ?_; rintro e w' ⟨rfl, rfl⟩)
  go_ret
  exact ⟨rfl, rfl⟩
set_option maxHeartbeats 400000 in
theorem whole_below (a : Option Addr) (L : Nat) (cap : Nat) (n : Int) (w : World) (h0 : n < 0) :
    Calls Tryd.prog 49 #[.slice a L cap, .int .i64 n] w fun e w' => e = .returned (.bool false) ∧ w = w' := by
  have hn : decide (n < 0) = true := by simp; omega
  go_enter Tryd.func49, Tryd.ntmps49
  go_wp2_with fail
  go_ret
  exact ⟨rfl, rfl⟩
/-- Whole, of any bytes and any number: P1.1's answer. -/
theorem whole_any (a : Option Addr) (zs : List Int) (cap : Nat) (n : Int) (w : World) (hr : Rd w a zs) (h1 : n ≤ 9223372036854775807) :
    Calls Tryd.prog 49 #[.slice a zs.length cap, .int .i64 n] w fun e w' => e = .returned (.bool (wholeB zs n)) ∧ w = w' := by
  by_cases h0 : 0 ≤ n
  · by_cases hl : (zs.length : Int) = (n + 7) / 8
    · by_cases h8 : n % 8 = 0
      · have e : wholeB zs n = true := by simp [wholeB, h0, hl, h8]
        rw [e]; exact whole_even a _ cap n w h0 h1 hl h8
      · have e : wholeB zs n = decide (zs.getD (zs.length - 1) 0 * 2 ^ (n % 8).toNat % 256 = 0) := by simp only [wholeB, h0, hl, h8]; simp
        rw [e]; exact whole_odd a zs cap n w hr h0 h1 hl h8
    · have e : wholeB zs n = false := by simp [wholeB, hl]
      rw [e]; exact whole_long a _ cap n w h0 h1 hl
  · have e : wholeB zs n = false := by simp [wholeB, h0]
    rw [e]; exact whole_below a _ cap n w (by omega)
end Go.Proofs.YteahhkpbjkcmhaaDoor

/- Reading bits. -/
namespace Go.Proofs.YteahhkpbjkcmhaaDoor
open Go.RowKit
set_option linter.unusedVariables false
/-- A scope that jumps back to its one label: the way in comes to the label, too. -/
theorem wp_scope_from {P : Program} {a : Act} {w : World} {Q : Exit → Act → World → Prop} {c rest : Code} (l : Nat) (J : Act → World → Prop) (μ : Act → World → Nat) (hf : findLabel c l = some (Code.skip.seq rest))
    (pass : ∀ a w, J a w → rest.wp P (Exit.jump l (fun a' w' => J a' w' ∧ μ a' w' < μ a w) Q) a w)
    (first : (∀ a w, J a w → rest.wp P (Exit.jump l J Q) a w) → c.wp P (Exit.jump l J Q) a w) : (Code.scope c).wp P Q a w := by
  refine wp_scope_jumps l J μ hf (first fun a w hJ => ?_) fun a w hJ => wp_seq (wp_skip (pass a w hJ))
  refine Code.wp_mono (fun e a' w' q => ?_) (pass a w hJ)
  cases e with
  | goto l' => exact ⟨q.1, q.2.1⟩
  | _ => exact q
set_option maxHeartbeats 400000 in
theorem get_any (a : Option Addr) (zs : List Int) (cap : Nat) (p wd : Nat) (w : World) (hr : Rd w a zs) (hl : p + wd ≤ 8 * zs.length) (h1 : (zs.length : Int) ≤ 140737488355000) (hw : wd ≤ 64) :
    Calls Tryd.prog 61 #[.slice a zs.length cap, .int .i64 p, .int .i64 wd] w fun e w' => e = .returned (.int .u64 (rdv zs p wd)) ∧ w = w' := by
  go_enter Tryd.func61, Tryd.ntmps61
  go_wp2
  refine wp_scope_from 0 (fun a' w' => w = w' ∧ ∃ (k : Nat) (u9 u10 u11 u12 u13 u14 u15 u16 u17 u18 u19 u20 u21 u22 u23 u24 u25 u26 u27 u28 u29 u30 u31 : Value), a' = { tmps := #[.slice a zs.length cap, .int .i64 ((p : Int) + k), .int .i64 wd, undef, undef, undef, .int .u64 0, .int .u64 (rdv zs p k), .int .i64 ((p : Int) + wd), u9, u10, u11, u12, u13, u14, u15, u16, u17, u18, u19, u20, u21, u22, u23, u24, u25, u26, u27, u28, u29, u30, u31], defers := [] } ∧ k ≤ wd) (fun a' _ => p + wd - (intOf (a'.tmps.getD 1 undef)).toNat) rfl ?_ ?_
  · rintro a' w' ⟨rfl, k, u9, u10, u11, u12, u13, u14, u15, u16, u17, u18, u19, u20, u21, u22, u23, u24, u25, u26, u27, u28, u29, u30, u31, rfl, hk⟩
    go_hide hQ
    have HQQ : Hid (_ = _) := hQ
    clear hQ
    by_cases hlt : k < wd
    · obtain ⟨b, off, rfl, hc⟩ := hr.at (by omega)
      have hcell := hc ((p + k) / 8) (by omega)
      have hby := hr.byte ((p + k) / 8)
      obtain ⟨z, hz⟩ : ∃ z, z = zs.getD ((p + k) / 8) 0 := ⟨_, rfl⟩
      rw [← hz] at hcell hby
      obtain ⟨v, hv⟩ : ∃ v, v = rdv zs p k := ⟨_, rfl⟩
      rw [← hv]
      have hvb : 0 ≤ v ∧ v ≤ 9223372036854775807 := hv ▸ rdv_63 zs p k (by omega)
      have HV : Hid (v = rdv zs p k) := hv
      have HZ : Hid (z = zs.getD ((p + k) / 8) 0) := hz
      obtain ⟨q, hq⟩ : ∃ q, q = p + k := ⟨_, rfl⟩
      have HQ : Hid (q = p + k) := hq
      have eq1 : (p : Int) + k = (q : Int) := by omega
      obtain ⟨E, hE⟩ : ∃ E, E = p + wd := ⟨_, rfl⟩
      have eE : (p : Int) + wd = (E : Int) := by omega
      rw [eq1, eE]
      rw [← hq] at hcell HZ
      have hq1 : q < E := by omega
      have hne : ((q : Int) == (E : Int)) = false := by simp; omega
      have hq2 : q / 8 < zs.length := by omega
      have hEb : E ≤ 1125899906842624 := by omega
      obtain ⟨L, hL⟩ : ∃ L, L = zs.length := ⟨_, rfl⟩
      have H2 : Hid ((q : Int) + 1 = (p : Int) + ((k + 1 : Nat) : Int)) := by show _ = _; omega
      have H3 : Hid (bits .or .u64 (v * 2) (IntKind.u64.wrap (bits .and .u8 (z / 2 ^ (7 - q % 8)) 1)) = rdv zs p (k + 1)) := by
        show _ = _
        rw [or_step v z _ hvb.1 hvb.2 hby.1 hby.2, rdv, bitOf, hv, hz, hq]
      have H4 : Hid ((E : Int) = (p : Int) + wd) := eE.symm
      have H5 : Hid (L = zs.length) := hL
      rw [← hL] at hq2 ⊢
      clear hc hr hz hv hq eq1 eE hE hL
      go_wp2
      go_step3
      rw [H2.out, H3.out, H4.out, H5.out, ← HQQ.out]
      refine ⟨rfl, ⟨rfl, k + 1, _, _, _, _, _, _, _, _, _, _, _, _, _, _, _, _, _, _, _, _, _, _, _, rfl, by omega⟩, ?_⟩
      simp [intOf]
      have := HQ.out
      omega
    · have : k = wd := by omega
      subst this
      clear hr
      go_wp2
      rw [← HQQ.out]
      simp only [Exit.jump]
      go_ret
      exact ⟨rfl, rfl⟩
  · intro go_on
    go_wp2
    go_step3
    refine ‹∀ (a : Act) (w : World), Code.wp Tryd.prog _ _ a w → _› _ _ (go_on _ _ ?_)
    exact ⟨rfl, 0, _, _, _, _, _, _, _, _, _, _, _, _, _, _, _, _, _, _, _, _, _, _, _, rfl, Nat.zero_le _⟩
set_option maxHeartbeats 400000 in
theorem read_yes (a : Option Addr) (zs : List Int) (cap : Nat) (n : Int) (p k : Nat) (w : World) (hr : Rd w a zs) (hn : n ≤ 9223372036854775807) (h1 : (zs.length : Int) ≤ 140737488355000) (hy : readB zs n p k = true) :
    Calls Tryd.prog 56 #[.slice a zs.length cap, .int .i64 n, .int .i64 p, .int .i64 k] w fun e w' => e = .returned (.tuple #[.int .u64 (rdv zs p k), .bool true]) ∧ w = w' := by
  obtain ⟨hW, hK, hp0, hp1⟩ := readB_n hy
  have hWn := wholeB_n hW
  have hKn := widthB_n hK
  have H : p + k ≤ 8 * zs.length := by omega
  have H' : k ≤ 64 := by omega
  clear hy
  go_enter Tryd.func56, Tryd.ntmps56
  go_wp2_with (first | (go_at_call 49; refine (whole_any _ _ _ _ _ hr hn).mono ?_; rintro e w' ⟨rfl, rfl⟩) | (go_at_call 59; refine (isWidth_any _ _).mono ?_; rintro e w' ⟨rfl, rfl⟩) | (go_at_call 61; refine (get_any _ _ _ _ _ _ hr H h1 H').mono ?_; rintro e w' ⟨rfl, rfl⟩))
  go_ret2
  exact ⟨rfl, rfl⟩
set_option maxHeartbeats 400000 in
theorem read_no (a : Option Addr) (zs : List Int) (cap : Nat) (n p k : Int) (w : World) (hr : Rd w a zs) (hn : n ≤ 9223372036854775807) (hno : readB zs n p k = false) :
    Calls Tryd.prog 56 #[.slice a zs.length cap, .int .i64 n, .int .i64 p, .int .i64 k] w fun e w' => e = .returned (.tuple #[.int .u64 0, .bool false]) ∧ w = w' := by
  by_cases hW : wholeB zs n = true
  · have hWn := wholeB_n hW
    by_cases hK : widthB k = true
    · have hKn := widthB_n hK
      by_cases hp : p < 0
      · have hd : decide (p < 0) = true := by simpa using hp
        clear hno
        go_enter Tryd.func56, Tryd.ntmps56
        go_wp2_with (first | (go_at_call 49; refine (whole_any _ _ _ _ _ hr hn).mono ?_; rintro e w' ⟨rfl, rfl⟩) | (go_at_call 59; refine (isWidth_any _ _).mono ?_; rintro e w' ⟨rfl, rfl⟩))
        go_ret2
        exact ⟨rfl, rfl⟩
      · have hd : decide (p < 0) = false := by simpa using hp
        have hq : decide (n - k < p) = true := by
          simp [readB, hW, hK] at hno
          simp; omega
        clear hno
        go_enter Tryd.func56, Tryd.ntmps56
        go_wp2_with (first | (go_at_call 49; refine (whole_any _ _ _ _ _ hr hn).mono ?_; rintro e w' ⟨rfl, rfl⟩) | (go_at_call 59; refine (isWidth_any _ _).mono ?_; rintro e w' ⟨rfl, rfl⟩))
        go_ret2
        exact ⟨rfl, rfl⟩
    · have hK' : widthB k = false := by simpa using hK
      clear hno hK
      go_enter Tryd.func56, Tryd.ntmps56
      go_wp2_with (first | (go_at_call 49; refine (whole_any _ _ _ _ _ hr hn).mono ?_; rintro e w' ⟨rfl, rfl⟩) | (go_at_call 59; refine (isWidth_any _ _).mono ?_; rintro e w' ⟨rfl, rfl⟩))
      go_ret2
      exact ⟨rfl, rfl⟩
  · have hW' : wholeB zs n = false := by simpa using hW
    clear hno hW
    go_enter Tryd.func56, Tryd.ntmps56
    go_wp2_with (first | (go_at_call 49; refine (whole_any _ _ _ _ _ hr hn).mono ?_; rintro e w' ⟨rfl, rfl⟩) | (go_at_call 59; refine (isWidth_any _ _).mono ?_; rintro e w' ⟨rfl, rfl⟩))
    go_ret2
    exact ⟨rfl, rfl⟩
end Go.Proofs.YteahhkpbjkcmhaaDoor

/- Setting bits: package bits's put. -/
namespace Go.Proofs.YteahhkpbjkcmhaaDoor
open Go.RowKit
set_option linter.unusedVariables false
theorem put_left (v : Int) (lf : Int) (m : Nat) (h : lf = lft v m) {m' : Nat} (hm : m' = m + 1) : IntKind.u64.wrap (lf * 2) = lft v m' := by
  rw [IntKind.wrap_u64, h, lft_succ, hm]
theorem put_rest {w' : World} {base g L cap : Nat} {zs zk : List Int} {p wd E q : Nat} {v lf z : Int} (hok : Own w' base g L cap zk) (hbk : ∀ i, bitOf zk i = if p ≤ i ∧ i < q then v / 2 ^ (wd - 1 - (i - p)) % 2 else bitOf zs i)
    (h0 : ∀ i, p ≤ i → bitOf zs i = 0) (hEE : E = p + wd) (hq0 : p ≤ q) (hlt : q < E) (hE : p + wd ≤ 8 * L) (hv : 0 ≤ v ∧ v ≤ 18446744073709551615) (hw : wd ≤ 64) (hlf : lf = lft v (64 - wd + (q - p))) (hz : z = zk.getD (q / 8) 0) :
    (0 ≤ bits .or .u8 z (lf / 9223372036854775808 * 2 ^ (7 - q % 8) % 256) ∧ bits .or .u8 z (lf / 9223372036854775808 * 2 ^ (7 - q % 8) % 256) ≤ 255) ∧
    ∀ i, bitOf (zk.set (q / 8) (bits .or .u8 z (lf / 9223372036854775808 * 2 ^ (7 - q % 8) % 256))) i = if p ≤ i ∧ i < q + 1 then v / 2 ^ (wd - 1 - (i - p)) % 2 else bitOf zs i := by
  have hlen := hok.len
  have htop := lft_top v (64 - wd + (q - p)) hv.1 (by omega)
  rw [← hlf] at htop
  have hb01 : lf / 9223372036854775808 = 0 ∨ lf / 9223372036854775808 = 1 := by rw [htop]; omega
  have hpb := put_bit zk q (lf / 9223372036854775808) hok.2 (by omega) hb01 (by rw [hbk, if_neg (by omega)]; exact h0 _ hq0)
  subst hz
  refine ⟨hpb.1, fun i => ?_⟩
  rw [hpb.2 i]
  by_cases hi : i = q
  · subst hi
    rw [if_pos rfl, if_pos (by omega), htop]
    have e : 63 - (64 - wd + (i - p)) = wd - 1 - (i - p) := by omega
    rw [e]
  · rw [if_neg hi, hbk]
    by_cases h1 : p ≤ i ∧ i < q
    · rw [if_pos h1, if_pos (by omega)]
    · rw [if_neg h1, if_neg (by omega)]
set_option maxHeartbeats 400000 in
theorem put_any (base g L cap : Nat) (zs : List Int) (p wd : Nat) (v : Int) (w : World) (ho : Own w base g L cap zs) (hE : p + wd ≤ 8 * L) (hz : L ≤ 140737488355328) (hv : 0 ≤ v ∧ v ≤ 18446744073709551615) (hw : wd ≤ 64) (h0 : ∀ i, p ≤ i → bitOf zs i = 0) :
    Calls Tryd.prog 60 #[.slice (some ⟨g, 0, none⟩) L cap, .int .i64 p, .int .u64 v, .int .i64 wd] w fun e w' => e = .returned (.tuple #[]) ∧
      ∃ zs', Own w' base g L cap zs' ∧ (∀ i, bitOf zs' i = if p ≤ i ∧ i < p + wd then v / 2 ^ (wd - 1 - (i - p)) % 2 else bitOf zs i) ∧ w.grownBy w' (some g) := by
  have HO : Hid (Own w base g L cap zs) := ho
  have H0 : Hid (∀ i, p ≤ i → bitOf zs i = 0) := h0
  clear ho h0
  obtain ⟨E, hEE⟩ : ∃ E, E = p + wd := ⟨_, rfl⟩
  have HEE : Hid (E = p + wd) := hEE
  have HE4 : Hid ((p : Int) + wd = (E : Int)) := by show _ = _; omega
  clear hEE
  go_enter Tryd.func60, Tryd.ntmps60
  go_wp2
  refine wp_scope_from 0 (fun a' w' => ∃ (q : Nat) (zk : List Int) (lf : Int) (u10 u11 u12 u13 u14 u15 u16 u17 u18 u19 u20 u21 u22 u23 u24 u25 u26 u27 u28 u29 u30 u31 u32 u33 u34 u35 u36 u37 : Value), a' = { tmps := #[.slice (some ⟨g, 0, none⟩) L cap, .int .i64 q, .int .u64 v, .int .i64 wd, undef, undef, undef, undef, .int .u64 lf, .int .i64 E, u10, u11, u12, u13, u14, u15, u16, u17, u18, u19, u20, u21, u22, u23, u24, u25, u26, u27, u28, u29, u30, u31, u32, u33, u34, u35, u36, u37], defers := [] } ∧ p ≤ q ∧ q ≤ E ∧ (q < E → lf = lft v (64 - wd + (q - p))) ∧ Own w' base g L cap zk ∧ (∀ i, bitOf zk i = if p ≤ i ∧ i < q then v / 2 ^ (wd - 1 - (i - p)) % 2 else bitOf zs i) ∧ w.grownBy w' (some g)) (fun a' _ => E - (intOf (a'.tmps.getD 1 undef)).toNat) rfl ?_ ?_
  · rintro a' w' ⟨q, zk, lf, u10, u11, u12, u13, u14, u15, u16, u17, u18, u19, u20, u21, u22, u23, u24, u25, u26, u27, u28, u29, u30, u31, u32, u33, u34, u35, u36, u37, rfl, hq0, hq1, hlf, hok, hbk, hgk⟩
    have HOK : Hid (Own w' base g L cap zk) := hok
    have HBK : Hid (∀ i, bitOf zk i = if p ≤ i ∧ i < q then v / 2 ^ (wd - 1 - (i - p)) % 2 else bitOf zs i) := hbk
    have HGK : Hid (w.grownBy w' (some g)) := hgk
    have HLF : Hid (q < E → lf = lft v (64 - wd + (q - p))) := hlf
    clear hok hbk hgk hlf
    by_cases hlt : q < E
    · have hEE := HEE.out
      have hlen := HOK.out.len
      have hcell := HOK.out.cell (q / 8) (by omega)
      have hfr := HOK.out.1.frozenAt (q / 8)
      have hby := HOK.out.rd.byte (q / 8)
      have hlf := HLF.out hlt
      have hlb := lft_bd v (64 - wd + (q - p))
      rw [← hlf] at hlb
      obtain ⟨z, ez⟩ : ∃ z, z = zk.getD (q / 8) 0 := ⟨_, rfl⟩
      rw [← ez] at hcell hby
      have HZ : Hid (z = zk.getD (q / 8) 0) := ez
      have hne : ((q : Int) == (E : Int)) = false := by simp; omega
      have hqL : (q : Int) / 8 < (L : Int) := by omega
      have hqb : q < E ∧ E ≤ 1125899906842624 := by omega
      clear hlf hlen ez hEE
      go_wp2
      go_region
      go_wp2
      go_step3
      refine ⟨rfl, ⟨q + 1, zk.set (q / 8) (bits .or .u8 z (lf / 9223372036854775808 * 2 ^ (7 - q % 8) % 256)), _, _, _, _, _, _, _, _, _, _, _, _, _, _, _, _, _, _, _, _, _, _, _, _, _, _, _, _, _, rfl, by omega, by omega, ?_, ?_, ?_, ?_⟩, ?_⟩
      · exact fun h => put_left v _ _ (HLF.out hlt) (by omega)
      · have hp := put_rest HOK.out HBK.out H0.out HEE.out hq0 hlt hE hv hw (HLF.out hlt) HZ.out
        exact (HOK.out.set (q / 8) _ hp.1).drew
      · have hp := put_rest HOK.out HBK.out H0.out HEE.out hq0 hlt hE hv hw (HLF.out hlt) HZ.out
        exact hp.2
      · exact gb_drew (gb_trans HGK.out (gb_set rfl) (fun j hj => .inr hj))
      · simp [intOf]; omega
    · have : q = E := by omega
      subst this
      go_wp2
      simp only [Exit.jump]
      refine bodyPost_ret (v := .tuple #[]) (by simp [results, Tryd.results60, go_sem]) rfl ⟨rfl, zk, HOK.out, ?_, HGK.out⟩
      intro i
      rw [HBK.out i, HEE.out]
  · intro go_on
    by_cases hw0 : wd = 0
    · subst hw0
      have e : E = p := HEE.out
      subst e
      go_wp2
      go_step3
      refine ‹∀ (a : Act) (w : World), Code.wp Tryd.prog _ _ a w → _› _ _ (go_on _ _ ?_)
      exact ⟨E, zs, _, _, _, _, _, _, _, _, _, _, _, _, _, _, _, _, _, _, _, _, _, _, _, _, _, _, _, _, _, rfl, Nat.le_refl _, Nat.le_refl _, fun h => by omega, HO.out, fun i => by rw [if_neg (by omega)], World.grownBy.refl _ _⟩
    · have hw1 : 0 < wd := by omega
      clear hw0
      go_wp2
      go_step3
      rw [HE4.out]
      have := HEE.out
      refine ‹∀ (a : Act) (w : World), Code.wp Tryd.prog _ _ a w → _› _ _ (go_on _ _ ?_)
      exact ⟨p, zs, _, _, _, _, _, _, _, _, _, _, _, _, _, _, _, _, _, _, _, _, _, _, _, _, _, _, _, _, _, rfl, Nat.le_refl _, by omega, fun h => by rw [IntKind.wrap_u64, Nat.sub_self]; rfl, HO.out, fun i => by rw [if_neg (by omega)], World.grownBy.refl _ _⟩
end Go.Proofs.YteahhkpbjkcmhaaDoor

/- Package bits's Append. -/
namespace Go.Proofs.YteahhkpbjkcmhaaDoor
open Go.RowKit
set_option linter.unusedVariables false
theorem bitOf_pad (zs : List Int) (m i : Nat) : bitOf (zs ++ List.replicate m 0) i = bitOf zs i := by
  unfold bitOf
  have : (zs ++ List.replicate m 0).getD (i / 8) 0 = zs.getD (i / 8) 0 := by
    simp only [List.getD_eq_getElem?_getD]
    by_cases h : i / 8 < zs.length
    · rw [List.getElem?_append_left h]
    · rw [List.getElem?_append_right (by omega), List.getElem?_eq_none (l := zs) (by omega)]
      by_cases h2 : i / 8 - zs.length < m
      · simp [h2]
      · simp [h2]
  rw [this]
theorem whole_clear {zs : List Int} {n : Nat} (h : wholeB zs n = true) : ∀ i, n ≤ i → bitOf zs i = 0 := by
  intro i hi
  by_cases hl : i < 8 * zs.length
  · exact (wholeB_iff zs n (wholeB_n h).2.1).1 h i hi hl
  · exact bitOf_past _ _ (by omega)
theorem app_fin {zs zs' : List Int} {n k N : Nat} {v : Int} (hb : ∀ z ∈ zs', 0 ≤ z ∧ z ≤ 255) (hl : zs'.length = N) (hN : N = (n + k + 7) / 8) (h0 : ∀ i, n ≤ i → bitOf zs i = 0)
    (h : ∀ i, bitOf zs' i = if n ≤ i ∧ i < n + k then v / 2 ^ (k - 1 - (i - n)) % 2 else bitOf zs i) : zs' = app zs n v k := by
  refine app_eq hb (hl.trans hN) fun i => ?_
  rw [h, appBit]
  by_cases h1 : i < n
  · rw [if_pos h1, if_neg (by omega)]
  · rw [if_neg h1]
    by_cases h2 : i < n + k
    · rw [if_pos h2, if_pos (by omega)]
    · rw [if_neg h2, if_neg (by omega)]; exact h0 i (by omega)
set_option maxHeartbeats 1000000 in
theorem append_full (a : Option Addr) (zs : List Int) (cap : Nat) (n k : Nat) (v : Int) (w : World) (hr : Rd w a zs) (hz : zs.length ≤ 140737488351240) (hv : 0 ≤ v ∧ v ≤ 18446744073709551615) (hW : wholeB zs n = true) (hk : k ≤ 64) :
    Calls Tryd.prog 51 #[.slice a zs.length cap, .int .i64 n, .int .u64 v, .int .i64 k] w fun e w' => ∃ g, e = .returned (.tuple #[.slice (some ⟨g, 0, none⟩) ((n + k + 7) / 8) ((n + k + 7) / 8), .int .i64 ((n + k : Nat) : Int), .bool true]) ∧ Own w' w.heap.size g ((n + k + 7) / 8) ((n + k + 7) / 8) (app zs n v k) ∧ w.grownBy w' none := by
  obtain ⟨i0, hi, hz0, hz1, hz2⟩ := info_parts info5
  have hWn := wholeB_n hW
  have hK : widthB k = true := by simp [widthB]; omega
  have hclear := whole_clear hW
  have H0 : Hid (∀ i, n ≤ i → bitOf zs i = 0) := hclear
  have HR : Hid (Rd w a zs) := hr
  obtain ⟨N, hN⟩ : ∃ N, N = (n + k + 7) / 8 := ⟨_, rfl⟩
  have HN : Hid (N = (n + k + 7) / 8) := hN
  rw [← hN]
  have hNb : ((n : Int) + k + 7) / 8 = (N : Int) := by omega
  have HNb : Hid (((n : Int) + k + 7) / 8 = (N : Int)) := hNb
  have hN1 : zs.length ≤ N ∧ N ≤ 140737488351260 ∧ n + k ≤ 8 * N := by omega
  have hn63 : (n : Int) ≤ 9223372036854775807 := by omega
  clear hclear hN hNb
  go_enter Tryd.func51, Tryd.ntmps51
  go_wp2_with (first | (go_at_call 49; refine (whole_any _ _ _ _ _ HR.out hn63).mono ?_; rintro e w' ⟨rfl, rfl⟩) | (go_at_call 59; refine (isWidth_any _ _).mono ?_; rintro e w' ⟨rfl, rfl⟩) | (go_at_call 58; refine (bytesOf_any _ _ (by omega) (by omega)).mono ?_; rintro e w' ⟨rfl, rfl⟩; rw [HNb.out]) | (at_make; refine wpList_make_full _ rfl (.tmp 24) (.tmp 24) 23 rfl w.heap.size 5 i0 (.int .u8 0) 1 Tryd.underlying23 hi hz0 hz1 .i64 .i64 N N N rfl rfl rfl rfl (by rw [hz2]; omega) (by unfold maxLen; omega) (Nat.le_refl _) ?_; intro w1 hown1 hg1; have ho1 := own_made hown1; clear hown1) | (refine wpList_copy_splice rfl (.tmp 26) (.tmp 27) 23 23 rfl 5 Tryd.underlying23 size5 (some ⟨w.heap.size, 0, none⟩) a N N zs.length cap rfl rfl w.heap.size 0 (bs (List.replicate N 0)) 5 ho1.block (bs zs) ((bs_len zs).trans (Nat.min_eq_left hN1.1).symm) (fun h => ⟨rfl, (HR.out.grown hg1 (by simp)).pos h⟩) (by simp [bs_len]; omega) (bs_one zs) w.heap.size w (gb_below hg1) (Nat.le_refl _) ?_; intro w2 hblk hb2; have ho2 := own_spliced hblk hN1.1 HR.out.2 (by omega); have hg2 := below_gb hb2; clear hb2 hblk) | (go_at_call 60; refine (put_any w.heap.size w.heap.size N N (zs ++ List.replicate (N - zs.length) 0) n k v _ ho2 hN1.2.2 (by omega) hv hk (fun i h => by rw [bitOf_pad]; exact H0.out i h)).mono ?_; rintro e w3 ⟨rfl, zf, hof, hbf, hgf⟩))
  go_ret3
  have e := app_fin (zs := zs ++ List.replicate (N - zs.length) 0) hof.2 hof.len HN.out (fun i h => by rw [bitOf_pad]; exact H0.out i h) hbf
  have e2 : app (zs ++ List.replicate (N - zs.length) 0) n v k = app zs n v k := by
    refine app_eq (app_byte _ _ _ _) (app_len _ _ _ _) fun i => ?_
    rw [app_bit]
    simp only [appBit, bitOf_pad]
  rw [e2] at e
  subst e
  exact ⟨w.heap.size, by simp, hof, gb_trans hg2 hgf (fun j hj => .inl (by simp at hj; omega))⟩
theorem append_yes (a : Option Addr) (zs : List Int) (cap : Nat) (n k : Nat) (v : Int) (w : World) (hr : Rd w a zs) (hz : zs.length ≤ 140737488351240) (hv : 0 ≤ v ∧ v ≤ 18446744073709551615) (hW : wholeB zs n = true) (hk : k ≤ 64) :
    Calls Tryd.prog 51 #[.slice a zs.length cap, .int .i64 n, .int .u64 v, .int .i64 k] w fun e w' => ∃ g c, e = .returned (.tuple #[.slice (some ⟨g, 0, none⟩) ((n + k + 7) / 8) c, .int .i64 ((n + k : Nat) : Int), .bool true]) ∧ Own w' w.heap.size g ((n + k + 7) / 8) c (app zs n v k) ∧ w.grownBy w' none := by
  refine (append_full a zs cap n k v w hr hz hv hW hk).mono ?_
  rintro e w' ⟨g, rfl, ho, hg⟩
  exact ⟨g, _, rfl, ho, hg⟩
end Go.Proofs.YteahhkpbjkcmhaaDoor

