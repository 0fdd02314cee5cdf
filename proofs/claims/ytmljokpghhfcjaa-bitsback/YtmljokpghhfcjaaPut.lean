/- Setting bits: package bits's put. -/
import Derived.Test.YtmljokpghhfcjaaKept
import Derived.Test.YtmljokpghhfcjaaGet
import Derived.Test.YtmljokpghhfcjaaBitmath
namespace Go.Proofs.Ytmljokpghhfcjaa
open Go.RowKit

theorem gb_drew {w w1 : World} {row : Option Nat} (h : w.grownBy w1 row) : w.grownBy w1.drew row := ⟨h.os, h.tape, h.output, h.size, h.block⟩
theorem Own.drew {w : World} {base g n cap : Nat} {zs : List Int} (h : Own w base g n cap zs) : Own w.drew base g n cap zs := h

theorem put_left (v : Int) (lf : Int) (m : Nat) (h : lf = lft v m) {m' : Nat} (hm : m' = m + 1) : IntKind.u64.wrap (lf * 2) = lft v m' := by
  rw [IntKind.wrap_u64, h, lft_succ, hm]

theorem put_rest {w' : World} {base g L cap : Nat} {zs zk : List Int} {p wd E q : Nat} {v lf z : Int} (hok : Own w' base g L cap zk) (hbk : ∀ i, bitOf zk i = if p ≤ i ∧ i < q then v / 2 ^ (wd - 1 - (i - p)) % 2 else bitOf zs i)
    (h0 : ∀ i, p ≤ i → bitOf zs i = 0) (hEE : E = p + wd) (hq0 : p ≤ q) (hlt : q < E) (hE : p + wd ≤ 8 * L) (hv : 0 ≤ v ∧ v ≤ 18446744073709551615) (hw : wd ≤ 64) (hlf : lf = lft v (64 - wd + (q - p))) (hz : z = zk.getD (q / 8) 0) :
    (0 ≤ bits .or .u8 z (lf / 9223372036854775808 * 2 ^ (7 - q % 8) % 256) ∧ bits .or .u8 z (lf / 9223372036854775808 * 2 ^ (7 - q % 8) % 256) ≤ 255) ∧
    ∀ i, bitOf (zk.set (q / 8) (bits .or .u8 z (lf / 9223372036854775808 * 2 ^ (7 - q % 8) % 256))) i = if p ≤ i ∧ i < q + 1 then v / 2 ^ (wd - 1 - (i - p)) % 2 else bitOf zs i := by
  have hlen := hok.len
  have htop := lft_top v (64 - wd + (q - p)) hv.1 (by omega)
  rw [← hlf] at htop
  have hb01 : lf / 9223372036854775808 = 0 ∨ lf / 9223372036854775808 = 1 := by rw [htop]; omega
  have hpb := put_bit zk q (lf / 9223372036854775808) hok.2 (by omega) hb01 (by rw [hbk, if_neg (by omega)]; exact h0 _ hq0)
  subst hz
  refine ⟨hpb.1, fun i => ?_⟩
  rw [hpb.2 i]
  by_cases hi : i = q
  · subst hi
    rw [if_pos rfl, if_pos (by omega), htop]
    have e : 63 - (64 - wd + (i - p)) = wd - 1 - (i - p) := by omega
    rw [e]
  · rw [if_neg hi, hbk]
    by_cases h1 : p ≤ i ∧ i < q
    · rw [if_pos h1, if_pos (by omega)]
    · rw [if_neg h1, if_neg (by omega)]

set_option maxHeartbeats 400000 in
theorem put_any (base g L cap : Nat) (zs : List Int) (p wd : Nat) (v : Int) (w : World) (ho : Own w base g L cap zs) (hE : p + wd ≤ 8 * L) (hz : L ≤ 140737488355328) (hv : 0 ≤ v ∧ v ≤ 18446744073709551615) (hw : wd ≤ 64) (h0 : ∀ i, p ≤ i → bitOf zs i = 0) :
    Calls Try.prog 24 #[.slice (some ⟨g, 0, none⟩) L cap, .int .i64 p, .int .u64 v, .int .i64 wd] w fun e w' => e = .returned (.tuple #[]) ∧
      ∃ zs', Own w' base g L cap zs' ∧ (∀ i, bitOf zs' i = if p ≤ i ∧ i < p + wd then v / 2 ^ (wd - 1 - (i - p)) % 2 else bitOf zs i) ∧ w.grownBy w' (some g) := by
  have HO : Hid (Own w base g L cap zs) := ho
  have H0 : Hid (∀ i, p ≤ i → bitOf zs i = 0) := h0
  clear ho h0
  obtain ⟨E, hEE⟩ : ∃ E, E = p + wd := ⟨_, rfl⟩
  have HEE : Hid (E = p + wd) := hEE
  have HE4 : Hid ((p : Int) + wd = (E : Int)) := by show _ = _; omega
  clear hEE
  go_enter Try.func24, Try.ntmps24
  go_wp2
  refine wp_scope_from 0 (fun a' w' => ∃ (q : Nat) (zk : List Int) (lf : Int) (u10 u11 u12 u13 u14 u15 u16 u17 u18 u19 u20 u21 u22 u23 u24 u25 u26 u27 u28 u29 u30 u31 u32 u33 u34 u35 u36 u37 : Value), a' = { tmps := #[.slice (some ⟨g, 0, none⟩) L cap, .int .i64 q, .int .u64 v, .int .i64 wd, undef, undef, undef, undef, .int .u64 lf, .int .i64 E, u10, u11, u12, u13, u14, u15, u16, u17, u18, u19, u20, u21, u22, u23, u24, u25, u26, u27, u28, u29, u30, u31, u32, u33, u34, u35, u36, u37], defers := [] } ∧ p ≤ q ∧ q ≤ E ∧ (q < E → lf = lft v (64 - wd + (q - p))) ∧ Own w' base g L cap zk ∧ (∀ i, bitOf zk i = if p ≤ i ∧ i < q then v / 2 ^ (wd - 1 - (i - p)) % 2 else bitOf zs i) ∧ w.grownBy w' (some g)) (fun a' _ => E - (intOf (a'.tmps.getD 1 undef)).toNat) rfl ?_ ?_
  · rintro a' w' ⟨q, zk, lf, u10, u11, u12, u13, u14, u15, u16, u17, u18, u19, u20, u21, u22, u23, u24, u25, u26, u27, u28, u29, u30, u31, u32, u33, u34, u35, u36, u37, rfl, hq0, hq1, hlf, hok, hbk, hgk⟩
    have HOK : Hid (Own w' base g L cap zk) := hok
    have HBK : Hid (∀ i, bitOf zk i = if p ≤ i ∧ i < q then v / 2 ^ (wd - 1 - (i - p)) % 2 else bitOf zs i) := hbk
    have HGK : Hid (w.grownBy w' (some g)) := hgk
    have HLF : Hid (q < E → lf = lft v (64 - wd + (q - p))) := hlf
    clear hok hbk hgk hlf
    by_cases hlt : q < E
    · have hEE := HEE.out
      have hlen := HOK.out.len
      have hcell := HOK.out.cell (q / 8) (by omega)
      have hfr := HOK.out.1.frozenAt (q / 8)
      have hby := HOK.out.rd.byte (q / 8)
      have hlf := HLF.out hlt
      have hlb := lft_bd v (64 - wd + (q - p))
      rw [← hlf] at hlb
      obtain ⟨z, ez⟩ : ∃ z, z = zk.getD (q / 8) 0 := ⟨_, rfl⟩
      rw [← ez] at hcell hby
      have HZ : Hid (z = zk.getD (q / 8) 0) := ez
      have hne : ((q : Int) == (E : Int)) = false := by simp; omega
      have hqL : (q : Int) / 8 < (L : Int) := by omega
      have hqb : q < E ∧ E ≤ 1125899906842624 := by omega
      clear hlf hlen ez hEE
      go_wp2
      go_region
      go_wp2
      go_step3
      refine ⟨rfl, ⟨q + 1, zk.set (q / 8) (bits .or .u8 z (lf / 9223372036854775808 * 2 ^ (7 - q % 8) % 256)), _, _, _, _, _, _, _, _, _, _, _, _, _, _, _, _, _, _, _, _, _, _, _, _, _, _, _, _, _, rfl, by omega, by omega, ?_, ?_, ?_, ?_⟩, ?_⟩
      · exact fun h => put_left v _ _ (HLF.out hlt) (by omega)
      · have hp := put_rest HOK.out HBK.out H0.out HEE.out hq0 hlt hE hv hw (HLF.out hlt) HZ.out
        exact (HOK.out.set (q / 8) _ hp.1).drew
      · have hp := put_rest HOK.out HBK.out H0.out HEE.out hq0 hlt hE hv hw (HLF.out hlt) HZ.out
        exact hp.2
      · exact gb_drew (gb_trans HGK.out (gb_set rfl) (fun j hj => .inr hj))
      · simp [intOf]; omega
    · have : q = E := by omega
      subst this
      go_wp2
      simp only [Exit.jump]
      refine bodyPost_ret (v := .tuple #[]) (by simp [results, Try.results24, go_sem]) rfl ⟨rfl, zk, HOK.out, ?_, HGK.out⟩
      intro i
      rw [HBK.out i, HEE.out]
  · intro go_on
    by_cases hw0 : wd = 0
    · subst hw0
      have e : E = p := HEE.out
      subst e
      go_wp2
      go_step3
      refine ‹∀ (a : Act) (w : World), Code.wp Try.prog _ _ a w → _› _ _ (go_on _ _ ?_)
      exact ⟨E, zs, _, _, _, _, _, _, _, _, _, _, _, _, _, _, _, _, _, _, _, _, _, _, _, _, _, _, _, _, _, rfl, Nat.le_refl _, Nat.le_refl _, fun h => by omega, HO.out, fun i => by rw [if_neg (by omega)], World.grownBy.refl _ _⟩
    · have hw1 : 0 < wd := by omega
      clear hw0
      go_wp2
      go_step3
      rw [HE4.out]
      have := HEE.out
      refine ‹∀ (a : Act) (w : World), Code.wp Try.prog _ _ a w → _› _ _ (go_on _ _ ?_)
      exact ⟨p, zs, _, _, _, _, _, _, _, _, _, _, _, _, _, _, _, _, _, _, _, _, _, _, _, _, _, _, _, _, _, rfl, Nat.le_refl _, by omega, fun h => by rw [IntKind.wrap_u64, Nat.sub_self]; rfl, HO.out, fun i => by rw [if_neg (by omega)], World.grownBy.refl _ _⟩
end Go.Proofs.Ytmljokpghhfcjaa
