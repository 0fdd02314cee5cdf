/- Append's refusals; the document's own Append. -/
import Derived.Test.YtmljokpghhfcjaaAppend
import Derived.BigRegion
namespace Go.Proofs.Ytmljokpghhfcjaa
open Go.RowKit

set_option maxHeartbeats 400000 in
theorem append_no (a : Option Addr) (zs : List Int) (cap : Nat) (n k v : Int) (w : World) (hr : Rd w a zs) (hn : n ≤ 9223372036854775807) (hno : (wholeB zs n && widthB k) = false) :
    Calls Try.prog 10 #[.slice a zs.length cap, .int .i64 n, .int .u64 v, .int .i64 k] w fun e w' => e = .returned (.tuple #[.slice none 0 0, .int .i64 0, .bool false]) ∧ w = w' := by
  by_cases hW : wholeB zs n = true
  · have hK : widthB k = false := by simpa [hW] using hno
    clear hno
    go_enter Try.func10, Try.ntmps10
    go_wp2_with (first | (go_at_call 11; refine (whole_any _ _ _ _ _ hr hn).mono ?_; rintro e w' ⟨rfl, rfl⟩) | (go_at_call 22; refine (isWidth_any _ _).mono ?_; rintro e w' ⟨rfl, rfl⟩))
    go_ret3
    exact ⟨rfl, rfl⟩
  · have hW' : wholeB zs n = false := by simpa using hW
    clear hno hW
    go_enter Try.func10, Try.ntmps10
    go_wp2_with (first | (go_at_call 11; refine (whole_any _ _ _ _ _ hr hn).mono ?_; rintro e w' ⟨rfl, rfl⟩) | (go_at_call 22; refine (isWidth_any _ _).mono ?_; rintro e w' ⟨rfl, rfl⟩))
    go_ret3
    exact ⟨rfl, rfl⟩

set_option maxHeartbeats 400000 in
theorem rappend_no (a : Option Addr) (zs : List Int) (cap : Nat) (n k v : Int) (w : World) (hr : Rd w a zs) (hz : (zs.length : Int) ≤ 140737488351232) (hn : n ≤ 9223372036854775807) (hno : (wholeB zs n && widthB k) = false) :
    Calls Try.prog 8 #[.slice a zs.length cap, .int .i64 n, .int .u64 v, .int .i64 k] w fun e w' => e = .returned (.tuple #[.slice none 0 0, .int .i64 0, .bool false]) ∧ w = w' := by
  by_cases hW : wholeB zs n = true
  · have hK : widthB k = false := by simpa [hW] using hno
    clear hno
    by_cases h0 : k < 0
    · have d1 : decide (k < 0) = true := by simpa using h0
      go_enter Try.func8, Try.ntmps8
      go_wp2_with (go_at_call 15; refine (rwhole_any _ _ _ _ _ hr hz hn).mono ?_; rintro e w' ⟨rfl, rfl⟩)
      go_ret3
      exact ⟨rfl, rfl⟩
    · have d1 : decide (k < 0) = false := by simpa using h0
      have d2 : decide (64 < k) = true := by simp [widthB] at hK; simp; omega
      go_enter Try.func8, Try.ntmps8
      go_wp2_with (go_at_call 15; refine (rwhole_any _ _ _ _ _ hr hz hn).mono ?_; rintro e w' ⟨rfl, rfl⟩)
      go_ret3
      exact ⟨rfl, rfl⟩
  · have hW' : wholeB zs n = false := by simpa using hW
    clear hno hW
    go_enter Try.func8, Try.ntmps8
    go_wp2_with (go_at_call 15; refine (rwhole_any _ _ _ _ _ hr hz hn).mono ?_; rintro e w' ⟨rfl, rfl⟩)
    go_ret3
    exact ⟨rfl, rfl⟩

/-- append(out, xs...): out is the call's own, xs whatever is read. -/
theorem wpList_append_rd {w : World} {ops : Array Oper} {rest : List Oper} {o : Oper} {a : Act} {Q : Exit → Act → World → Prop} (hgd : o.guard = none) (s x : Operand)
    (ho : o.op = .call { callee := .builtin .append, args := #[s, x], argTypes := #[22, 22] }) (base g0 n c0 : Nat) (xs : List Int) (hs : a.eval s = .slice (some ⟨g0, 0, none⟩) n c0) (hown : Own w base g0 n c0 xs)
    (src : Option Addr) (zs : List Int) (m cap : Nat) (hx : a.eval x = .slice src m cap) (hm : zs.length = m) (hr : Rd w src zs) (hnil : src = none → cap = 0) (hlen : n + m ≤ 140737488355328)
    (h : ∀ g c w', Own w' base g (n + m) c (xs ++ zs) → w.grownBy w' (some g0) → wpList Try.prog ops Q rest (a.put o.dst (.slice (some ⟨g, 0, none⟩) (n + m) c)) w') : wpList Try.prog ops Q (o :: rest) a w := by
  obtain ⟨i0, hi, hz0, hz1, hz2⟩ := info_parts info5
  subst hm
  cases src with
  | none =>
    obtain rfl := hnil rfl
    obtain rfl := hr.none
    refine wpList_append_own_none hgd s x 22 ho base 5 i0 1 Try.underlying22 hi _ n (bs xs) hs hown.1 hx ?_
    have := h g0 c0 w (by simpa using hown) (World.grownBy.refl _ _)
    simpa using this
  | some ad =>
    have hge := hown.ge
    refine wpList_append_own _ hgd s x 22 ho base 5 i0 (.int .u8 0) 1 1 Try.underlying22 hi hz0 hz1 hz2 rfl (by decide) _ n (bs xs) hs hown.1 ad zs.length cap (bs zs) hx (by rw [bs_len]; omega) hr.news (bs_one zs) (by unfold maxLen; omega) (by omega) (by omega) ?_
    intro v' w' hown' hg hne
    rw [← bs_app] at hown'
    obtain ⟨g, c, rfl, ho'⟩ := Own.of hown' (fun h => by simpa using hne.1 h) (fun z hz => by
      rcases List.mem_append.1 hz with h1 | h1
      · exact hown.2 z h1
      · exact hr.2 z h1)
    exact h g c w' ho' hg

theorem and_one64 (a : Int) (h0 : 0 ≤ a) (h1 : a ≤ 18446744073709551615) : bits .and .u64 a 1 % 256 = a % 2 := by
  rw [u64_and _ _ h0 (by omega) (by decide) (by decide)]
  have : (1 : Int).toNat = 1 := rfl
  rw [this, nat_mask1]
  omega
theorem shr_bd (v : Int) (s : Nat) (h : 0 ≤ v ∧ v ≤ 18446744073709551615) : 0 ≤ v / 2 ^ s ∧ v / 2 ^ s ≤ 18446744073709551615 := by
  have hp : (0 : Int) < 2 ^ s := Int.pow_pos (by decide)
  have := Int.ediv_le_self (2 ^ s) h.1
  exact ⟨Int.ediv_nonneg h.1 (Int.le_of_lt hp), by omega⟩

theorem ref_rest {zs zk : List Int} {n m j k L : Nat} {v z : Int} (hz : ∀ z ∈ zk, 0 ≤ z ∧ z ≤ 255) (hlen : zk.length = L) (hbk : ∀ i, bitOf zk i = if i < n then bitOf zs i else if i < m then v / 2 ^ (k - 1 - (i - n)) % 2 else 0)
    (hmj : m + j = n + k) (hjk : j ≤ k) (hj : 0 < j) (hm : m / 8 < L) (hv : 0 ≤ v ∧ v ≤ 18446744073709551615) (ez : z = zk.getD (m / 8) 0) :
    (0 ≤ bits .or .u8 z (bits .and .u64 (v / 2 ^ (j - 1)) 1 % 256 * 2 ^ (7 - m % 8) % 256) ∧ bits .or .u8 z (bits .and .u64 (v / 2 ^ (j - 1)) 1 % 256 * 2 ^ (7 - m % 8) % 256) ≤ 255) ∧
    ∀ i, bitOf (zk.set (m / 8) (bits .or .u8 z (bits .and .u64 (v / 2 ^ (j - 1)) 1 % 256 * 2 ^ (7 - m % 8) % 256))) i = if i < n then bitOf zs i else if i < m + 1 then v / 2 ^ (k - 1 - (i - n)) % 2 else 0 := by
  have hb := shr_bd v (j - 1) hv
  rw [and_one64 _ hb.1 hb.2]
  subst ez
  have hpb := put_bit zk m (v / 2 ^ (j - 1) % 2) hz (by omega) (by omega) (by rw [hbk, if_neg (by omega), if_neg (by omega)])
  refine ⟨hpb.1, fun i => ?_⟩
  rw [hpb.2 i]
  by_cases hi : i = m
  · subst hi
    rw [if_pos rfl, if_neg (by omega), if_pos (by omega)]
    have e : k - 1 - (i - n) = j - 1 := by omega
    rw [e]
  · rw [if_neg hi, hbk]
    by_cases h1 : i < n
    · rw [if_pos h1, if_pos h1]
    · rw [if_neg h1, if_neg h1]
      by_cases h2 : i < m
      · rw [if_pos h2, if_pos (by omega)]
      · rw [if_neg h2, if_neg (by omega)]

set_option maxHeartbeats 1000000 in
theorem rappend_yes (a : Option Addr) (zs : List Int) (cap : Nat) (n k : Nat) (v : Int) (w : World) (hr : Rd w a zs) (hnil : a = none → cap = 0) (hz : zs.length ≤ 140737488351232) (hv : 0 ≤ v ∧ v ≤ 18446744073709551615) (hW : wholeB zs n = true) (hk : k ≤ 64) :
    Calls Try.prog 8 #[.slice a zs.length cap, .int .i64 n, .int .u64 v, .int .i64 k] w fun e w' => ∃ g c, e = .returned (.tuple #[.slice (some ⟨g, 0, none⟩) ((n + k + 7) / 8) c, .int .i64 ((n + k : Nat) : Int), .bool true]) ∧ Own w' w.heap.size g ((n + k + 7) / 8) c (app zs n v k) ∧ w.grownBy w' none := by
  obtain ⟨i0, hi, hz0, hz1, hz2⟩ := info_parts info5
  have hWn := wholeB_n hW
  have d1 : decide ((k : Int) < 0) = false := by simp
  have d2 : decide ((64 : Int) < (k : Int)) = false := by simp; omega
  have hclear := whole_clear hW
  have H0 : Hid (∀ i, n ≤ i → bitOf zs i = 0) := hclear
  have HR : Hid (Rd w a zs) := hr
  have hn63 : (n : Int) ≤ 9223372036854775807 := by omega
  have hzi : (zs.length : Int) ≤ 140737488351232 := by omega
  clear hclear
  go_enter Try.func8, Try.ntmps8
  go_wp2_with (first | (go_at_call 15; refine (rwhole_any _ _ _ _ _ hr hzi hn63).mono ?_; rintro e w' ⟨rfl, rfl⟩) | (at_builtin; refine wpList_append_rd rfl (.tmp 25) (.tmp 26) rfl w.heap.size w.heap.size 0 0 [] rfl (own_empty w) a zs zs.length cap rfl rfl (HR.out.grown (World.grownBy_alloc w _ none) (by simp)) hnil (by omega) ?_; intro g1 c1 w1 ho1 hg1))
  have HO1 : Hid (Own w1 w.heap.size g1 zs.length c1 zs) := by
    have := ho1
    rw [List.nil_append, Nat.zero_add] at this
    exact this
  have HG1 : Hid (w.grownBy w1 none) := gb_trans (World.grownBy_alloc w _ none) hg1 (fun j hj => .inl (by simp at hj; omega))
  have HN0 : Hid (zs.length = (n + 7) / 8) := by show _ = _; omega
  clear ho1 hg1 hr
  go_loopw [1, 11, 12] (fun t1 t11 t12 wr => ∃ m j L g c : Nat, ∃ zk : List Int, m + j = n + k ∧ j ≤ k ∧ t1 = .int .i64 m ∧ t12 = .int .i64 ((j : Int) - 1) ∧ t11 = .slice (some ⟨g, 0, none⟩) L c ∧ L = (m + 7) / 8 ∧ Own wr w.heap.size g L c zk ∧
      (∀ i, bitOf zk i = if i < n then bitOf zs i else if i < m then v / 2 ^ (k - 1 - (i - n)) % 2 else 0) ∧ w.grownBy wr none) (fun _ _ t12 _ => (intOf t12 + 1).toNat)
  case atStart => exact ⟨n, k, _, g1, c1, zs, rfl, Nat.le_refl _, rfl, rfl, rfl, HN0.out, HO1.out, fun i => by
    by_cases h1 : i < n
    · rw [if_pos h1]
    · rw [if_neg h1, if_neg h1]; exact H0.out i (by omega), HG1.out⟩
  case round =>
    obtain ⟨m, j, L, g, c, zk, hmj, hj, rfl, rfl, rfl, hL, ho, hbits, hgr⟩ := hrel
    have HO : Hid (Own wr w.heap.size g L c zk) := ho
    have HB : Hid (∀ i, bitOf zk i = if i < n then bitOf zs i else if i < m then v / 2 ^ (k - 1 - (i - n)) % 2 else 0) := hbits
    have HG : Hid (w.grownBy wr none) := hgr
    have HL : Hid (L = (m + 7) / 8) := hL
    have HMJ : Hid (m + j = n + k) := hmj
    have hmb : m ≤ 1125899906842000 := by omega
    clear HO1 HG1 ho hbits hgr hnil HR
    by_cases hj0 : 0 < j
    · by_cases h8 : m % 8 = 0
      · have hd8 : ((m : Int) % 8 == 0) = true := by simp; omega
        have hL8 : L = m / 8 := by omega
        have HL8 : Hid (L = m / 8) := hL8
        have hLL : m / 8 < L + 1 := by omega
        have hLi : (m : Int) / 8 < (L : Int) + 1 := by omega
        have hLb : L ≤ 140737488355000 := by omega
        clear hL hL8 h8 hWn
        go_wp2_with (at_builtin; refine wpList_append_rd rfl (.tmp 37) (.tmp 38) rfl w.heap.size g L c zk rfl (HO.out.kept (World.grownBy_alloc wr _ none) (by simp)) (some ⟨wr.heap.size, 0, none⟩) [0] 1 1 rfl rfl (rd_lit wr [0] (by simp)) (by simp) (by omega) ?_; intro g2 c2 w2 ho2 hg2; have hcell := ho2.cell (m / 8) hLL; have hfr := ho2.1.frozenAt (m / 8); have hby := ho2.rd.byte (m / 8); obtain ⟨z, ez⟩ : ∃ z, z = (zk ++ [0]).getD (m / 8) 0 := ⟨_, rfl⟩; rw [← ez] at hcell hby; have HZ : Hid (z = (zk ++ [0]).getD (m / 8) 0) := ez; have HO2 : Hid (Own w2 w.heap.size g2 (L + 1) c2 (zk ++ [0])) := ho2; have HG2 : Hid (w.grownBy w2 none) := gb_trans (gb_trans HG.out (World.grownBy_alloc wr _ none) (by simp)) hg2 (fun i hi => .inl (by simp at hi; have := HO.out.ge; omega)); clear ez ho2 hg2)
        go_region
        go_wp2
        have hp := ref_rest (zs := zs) (zk := zk ++ [0]) HO2.out.2 HO2.out.len (fun i => (bitOf_pad zk 1 i).trans (HB.out i)) hmj hj hj0 hLL hv HZ.out
        go_roundw
        case rel => exact ⟨m + 1, j - 1, L + 1, g2, c2, _, by omega, by omega, by go_num, by go_num, rfl, by have := HL8.out; have : ((m : Int) % 8 == 0) = true := hd8; simp at this; omega, (HO2.out.set (m / 8) _ hp.1).drew, hp.2, gb_drew (gb_trans HG2.out (gb_set rfl) (fun i hi => .inl (by simp at hi; have := HO2.out.ge; omega)))⟩
        case measure => simp [intOf]; omega
      · have hd8 : ((m : Int) % 8 == 0) = false := by simp; omega
        have hL8 : L = m / 8 + 1 := by omega
        have HL8 : Hid (L = m / 8 + 1) := hL8
        have hLL : m / 8 < L := by omega
        have hLi : (m : Int) / 8 < (L : Int) := by omega
        clear hL hL8 h8 hWn
        have hcell := HO.out.cell (m / 8) hLL
        have hfr := HO.out.1.frozenAt (m / 8)
        have hby := HO.out.rd.byte (m / 8)
        obtain ⟨z, ez⟩ : ∃ z, z = zk.getD (m / 8) 0 := ⟨_, rfl⟩
        rw [← ez] at hcell hby
        have HZ : Hid (z = zk.getD (m / 8) 0) := ez
        clear ez
        go_wp2
        go_region
        go_wp2
        have hp := ref_rest (zs := zs) HO.out.2 HO.out.len HB.out hmj hj hj0 hLL hv HZ.out
        go_roundw
        case rel => exact ⟨m + 1, j - 1, L, g, c, _, by omega, by omega, by go_num, by go_num, rfl, by have := HL8.out; have : ((m : Int) % 8 == 0) = false := hd8; simp at this; omega, (HO.out.set (m / 8) _ hp.1).drew, hp.2, gb_drew (gb_trans HG.out (gb_set rfl) (fun i hi => .inl (by simp at hi; have := HO.out.ge; omega)))⟩
        case measure => simp [intOf]; omega
    · have hj1 : j = 0 := by omega
      subst hj1
      have hm : m = n + k := by omega
      subst hm
      clear hWn hL hmj
      go_wp2
      go_ret3
      have e := app_eq (zs := zs) (v := v) HO.out.2 (HO.out.len.trans HL.out) HB.out
      have e2 := HL.out
      subst e
      subst e2
      exact ⟨g, c, by simp, HO.out, HG.out⟩
end Go.Proofs.Ytmljokpghhfcjaa
