/- Package bits's Append. -/
import Derived.Test.YtmljokpghhfcjaaPut
import Derived.Test.YtmljokpghhfcjaaRefread
namespace Go.Proofs.Ytmljokpghhfcjaa
open Go.RowKit

theorem Own.block {w : World} {base g n : Nat} {zs : List Int} (h : Own w base g n n zs) : w.heap[g]? = some (.cells (bs zs).toArray 5 (0, 0)) := by
  rcases h.1.2 with ⟨h', _⟩ | ⟨g', cap', cur, h', _, hg, _, _, hs, ht⟩
  · simp at h'
  · simp only [Value.slice.injEq, Option.some.injEq, Addr.mk.injEq, and_true, true_and] at h'
    obtain ⟨rfl, rfl⟩ := h'
    rw [hg]
    have : cur = (bs zs).toArray := by
      rw [← ht, List.take_of_length_le (by simp [hs])]
    rw [this]
theorem Own.ofBlock {w : World} {base g n : Nat} {zs : List Int} (h : w.heap[g]? = some (.cells (bs zs).toArray 5 (0, 0))) (hb : base ≤ g) (hn : zs.length = n) (hm : n ≤ maxLen) (hz : ∀ z ∈ zs, 0 ≤ z ∧ z ≤ 255) : Own w base g n n zs :=
  ⟨⟨by rw [bs_len]; omega, .inr ⟨g, n, _, rfl, hb, h, Nat.le_refl _, hm, by simp [bs_len, hn], by rw [List.take_of_length_le (by simp [bs_len, hn])]⟩⟩, hz⟩

theorem bitOf_pad (zs : List Int) (m i : Nat) : bitOf (zs ++ List.replicate m 0) i = bitOf zs i := by
  unfold bitOf
  have : (zs ++ List.replicate m 0).getD (i / 8) 0 = zs.getD (i / 8) 0 := by
    simp only [List.getD_eq_getElem?_getD]
    by_cases h : i / 8 < zs.length
    · rw [List.getElem?_append_left h]
    · rw [List.getElem?_append_right (by omega), List.getElem?_eq_none (l := zs) (by omega)]
      by_cases h2 : i / 8 - zs.length < m
      · simp [h2]
      · simp [h2]
  rw [this]
theorem whole_clear {zs : List Int} {n : Nat} (h : wholeB zs n = true) : ∀ i, n ≤ i → bitOf zs i = 0 := by
  intro i hi
  by_cases hl : i < 8 * zs.length
  · exact (wholeB_iff zs n (wholeB_n h).2.1).1 h i hi hl
  · exact bitOf_past _ _ (by omega)
theorem splice_bs (zs : List Int) (N : Nat) : splice (bs (List.replicate N 0)) 0 (bs zs) = bs (zs ++ List.replicate (N - zs.length) 0) := by
  simp [splice, bs, List.drop_replicate]
theorem pad_byte {zs : List Int} (hz : ∀ z ∈ zs, 0 ≤ z ∧ z ≤ 255) (m : Nat) : ∀ z ∈ zs ++ List.replicate m 0, 0 ≤ z ∧ z ≤ 255 := by
  intro z h
  rcases List.mem_append.1 h with h | h
  · exact hz z h
  · have := List.eq_of_mem_replicate h; omega
theorem size5 : (Try.prog.info? 5).map (·.size) = some 1 := by kernel_rfl
theorem below_gb {w w1 : World} (h : Below w.heap.size w w1) : w.grownBy w1 none := ⟨h.os, h.tape, h.output, h.size, fun k hk _ => h.block k hk⟩
theorem app_fin {zs zs' : List Int} {n k N : Nat} {v : Int} (hb : ∀ z ∈ zs', 0 ≤ z ∧ z ≤ 255) (hl : zs'.length = N) (hN : N = (n + k + 7) / 8) (h0 : ∀ i, n ≤ i → bitOf zs i = 0)
    (h : ∀ i, bitOf zs' i = if n ≤ i ∧ i < n + k then v / 2 ^ (k - 1 - (i - n)) % 2 else bitOf zs i) : zs' = app zs n v k := by
  refine app_eq hb (hl.trans hN) fun i => ?_
  rw [h, appBit]
  by_cases h1 : i < n
  · rw [if_pos h1, if_neg (by omega)]
  · rw [if_neg h1]
    by_cases h2 : i < n + k
    · rw [if_pos h2, if_pos (by omega)]
    · rw [if_neg h2, if_neg (by omega)]; exact h0 i (by omega)

theorem Rd.pos {w : World} {a : Option Addr} {zs : List Int} (h : Rd w a zs) (hz : 0 < (bs zs).length) : ∃ ad, a = some ad ∧ ∀ j v, (bs zs)[j]? = some v → w.cell? (ad.add j) = some v := by
  obtain ⟨b, off, rfl, _⟩ := h.at (by rwa [bs_len] at hz)
  exact ⟨_, rfl, h.news⟩
theorem own_made {w : World} {base g N : Nat} (h : w.ownsRow base 5 1 (.slice (some ⟨g, 0, none⟩) N N) N (madeCells (Value.int .u8 0).cells (N * 1)).toList) : Own w base g N N (List.replicate N 0) := by
  refine ⟨?_, fun z hz => by have := List.eq_of_mem_replicate hz; omega⟩
  have e : (Value.int .u8 0).cells = #[.int .u8 0] := rfl
  rw [e, toList_madeCells_one, Nat.mul_one] at h
  simpa [bs] using h
theorem own_spliced {w : World} {g N : Nat} {zs : List Int} (h : Hid (w.heap[g]? = some (.cells (splice (bs (List.replicate N 0)) 0 (bs zs)).toArray 5 (0, 0)))) (hl : zs.length ≤ N) (hz : ∀ z ∈ zs, 0 ≤ z ∧ z ≤ 255) (hm : N ≤ 281474976710656) : Own w g g N N (zs ++ List.replicate (N - zs.length) 0) := by
  have h' := h.out
  rw [splice_bs] at h'
  exact Own.ofBlock h' (Nat.le_refl _) (by simp; omega) (by unfold maxLen; omega) (pad_byte hz _)

set_option maxHeartbeats 1000000 in
theorem append_full (a : Option Addr) (zs : List Int) (cap : Nat) (n k : Nat) (v : Int) (w : World) (hr : Rd w a zs) (hz : zs.length ≤ 140737488351240) (hv : 0 ≤ v ∧ v ≤ 18446744073709551615) (hW : wholeB zs n = true) (hk : k ≤ 64) :
    Calls Try.prog 10 #[.slice a zs.length cap, .int .i64 n, .int .u64 v, .int .i64 k] w fun e w' => ∃ g, e = .returned (.tuple #[.slice (some ⟨g, 0, none⟩) ((n + k + 7) / 8) ((n + k + 7) / 8), .int .i64 ((n + k : Nat) : Int), .bool true]) ∧ Own w' w.heap.size g ((n + k + 7) / 8) ((n + k + 7) / 8) (app zs n v k) ∧ w.grownBy w' none := by
  obtain ⟨i0, hi, hz0, hz1, hz2⟩ := info_parts info5
  have hWn := wholeB_n hW
  have hK : widthB k = true := by simp [widthB]; omega
  have hclear := whole_clear hW
  have H0 : Hid (∀ i, n ≤ i → bitOf zs i = 0) := hclear
  have HR : Hid (Rd w a zs) := hr
  obtain ⟨N, hN⟩ : ∃ N, N = (n + k + 7) / 8 := ⟨_, rfl⟩
  have HN : Hid (N = (n + k + 7) / 8) := hN
  rw [← hN]
  have hNb : ((n : Int) + k + 7) / 8 = (N : Int) := by omega
  have HNb : Hid (((n : Int) + k + 7) / 8 = (N : Int)) := hNb
  have hN1 : zs.length ≤ N ∧ N ≤ 140737488351260 ∧ n + k ≤ 8 * N := by omega
  have hn63 : (n : Int) ≤ 9223372036854775807 := by omega
  clear hclear hN hNb
  go_enter Try.func10, Try.ntmps10
  go_wp2_with (first | (go_at_call 11; refine (whole_any _ _ _ _ _ HR.out hn63).mono ?_; rintro e w' ⟨rfl, rfl⟩) | (go_at_call 22; refine (isWidth_any _ _).mono ?_; rintro e w' ⟨rfl, rfl⟩) | (go_at_call 23; refine (bytesOf_any _ _ (by omega) (by omega)).mono ?_; rintro e w' ⟨rfl, rfl⟩; rw [HNb.out]) | (at_make; refine wpList_make_full _ rfl (.tmp 24) (.tmp 24) 22 rfl w.heap.size 5 i0 (.int .u8 0) 1 Try.underlying22 hi hz0 hz1 .i64 .i64 N N N rfl rfl rfl rfl (by rw [hz2]; omega) (by unfold maxLen; omega) (Nat.le_refl _) ?_; intro w1 hown1 hg1; have ho1 := own_made hown1; clear hown1) | (refine wpList_copy_splice rfl (.tmp 26) (.tmp 27) 22 22 rfl 5 Try.underlying22 size5 (some ⟨w.heap.size, 0, none⟩) a N N zs.length cap rfl rfl w.heap.size 0 (bs (List.replicate N 0)) 5 ho1.block (bs zs) ((bs_len zs).trans (Nat.min_eq_left hN1.1).symm) (fun h => ⟨rfl, (HR.out.grown hg1 (by simp)).pos h⟩) (by simp [bs_len]; omega) (bs_one zs) w.heap.size w (gb_below hg1) (Nat.le_refl _) ?_; intro w2 hblk hb2; have ho2 := own_spliced hblk hN1.1 HR.out.2 (by omega); have hg2 := below_gb hb2; clear hb2 hblk) | (go_at_call 24; refine (put_any w.heap.size w.heap.size N N (zs ++ List.replicate (N - zs.length) 0) n k v _ ho2 hN1.2.2 (by omega) hv hk (fun i h => by rw [bitOf_pad]; exact H0.out i h)).mono ?_; rintro e w3 ⟨rfl, zf, hof, hbf, hgf⟩))
  go_ret3
  have e := app_fin (zs := zs ++ List.replicate (N - zs.length) 0) hof.2 hof.len HN.out (fun i h => by rw [bitOf_pad]; exact H0.out i h) hbf
  have e2 : app (zs ++ List.replicate (N - zs.length) 0) n v k = app zs n v k := by
    refine app_eq (app_byte _ _ _ _) (app_len _ _ _ _) fun i => ?_
    rw [app_bit]
    simp only [appBit, bitOf_pad]
  rw [e2] at e
  subst e
  exact ⟨w.heap.size, by simp, hof, gb_trans hg2 hgf (fun j hj => .inl (by simp at hj; omega))⟩

theorem append_yes (a : Option Addr) (zs : List Int) (cap : Nat) (n k : Nat) (v : Int) (w : World) (hr : Rd w a zs) (hz : zs.length ≤ 140737488351240) (hv : 0 ≤ v ∧ v ≤ 18446744073709551615) (hW : wholeB zs n = true) (hk : k ≤ 64) :
    Calls Try.prog 10 #[.slice a zs.length cap, .int .i64 n, .int .u64 v, .int .i64 k] w fun e w' => ∃ g c, e = .returned (.tuple #[.slice (some ⟨g, 0, none⟩) ((n + k + 7) / 8) c, .int .i64 ((n + k : Nat) : Int), .bool true]) ∧ Own w' w.heap.size g ((n + k + 7) / 8) c (app zs n v k) ∧ w.grownBy w' none := by
  refine (append_full a zs cap n k v w hr hz hv hW hk).mono ?_
  rintro e w' ⟨g, rfl, ho, hg⟩
  exact ⟨g, _, rfl, ho, hg⟩
end Go.Proofs.Ytmljokpghhfcjaa
