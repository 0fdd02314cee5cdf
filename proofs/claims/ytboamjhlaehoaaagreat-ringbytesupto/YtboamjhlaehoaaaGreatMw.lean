/- Several texts in one: Rh. -/
import Derived.Test.YtboamjhlaehoaaaGreatMc
import Derived.Test.YtboamjhlaehoaaaGreatMh
/- Rings: fnv.Sum, laid, insertion sort. -/
namespace Go.Proofs.YtboamjhlaehoaaaGreat
open Go.RowKit
set_option linter.unusedVariables false
set_option maxRecDepth 20000

def fnvStep (h x : Int) : Int := IntKind.u32.wrap (bits .xor .u32 h x * 16777619)
def fnvB (zs : List Int) : Int := zs.foldl fnvStep 2166136261
theorem fnvB_take {zs : List Int} {k : Nat} {x : Int} (h : zs[k]? = some x) : fnvB (zs.take (k + 1)) = fnvStep (fnvB (zs.take k)) x := by
  unfold fnvB
  rw [List.take_add_one, h, List.foldl_append]
  rfl
theorem wrap32_range (x : Int) : 0 ≤ IntKind.u32.wrap x ∧ IntKind.u32.wrap x ≤ 4294967295 := by
  have : IntKind.u32.wrap x = x % 4294967296 := by simp [IntKind.wrap, IntKind.bits, IntKind.signed]
  omega
theorem fnvB_range (zs : List Int) : 0 ≤ fnvB zs ∧ fnvB zs ≤ 4294967295 := by
  rcases List.eq_nil_or_concat zs with rfl | ⟨l, x, rfl⟩
  · simp [fnvB]
  · rw [fnvB, List.concat_eq_append, List.foldl_append]
    exact wrap32_range _
theorem wrap_byte (x : Int) (h : 0 ≤ x ∧ x ≤ 255) : IntKind.u32.wrap x = x := by
  have : IntKind.u32.wrap x = x % 4294967296 := by simp [IntKind.wrap, IntKind.bits, IntKind.signed]
  omega
set_option maxHeartbeats 1000000 in
theorem g_fnv (a : Option Addr) (zs : List Int) (L c : Nat) (w : World) (hr : Rd w a zs) (hL : zs.length = L) (hz : L ≤ 140737488355328) :
    Calls Tryz.prog 47 #[.slice a L c] w fun e w' => e = .returned (.int .u32 (fnvB zs)) ∧ w = w' := by
  have HR : Hid (Rd w a zs) := hr
  have HL : Hid (zs.length = L) := hL
  clear hr hL
  go_enter Tryz.func47, Tryz.ntmps47
  go_wp2
  go_loopw [3, 8] (fun t3 t8 wr => ∃ k : Nat, k ≤ L ∧ t8 = .int .i64 k ∧ t3 = .int .u32 (fnvB (zs.take k)) ∧ w = wr) (fun _ t8 _ => L - (intOf t8).toNat)
  case atStart => exact ⟨0, Nat.zero_le _, rfl, rfl, rfl⟩
  case round =>
    obtain ⟨k, hk, rfl, rfl, rfl⟩ := hrel
    by_cases hlt : k < L
    · have hki : (k : Int) < (L : Int) := by omega
      have hl := HL.out
      obtain ⟨b, off, rfl, hc⟩ := HR.out.at (by omega)
      obtain ⟨x, ex⟩ : ∃ x, zs[k]? = some x := ⟨_, List.getElem?_eq_getElem (by omega)⟩
      have hx : zs.getD k 0 = x := by rw [List.getD_eq_getElem?_getD, ex]; rfl
      have a0 : w.cell? ⟨b, off + k, none⟩ = some (.int .u8 x) := by rw [← hx]; exact hc k (by omega)
      have hb := HR.out.byte k
      rw [hx] at hb
      have hw := wrap_byte x hb
      have EX : Hid (fnvB (zs.take (k + 1)) = fnvStep (fnvB (zs.take k)) x) := fnvB_take ex
      generalize fnvB (zs.take k) = h at EX ⊢
      clear hc ex hx hb hl
      go_wp2
      go_roundw
      case rel => exact ⟨k + 1, by omega, by go_num, by rw [EX.out]; rfl, trivial⟩
      case measure => simp [intOf]; omega
    · obtain rfl : k = L := by omega
      have HT : Hid (fnvB (zs.take k) = fnvB zs) := by show _ = _; rw [List.take_of_length_le (by have := HL.out; omega)]
      go_wp2
      go_ret
      exact ⟨ret_int HT.out, rfl⟩
/-- Numbers in a row. -/
def numE : Elem Int where
  cells x := [.int .u64 x]
  size := 1
  pos := by decide
  len _ := rfl
  one p v h := by
    simp only [List.mem_cons, List.mem_nil_iff, or_false] at h
    rcases h with rfl; rfl
theorem info22 : (Tryz.prog.info? 22).map (fun i => (i.zero, i.size, i.bytes)) = some (some (.int .u64 0), 1, 8) := by kernel_rfl
theorem numT : ElemOf numE Tryz.prog 83 22 8 := by
  obtain ⟨i0, hi, hz0, hz1, hz2⟩ := info_part info22
  exact ⟨Tryz.underlying83, i0, _, hi, hz0, hz1, hz2, rfl⟩
def encAll (vs : List Int) : List Int := vs.flatMap (fun v => enc v.toNat)
theorem encAll_take {vs : List Int} {k : Nat} {x : Int} (h : vs[k]? = some x) : encAll (vs.take (k + 1)) = encAll (vs.take k) ++ enc x.toNat := by
  unfold encAll
  rw [List.take_add_one, h]
  simp
theorem encAll_len (vs : List Int) (h : ∀ v ∈ vs, 0 ≤ v ∧ v ≤ 18446744073709551615) : (encAll vs).length ≤ 10 * vs.length := by
  unfold encAll
  induction vs with
  | nil => simp
  | cons v r ih =>
    have h1 := h v (by simp)
    have h2 := enc_len v.toNat (by omega)
    have h3 := ih (fun v hv => h v (by simp [hv]))
    rw [List.flatMap_cons, List.length_append, List.length_cons]
    omega
set_option maxHeartbeats 1000000 in
theorem g_laid (a : Option Addr) (vs : List Int) (L c : Nat) (w : World) (hr : SRd numE w a vs) (hL : vs.length = L) (hz : L ≤ 1000000) (hv : ∀ v ∈ vs, 0 ≤ v ∧ v ≤ 18446744073709551615) :
    Calls Tryz.prog 48 #[.slice a L c] w fun e w' => ∃ v n, e = .returned v ∧ OwnV w' w.heap.size v n (encAll vs) ∧ w.grownBy w' none := by
  have HR : Hid (SRd numE w a vs) := hr
  have HL : Hid (vs.length = L) := hL
  have HV : Hid (∀ v ∈ vs, 0 ≤ v ∧ v ≤ 18446744073709551615) := hv
  have HO0 : Hid (OwnV w w.heap.size (.slice none 0 0) 0 (encAll (vs.take 0))) := OwnV.nil _ _
  have HLE : Hid (∀ k, (encAll (vs.take k)).length ≤ 10 * L) := fun k => by
    have := encAll_len (vs.take k) (fun v hv' => hv v (List.mem_of_mem_take hv'))
    rw [List.length_take] at this
    omega
  clear hr hL hv
  go_enter Tryz.func48, Tryz.ntmps48
  go_wp2
  go_loopw [3, 8] (fun t3 t8 wr => ∃ k n : Nat, k ≤ L ∧ t8 = .int .i64 k ∧ OwnV wr w.heap.size t3 n (encAll (vs.take k)) ∧ w.grownBy wr none) (fun _ t8 _ => L - (intOf t8).toNat)
  case atStart => exact ⟨0, 0, Nat.zero_le _, rfl, HO0.out, World.grownBy.refl _ _⟩
  case round =>
    obtain ⟨k, n, hk, rfl, ho, hg⟩ := hrel
    have HO : Hid (OwnV wr w.heap.size u3 n (encAll (vs.take k))) := ho
    have HG : Hid (w.grownBy wr none) := hg
    by_cases hlt : k < L
    · have hki : (k : Int) < (L : Int) := by omega
      have hl := HL.out
      obtain ⟨b, off, rfl, hc⟩ := (HR.out.grown hg (by simp)).at (by omega)
      obtain ⟨x, ex⟩ : ∃ x, vs[k]? = some x := ⟨_, List.getElem?_eq_getElem (by omega)⟩
      have a0 : wr.cell? ⟨b, off + k, none⟩ = some (.int .u64 x) := by have := hc k _ 0 _ ex rfl; simpa [numE] using this
      have HC : Hid (Calls Tryz.prog 72 #[.slice none 0 0, .int .u64 x] wr fun e w' => ∃ g c N, e = .returned (.slice (some ⟨g, 0, none⟩) N c) ∧ Own w' wr.heap.size g N c ([] ++ enc x.toNat) ∧ wr.grownBy w' none) := f_putuint none [] 0 0 x wr ⟨.inl rfl, by simp⟩ rfl (fun _ => rfl) (by omega) (HV.out x (List.mem_of_getElem? ex))
      have HEX : Hid (encAll (vs.take (k + 1)) = encAll (vs.take k) ++ enc x.toNat) := encAll_take ex
      have HEN : Hid (1 ≤ (enc x.toNat).length ∧ n + (enc x.toNat).length ≤ 10 * L) := by
        have h1 := HLE.out (k + 1)
        rw [encAll_take ex, List.length_append, ho.len] at h1
        exact ⟨enc_len_pos _, h1⟩
      clear ho hg hc ex hl
      go_wp2_with fail
      refine HC.out.mono ?_
      rintro e w1 ⟨g1, c1, N1, rfl, ho1, hg1⟩
      have hn1 : (enc x.toNat).length = N1 := by have := ho1.len; simpa using this
      have HN1 : Hid (1 ≤ N1 ∧ n + N1 ≤ 10 * L) := by rw [← hn1]; exact HEN.out
      have HR1 : Hid (Rd w1 (some ⟨g1, 0, none⟩) (enc x.toNat)) := by show Rd _ _ _; have := ho1.rd; simpa using this
      have HL1 : Hid ((enc x.toNat).length = N1) := hn1
      have HO1 : Hid (OwnV w1 w.heap.size u3 n (encAll (vs.take k))) := HO.out.kept hg1 (Classical.em _)
      have HG1 : Hid (w.grownBy w1 none) := HG.out.trans hg1
      have HV3 : Hid (∀ j, u3.ownBlock = some j → w.heap.size ≤ j) := fun j hj => (HO.out.block j hj).1
      clear ho1 hg1 hn1
      go_wp2_with (at_builtin; refine wpList_append_v rfl (.tmp 12) (.tmp 14) rfl w.heap.size u3 n _ rfl HO1.out ⟨g1, 0, none⟩ (enc x.toNat) N1 c1 rfl HL1.out HR1.out (by have := HN1.out; omega) (by have := HN1.out; omega) HG1.out.size ?_; intro g2 c2 w2 ho2 hg2)
      go_roundw
      case rel => exact ⟨k + 1, n + N1, by omega, by go_num, by rw [HEX.out]; exact ho2.v, gb_trans HG1.out hg2 (fun j hj => .inl (HV3.out j hj))⟩
      case measure => simp [intOf]; omega
    · obtain rfl : k = L := by omega
      have HT : Hid (encAll (vs.take k) = encAll vs) := by show _ = _; rw [List.take_of_length_le (by have := HL.out; omega)]
      clear ho hg
      go_wp2
      go_ret
      exact ⟨_, n, rfl, by rw [← HT.out]; exact HO.out, HG.out⟩
theorem g_less (x y : Int) (w : World) : Calls Tryz.prog 103 #[.int .u32 x, .int .u32 y] w fun e w' => e = .returned (.bool (decide (x < y))) ∧ w' = w := by
  have ha : (x != x) = false := by simp
  have hb : (y != y) = false := by simp
  go_enter Tryz.func103, Tryz.ntmps103
  go_wp2
  go_ret
  exact ⟨rfl, rfl⟩
/-- Where insertion sort stands. -/
def OrdW (i j : Nat) (l : List Int) : Prop := ∀ p q, p < q → q ≤ i → q ≠ j → l.getD p 0 ≤ l.getD q 0
def swapW (l : List Int) (j : Nat) : List Int := (l.set (j + 1) (l.getD j 0)).set j (l.getD (j + 1) 0)
theorem swapW_perm (l : List Int) (j : Nat) (hj : j + 1 < l.length) : (swapW l j).Perm l := by
  have := @List.set_set_perm Int l (j + 1) j hj (by omega)
  simpa [swapW, List.getD_eq_getElem?_getD, List.getElem?_eq_getElem hj, List.getElem?_eq_getElem (show j < l.length by omega)] using this
theorem swapW_get (l : List Int) (j p : Nat) (hj : j + 1 < l.length) : (swapW l j).getD p 0 = if p = j then l.getD (j + 1) 0 else if p = j + 1 then l.getD j 0 else l.getD p 0 := by
  unfold swapW
  simp only [List.getD_eq_getElem?_getD, List.getElem?_set]
  by_cases h1 : p = j
  · subst h1
    rw [if_pos rfl, if_pos rfl, List.length_set, if_pos (by omega)]
    rfl
  · rw [if_neg (by omega), if_neg h1]
    by_cases h2 : p = j + 1
    · subst h2
      rw [if_pos rfl, if_pos rfl]
      simp [hj]
    · rw [if_neg (by omega), if_neg h2]
theorem OrdW.swap {i j : Nat} {l : List Int} (h : OrdW i (j + 1) l) (hj : j + 1 < l.length) (hlt : l.getD (j + 1) 0 < l.getD j 0) : OrdW i j (swapW l j) := by
  intro p q hpq hqi hqj
  rw [swapW_get l j p hj, swapW_get l j q hj, if_neg hqj]
  by_cases hq : q = j + 1
  · subst hq
    rw [if_pos rfl]
    by_cases hp : p = j
    · rw [if_pos hp]; omega
    · rw [if_neg hp, if_neg (by omega)]
      exact h p j (by omega) (by omega) (by omega)
  · rw [if_neg hq]
    by_cases hp : p = j
    · subst hp
      rw [if_pos rfl]
      exact h (p + 1) q (by omega) hqi hq
    · rw [if_neg hp]
      by_cases hp1 : p = j + 1
      · rw [if_pos hp1]
        exact h j q (by omega) hqi hq
      · rw [if_neg hp1]
        exact h p q hpq hqi hq
theorem OrdW.next {i j : Nat} {l : List Int} (h : OrdW i j l) (hj : j = 0 ∨ l.getD (j - 1) 0 ≤ l.getD j 0) : OrdW (i + 1) (i + 1) l := by
  intro p q hpq hqi hq
  have hq2 : q ≤ i := by omega
  by_cases e : q = j
  · subst e
    rcases hj with h0 | h0
    · omega
    · by_cases e2 : p = q - 1
      · rw [e2]; exact h0
      · exact Int.le_trans (h p (q - 1) (by omega) (by omega) (by omega)) h0
  · exact h p q hpq hq2 e
theorem sown_cellW {w : World} {base g n c : Nat} {l : List Int} (h : SOwn wordE 43 w base (.slice (some ⟨g, 0, none⟩) n c) n l) {k : Nat} (hk : k < n) : w.cell? ⟨g, k, none⟩ = some (.int .u32 (l.getD k 0)) := by
  have hl := SOwn.len h
  obtain ⟨b, o, e, hc⟩ := (SOwn.rd h).at (by omega)
  cases e
  have := hc k l[k] 0 _ (List.getElem?_eq_getElem (by omega)) rfl
  rw [List.getD_eq_getElem?_getD, List.getElem?_eq_getElem (by omega)]
  simpa [wordE] using this
theorem sown_setW {w : World} {base g n c : Nat} {l : List Int} (h : SOwn wordE 43 w base (.slice (some ⟨g, 0, none⟩) n c) n l) {k : Nat} (hk : k < n) (u : Int) : SOwn wordE 43 (w.setCell ⟨g, k, none⟩ (.int .u32 u)) base (.slice (some ⟨g, 0, none⟩) n c) n (l.set k u) := by
  have hl := SOwn.len h
  refine sown_set h ?_
  have := flat_set wordE l k l[k] u 0 (.int .u32 u) (List.getElem?_eq_getElem (by omega)) (by decide) rfl
  simpa [wordE] using this
/-- The row while it is sorted. -/
structure SoAt (w0 w : World) (base g n c : Nat) (l0 l : List Int) : Prop where
  row : SOwn wordE 43 w base (.slice (some ⟨g, 0, none⟩) n c) n l
  perm : l.Perm l0
  gb : w0.grownBy w (some g)
theorem SoAt.swap {w0 w : World} {base g n c : Nat} {l0 l : List Int} (h : SoAt w0 w base g n c l0 l) (j : Nat) (hj : j + 1 < n) : SoAt w0 ((w.setCell ⟨g, j + 1, none⟩ (.int .u32 (l.getD j 0))).setCell ⟨g, j, none⟩ (.int .u32 (l.getD (j + 1) 0))) base g n c l0 (swapW l j) := by
  have hl := SOwn.len h.row
  exact ⟨sown_setW (sown_setW h.row hj _) (by omega) _, (swapW_perm l j (by omega)).trans h.perm, gb_trans (gb_trans h.gb (gb_set (g := g) rfl) (fun k hk => .inr hk)) (gb_set (g := g) rfl) (fun k hk => .inr hk)⟩
theorem SoAt.drew {w0 w : World} {base g n c : Nat} {l0 l : List Int} (h : SoAt w0 w base g n c l0 l) (m : Nat) : SoAt w0 (w.drewN m) base g n c l0 l := ⟨h.row, h.perm, gb_drewR h.gb m⟩
end Go.Proofs.YtboamjhlaehoaaaGreat

