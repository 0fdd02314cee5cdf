/- The document's own Quote. -/
import Derived.Test.YtailaehpgmpaaaaRenc
namespace Go.Proofs.Ytailaehpgmpaaaa
open Go.RowKit
set_option linter.unusedVariables false

def q1 (c : Int) : List Int := if c = 34 ∨ c = 92 then [92, c] else if c = 10 then [92, 110] else [c]
def quoteL (zs : List Int) : List Int := [34] ++ zs.flatMap q1 ++ [34]
def quoteR (s : ByteArray) : ByteArray := strOfNums (quoteL (sInts s))
def QAt (s : ByteArray) (k : Nat) (zk : List Int) : Prop := zk = [34] ++ ((sInts s).take k).flatMap q1
theorem q1_len (c : Int) : (q1 c).length ≤ 2 := by unfold q1; split <;> (try split) <;> simp
theorem flat_q1_len (l : List Int) : (l.flatMap q1).length ≤ 2 * l.length := by
  induction l with
  | nil => simp
  | cons a l ih => rw [List.flatMap_cons, List.length_append, List.length_cons]; have := q1_len a; omega
theorem QAt.next {s : ByteArray} {k : Nat} {zk : List Int} (h : QAt s k zk) (hk : k < s.size) : QAt s (k + 1) (zk ++ q1 (byteAt s k)) := by
  unfold QAt at h ⊢
  have hl : k < (sInts s).length := by rw [sInts_len]; exact hk
  rw [h, List.take_add_one, List.getElem?_eq_getElem hl]
  have : byteAt s k = (sInts s)[k] := by
    unfold byteAt
    rw [List.getD_eq_getElem?_getD, List.getElem?_eq_getElem hl]
    rfl
  rw [this, List.flatMap_append]
  simp only [Option.toList_some, List.flatMap_cons, List.flatMap_nil, List.append_nil, List.append_assoc]
theorem QAt.len {s : ByteArray} {k : Nat} {zk : List Int} (h : QAt s k zk) : zk.length ≤ 2 * s.size + 1 := by
  unfold QAt at h
  rw [h, List.length_append]
  have h1 := flat_q1_len ((sInts s).take k)
  rw [List.length_take, sInts_len] at h1
  simp only [List.length_cons, List.length_nil]
  omega

set_option maxHeartbeats 1000000 in
theorem r_quote (s : ByteArray) (w : World) (hs : s.size ≤ 70368744177000) :
    Calls Try.prog 53 #[.string s] w fun e w' => e = .returned (.string (quoteR s)) ∧ w.grownBy w' none := by
  have HO0 : Hid (Own (w.alloc (.cells #[.int .u8 34] 5)) w.heap.size w.heap.size 1 1 [34]) := Own.ofBlock (heap_alloc_new w _) (Nat.le_refl _) rfl (by decide) (by simp)
  have HQ0 : Hid (QAt s 0 [34]) := by show _ = _; simp
  have HE : Hid (∀ zk, QAt s s.size zk → strOfNums (zk ++ [34]) = quoteR s) := by
    intro zk h
    unfold QAt at h
    rw [h, List.take_of_length_le (by rw [sInts_len]; omega)]
    rfl
  generalize quoteR s = R at HE ⊢
  go_enter Try.func53, Try.ntmps53
  go_wp2
  go_loopw [3, 4] (fun t3 t4 wr => ∃ (k g cc N : Nat) (zk : List Int), k ≤ s.size ∧ t4 = .int .i64 k ∧ t3 = .slice (some ⟨g, 0, none⟩) N cc ∧ Own wr w.heap.size g N cc zk ∧ QAt s k zk ∧ w.grownBy wr none) (fun _ t4 _ => s.size - (intOf t4).toNat)
  case atStart => exact ⟨0, w.heap.size, 1, 1, [34], Nat.zero_le _, rfl, rfl, HO0.out, HQ0.out, World.grownBy_alloc w _ none⟩
  case round =>
    obtain ⟨k, g, cc, N, zk, hk, rfl, rfl, ho, hq, hg⟩ := hrel
    have HO : Hid (Own wr w.heap.size g N cc zk) := ho
    have HQ : Hid (QAt s k zk) := hq
    have HG : Hid (w.grownBy wr none) := hg
    have hN : N ≤ 2 * s.size + 1 := by have h1 := ho.len; have h2 := hq.len; omega
    have HGo : Hid (∀ (w2 : World) (o : Obj), (wr.alloc o).grownBy w2 (some g) → w.grownBy w2 none) := fun w2 o h => gb_trans (hg.trans (World.grownBy_alloc wr o none)) h (fun j hj => .inl (by simp at hj; have := ho.ge; omega))
    clear ho hq hg HO0 HQ0
    by_cases hlt : k < s.size
    · have hidx := idx9 s k hlt
      have hb := byteAt_bd s k
      have HN : Hid (QAt s (k + 1) (zk ++ q1 (byteAt s k))) := HQ.out.next hlt
      have hki : (k : Int) < (s.size : Int) := by omega
      generalize byteAt s k = c at hidx hb HN
      by_cases h1 : c = 34
      · subst h1
        have HN2 : Hid (QAt s (k + 1) (zk ++ [92, 34])) := HN.out
        clear HN
        go_wp2_with (at_builtin; refine wpList_append_rd rfl (.tmp 24) (.tmp 28) rfl w.heap.size g N cc zk rfl (HO.out.kept (World.grownBy_alloc wr _ none) (by simp)) (some ⟨wr.heap.size, 0, none⟩) [92, 34] 2 2 rfl rfl (rd_lit wr [92, 34] (by simp)) (by simp) (by omega) ?_; intro g2 c2 w2 ho2 hg2)
        go_roundw
        case rel => exact ⟨k + 1, g2, c2, N + 2, _, by omega, by go_num, rfl, ho2, HN2.out, HGo.out _ _ hg2⟩
        case measure => simp [intOf]; omega
      · have r1 : (c == 34) = false := by simpa using h1
        by_cases h2 : c = 92
        · subst h2
          have HN2 : Hid (QAt s (k + 1) (zk ++ [92, 92])) := HN.out
          clear HN h1
          go_wp2_with (at_builtin; refine wpList_append_rd rfl (.tmp 24) (.tmp 28) rfl w.heap.size g N cc zk rfl (HO.out.kept (World.grownBy_alloc wr _ none) (by simp)) (some ⟨wr.heap.size, 0, none⟩) [92, 92] 2 2 rfl rfl (rd_lit wr [92, 92] (by simp)) (by simp) (by omega) ?_; intro g2 c2 w2 ho2 hg2)
          go_roundw
          case rel => exact ⟨k + 1, g2, c2, N + 2, _, by omega, by go_num, rfl, ho2, HN2.out, HGo.out _ _ hg2⟩
          case measure => simp [intOf]; omega
        · have r2 : (c == 92) = false := by simpa using h2
          by_cases h3 : c = 10
          · subst h3
            have HN2 : Hid (QAt s (k + 1) (zk ++ [92, 110])) := HN.out
            clear HN h1 h2
            go_wp2_with (at_builtin; refine wpList_append_rd rfl (.tmp 32) (.tmp 33) rfl w.heap.size g N cc zk rfl (HO.out.kept (World.grownBy_alloc wr _ none) (by simp)) (some ⟨wr.heap.size, 0, none⟩) [92, 110] 2 2 rfl rfl (rd_lit wr [92, 110] (by simp)) (by simp) (by omega) ?_; intro g2 c2 w2 ho2 hg2)
            go_roundw
            case rel => exact ⟨k + 1, g2, c2, N + 2, _, by omega, by go_num, rfl, ho2, HN2.out, HGo.out _ _ hg2⟩
            case measure => simp [intOf]; omega
          · have r3 : (c == 10) = false := by simpa using h3
            have HN2 : Hid (QAt s (k + 1) (zk ++ [c])) := by
              have h := HN.out
              unfold q1 at h
              rw [if_neg (by omega), if_neg h3] at h
              exact h
            clear HN h1 h2 h3
            go_wp2_with (at_builtin; refine wpList_append_rd rfl (.tmp 15) (.tmp 19) rfl w.heap.size g N cc zk rfl (HO.out.kept (World.grownBy_alloc wr _ none) (by simp)) (some ⟨wr.heap.size, 0, none⟩) [c] 1 1 rfl rfl (rd_one wr c hb) (by simp) (by omega) ?_; intro g2 c2 w2 ho2 hg2)
            go_roundw
            case rel => exact ⟨k + 1, g2, c2, N + 1, _, by omega, by go_num, rfl, ho2, HN2.out, HGo.out _ _ hg2⟩
            case measure => simp [intOf]; omega
    · obtain rfl : k = s.size := by omega
      have HR : Hid (strOfNums (zk ++ [34]) = R) := HE.out zk HQ.out
      have hki : ¬ (s.size : Int) < (s.size : Int) := by omega
      go_wp2_with (at_builtin; refine wpList_append_rd rfl (.tmp 35) (.tmp 36) rfl w.heap.size g N cc zk rfl (HO.out.kept (World.grownBy_alloc wr _ none) (by simp)) (some ⟨wr.heap.size, 0, none⟩) [34] 1 1 rfl rfl (rd_one wr 34 (by omega)) (by simp) (by omega) ?_; intro g2 c2 w2 ho2 hg2; have hcv := conv_rd w2 (some ⟨g2, 0, none⟩) (zk ++ [34]) (N + 1) c2 ho2.rd ho2.len)
      go_ret
      exact ⟨ret_str HR.out, HGo.out _ _ hg2⟩

end Go.Proofs.Ytailaehpgmpaaaa
