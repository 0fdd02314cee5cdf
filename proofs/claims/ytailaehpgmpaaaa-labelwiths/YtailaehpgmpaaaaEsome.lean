/- The program's own chosen, Keep, Without. -/
import Derived.Test.YtailaehpgmpaaaaEget
namespace Go.Proofs.Ytailaehpgmpaaaa
open Go.RowKit
set_option linter.unusedVariables false

set_option maxHeartbeats 1000000 in
theorem g_chosen (a b : Option Addr) (ls : List Lab) (ss : List ByteArray) (L M c d : Nat) (keep : Bool) (w : World) (hx : SRd labE w a ls) (hy : SRd strE w b ss) (hL : ls.length = L) (hM : ss.length = M) (hz : L ≤ 4398046511000) (hz2 : M ≤ 8796093022208) :
    Calls Try.prog 61 #[.slice a L c, .slice b M d, .bool keep] w fun e w' => ∃ v n, e = .returned v ∧ SOwn labE 52 w' w.heap.size v n (someR ls ss keep) ∧ w.grownBy w' none := by
  have HX : Hid (SRd labE w a ls) := hx
  have HY : Hid (SRd strE w b ss) := hy
  have HL : Hid (ls.length = L) := hL
  have HM : Hid (ss.length = M) := hM
  clear hx hy hL hM
  go_enter Try.func61, Try.ntmps61
  go_wp2
  go_loopw [7, 12] (fun t7 t8 wr => ∃ k n : Nat, k ≤ L ∧ t8 = .int .i64 k ∧ SOwn labE 52 wr w.heap.size t7 n (someR (ls.take k) ss keep) ∧ w.grownBy wr none) (fun _ t8 _ => L - (intOf t8).toNat)
  case atStart => exact ⟨0, 0, Nat.zero_le _, rfl, by simpa [someR] using SOwn.nil (E := labE) 52 w w.heap.size, World.grownBy.refl _ _⟩
  case round =>
    obtain ⟨k, n, hk, rfl, ho, hg⟩ := hrel
    have HO : Hid (SOwn labE 52 wr w.heap.size u7 n (someR (ls.take k) ss keep)) := ho
    have HG : Hid (w.grownBy wr none) := hg
    have hnl : n ≤ k := by
      have h1 := ho.len
      have h2 := someR_len (ls.take k) ss keep
      rw [List.length_take] at h2
      omega
    clear ho hg
    by_cases hlt : k < L
    · have hl := HL.out
      obtain ⟨b1, off, rfl, hc⟩ := HX.out.at (by omega)
      obtain ⟨⟨s1, s2⟩, ex⟩ : ∃ x, ls[k]? = some x := ⟨_, List.getElem?_eq_getElem (by omega)⟩
      have a0 : wr.cell? ⟨b1, off + k * 2, none⟩ = some (.string s1) := HG.out.cell (hc k _ 0 _ ex rfl) (by simp)
      have a1 : wr.cell? ⟨b1, off + k * 2 + 1, none⟩ = some (.string s2) := by rw [Nat.add_assoc]; exact HG.out.cell (hc k _ 1 _ ex rfl) (by simp)
      have HN : Hid (_ = _) := someR_next (ss := ss) (keep := keep) ex
      have HIn : Hid (∀ o, Calls Try.prog 77 #[.slice b M d, .string s1] (wr.alloc o) fun e w' => e = .returned (.bool (inB ss s1)) ∧ wr.alloc o = w') := fun o => g_contains b ss M d s1 _ _ ((HY.out.grown HG.out (by simp)).grown (World.grownBy_alloc wr o none) (by simp)) HM.out hz2 rfl
      have HO1 : Hid (∀ o, SOwn labE 52 (wr.alloc o) w.heap.size u7 n (someR (ls.take k) ss keep)) := fun o => SOwn.kept HO.out (World.grownBy_alloc wr o none) (Classical.em _)
      have HG1 : Hid (∀ o, w.grownBy (wr.alloc o) none) := fun o => HG.out.trans (World.grownBy_alloc wr o none)
      clear hc ex hl
      generalize inB ss s1 = r at HIn HN
      by_cases h1 : r = keep
      · subst h1
        have HS : Hid (someR (ls.take (k + 1)) ss r = someR (ls.take k) ss r ++ [(s1, s2)]) := by have h := HN.out; rw [if_pos (by simp)] at h; exact h
        clear HN HO HG
        generalize someR (ls.take k) ss r = X at HO1 HS
        cases r
        all_goals
          go_wp2_with fail
          refine (HIn.out _).mono ?_
          rintro e w1 ⟨rfl, ew⟩
          have c0 : w1.cell? ⟨wr.heap.size, 0, none⟩ = some (.string s1) := by rw [← ew, cell_of_row _ wr.heap.size 0 _ _ _ (heap_alloc_new wr _)]; rfl
          have c1 : w1.cell? ⟨wr.heap.size, 1, none⟩ = some (.string s2) := by rw [← ew, cell_of_row _ wr.heap.size 1 _ _ _ (heap_alloc_new wr _)]; rfl
          have HO2 : Hid (SOwn labE 52 w1 w.heap.size u7 n X) := by rw [← ew]; exact HO1.out _
          have HG2 : Hid (w.grownBy w1 none) := by rw [← ew]; exact HG1.out _
          clear ew HO1 HG1
          go_wp2_with (at_builtin; refine wpList_append_s labT rfl (.tmp 22) (.tmp 24) rfl w.heap.size u7 n _ rfl (SOwn.kept HO2.out (World.grownBy_alloc w1 _ none) (Classical.em _)) (some ⟨w1.heap.size, 0, none⟩) [(s1, s2)] 1 1 rfl rfl (llit w1 [(s1, s2)]) (by simp) (by omega) (by unfold maxLen; omega) (Nat.le_trans HG2.out.size (World.grownBy_alloc w1 _ none).size) ?_; intro v2 w2 ho2 hg2 hn2)
          go_roundw
          case rel => exact ⟨k + 1, n + 1, by omega, by go_num, by rw [HS.out]; exact ho2, gb_trans (HG2.out.trans (World.grownBy_alloc w1 _ none)) hg2 (fun j hj => .inl (SOwn.block HO2.out j hj).1)⟩
          case measure => simp [intOf]; omega
      · have HS : Hid (someR (ls.take (k + 1)) ss keep = someR (ls.take k) ss keep) := by have h := HN.out; rw [if_neg (by simpa using h1), List.append_nil] at h; exact h
        have q : (r == keep) = false := by simpa using h1
        clear HN HO HG
        cases r <;> cases keep
        · exact absurd rfl h1
        rotate_left 2
        · exact absurd rfl h1
        all_goals
          clear h1
          go_wp2_with (go_at_call 77; refine (HIn.out _).mono ?_; rintro e w1 ⟨rfl, rfl⟩)
          go_roundw
          case rel => exact ⟨k + 1, n, by omega, by go_num, by rw [HS.out]; exact HO1.out _, HG1.out _⟩
          case measure => simp [intOf]; omega
    · have HS : Hid (someR (ls.take k) ss keep = someR ls ss keep) := by show _ = _; rw [List.take_of_length_le (by have := HL.out; omega)]
      go_wp2
      go_ret
      exact ⟨u7, n, rfl, by rw [← HS.out]; exact HO.out, HG.out⟩
theorem f_keep (a b : Option Addr) (ls : List Lab) (ss : List ByteArray) (L M c d : Nat) (R : List Lab) (w : World) (hx : SRd labE w a ls) (hy : SRd strE w b ss) (hL : ls.length = L) (hM : ss.length = M) (hz : L ≤ 4398046511000) (hz2 : M ≤ 8796093022208) (hR : someR ls ss true = R) :
    Calls Try.prog 31 #[.slice a L c, .slice b M d] w fun e w' => ∃ v n, e = .returned v ∧ SOwn labE 52 w' w.heap.size v n R ∧ w.grownBy w' none := by
  have HC := (by have h := g_chosen a b ls ss L M c d true w hx hy hL hM hz hz2; rw [hR] at h; exact h : Calls Try.prog 61 #[.slice a L c, .slice b M d, .bool true] w fun e w' => ∃ v n, e = .returned v ∧ SOwn labE 52 w' w.heap.size v n R ∧ w.grownBy w' none)
  clear hx hy hL hM hR
  go_enter Try.func31, Try.ntmps31
  go_wp2_with fail
  refine HC.mono ?_
  rintro e w1 ⟨v, n, rfl, ho, hg⟩
  go_wp2
  go_ret
  exact ⟨v, n, rfl, ho, hg⟩
theorem f_without (a b : Option Addr) (ls : List Lab) (ss : List ByteArray) (L M c d : Nat) (R : List Lab) (w : World) (hx : SRd labE w a ls) (hy : SRd strE w b ss) (hL : ls.length = L) (hM : ss.length = M) (hz : L ≤ 4398046511000) (hz2 : M ≤ 8796093022208) (hR : someR ls ss false = R) :
    Calls Try.prog 32 #[.slice a L c, .slice b M d] w fun e w' => ∃ v n, e = .returned v ∧ SOwn labE 52 w' w.heap.size v n R ∧ w.grownBy w' none := by
  have HC := (by have h := g_chosen a b ls ss L M c d false w hx hy hL hM hz hz2; rw [hR] at h; exact h : Calls Try.prog 61 #[.slice a L c, .slice b M d, .bool false] w fun e w' => ∃ v n, e = .returned v ∧ SOwn labE 52 w' w.heap.size v n R ∧ w.grownBy w' none)
  clear hx hy hL hM hR
  go_enter Try.func32, Try.ntmps32
  go_wp2_with fail
  refine HC.mono ?_
  rintro e w1 ⟨v, n, rfl, ho, hg⟩
  go_wp2
  go_ret
  exact ⟨v, n, rfl, ho, hg⟩
end Go.Proofs.Ytailaehpgmpaaaa
