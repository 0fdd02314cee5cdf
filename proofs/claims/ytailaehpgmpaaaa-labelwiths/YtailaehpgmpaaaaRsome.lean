/- The document's own calls of layer 3: Get, in, Some, With. -/
import Derived.Test.YtailaehpgmpaaaaRlab
namespace Go.Proofs.Ytailaehpgmpaaaa
open Go.RowKit
set_option linter.unusedVariables false

theorem ret_str {a b : ByteArray} (h : a = b) : Ending.returned (.string a) = .returned (.string b) := by rw [h]
def getR : List Lab → ByteArray → ByteArray
  | [], _ => ⟨#[]⟩
  | p :: r, n => if p.1 = n then p.2 else getR r n
def GetAt (ls : List Lab) (n : ByteArray) (k : Nat) (R : ByteArray) : Prop := getR (ls.drop k) n = R
theorem GetAt.next {ls : List Lab} {n R : ByteArray} {k : Nat} {p : Lab} (h : GetAt ls n k R) (hp : ls[k]? = some p) : (if p.1 = n then p.2 else getR (ls.drop (k + 1)) n) = R := by
  unfold GetAt at h
  obtain ⟨h1, h2⟩ := List.getElem?_eq_some_iff.1 hp
  rw [List.drop_eq_getElem_cons h1, h2, getR] at h
  exact h

theorem r_get (a : Option Addr) (ls : List Lab) (L c : Nat) (n R : ByteArray) (w : World) (hx : SRd labE w a ls) (hL : ls.length = L) (hz : L ≤ 4398046511104) (hR : getR ls n = R) :
    Calls Try.prog 34 #[.slice a L c, .string n] w fun e w' => e = .returned (.string R) ∧ w = w' := by
  have HX : Hid (SRd labE w a ls) := hx
  have HL : Hid (ls.length = L) := hL
  have H0 : Hid (GetAt ls n 0 R) := hR
  clear hx hL hR
  go_enter Try.func34, Try.ntmps34
  go_wp2
  go_loop [5] (fun i => ∃ k : Nat, k ≤ L ∧ i = .int .i64 k ∧ GetAt ls n k R) (fun i => L - (intOf i).toNat)
  case atStart => exact ⟨0, Nat.zero_le _, rfl, H0.out⟩
  case round =>
    obtain ⟨k, hk, rfl, hg⟩ := hrel
    have HG : Hid (GetAt ls n k R) := hg
    clear hg H0
    by_cases hlt : k < L
    · have hl := HL.out
      obtain ⟨b, off, rfl, hc⟩ := HX.out.at (by omega)
      obtain ⟨⟨s1, s2⟩, ex⟩ : ∃ x, ls[k]? = some x := ⟨_, List.getElem?_eq_getElem (by omega)⟩
      have a0 : w.cell? ⟨b, off + k * 2, none⟩ = some (.string s1) := hc k _ 0 _ ex rfl
      have a1 : w.cell? ⟨b, off + k * 2 + 1, none⟩ = some (.string s2) := by rw [Nat.add_assoc]; exact hc k _ 1 _ ex rfl
      have HN : Hid (_ = R) := HG.out.next ex
      clear hc ex hl
      by_cases h1 : s1 = n
      · have q : (s1.toList == n.toList) = true := by rw [str_eq]; simpa using h1
        have HS : Hid (s2 = R) := by have h := HN.out; rw [if_pos h1] at h; exact h
        clear h1 HN
        go_wp2
        go_ret
        exact ⟨ret_str HS.out, rfl⟩
      · have q : (s1.toList == n.toList) = false := by rw [str_eq]; simpa using h1
        have HS : Hid (GetAt ls n (k + 1) R) := by have h := HN.out; rw [if_neg h1] at h; exact h
        clear h1 HN
        go_wp2
        go_round
        case rel => exact ⟨k + 1, by omega, by go_num, HS.out⟩
        case measure => simp [intOf]; omega
    · have HS : Hid ((⟨#[]⟩ : ByteArray) = R) := by
        have h := HG.out
        unfold GetAt at h
        rw [List.drop_eq_nil_of_le (by have := HL.out; omega), getR] at h
        exact h
      go_wp2
      go_ret
      exact ⟨ret_str HS.out, rfl⟩

def inB (ss : List ByteArray) (s : ByteArray) : Bool := ss.any (fun t => decide (t = s))
def InAt (ss : List ByteArray) (s : ByteArray) (k : Nat) (R : Bool) : Prop := inB (ss.drop k) s = R
theorem r_in (a : Option Addr) (ss : List ByteArray) (L c : Nat) (s : ByteArray) (R : Bool) (w : World) (hx : SRd strE w a ss) (hL : ss.length = L) (hz : L ≤ 8796093022208) (hR : inB ss s = R) :
    Calls Try.prog 63 #[.slice a L c, .string s] w fun e w' => e = .returned (.bool R) ∧ w = w' := by
  have HX : Hid (SRd strE w a ss) := hx
  have HL : Hid (ss.length = L) := hL
  have H0 : Hid (InAt ss s 0 R) := hR
  clear hx hL hR
  go_enter Try.func63, Try.ntmps63
  go_wp2
  go_loop [5] (fun i => ∃ k : Nat, k ≤ L ∧ i = .int .i64 k ∧ InAt ss s k R) (fun i => L - (intOf i).toNat)
  case atStart => exact ⟨0, Nat.zero_le _, rfl, H0.out⟩
  case round =>
    obtain ⟨k, hk, rfl, hg⟩ := hrel
    have HG : Hid (InAt ss s k R) := hg
    clear hg H0
    by_cases hlt : k < L
    · have hl := HL.out
      obtain ⟨b, off, rfl, hc⟩ := HX.out.at (by omega)
      obtain ⟨t, ex⟩ : ∃ x, ss[k]? = some x := ⟨_, List.getElem?_eq_getElem (by omega)⟩
      have a0 : w.cell? ⟨b, off + k, none⟩ = some (.string t) := by have := hc k _ 0 _ ex rfl; rwa [show k * strE.size + 0 = k from Nat.mul_one k] at this
      have HN : Hid ((decide (t = s) || inB (ss.drop (k + 1)) s) = R) := by
        have h := HG.out
        unfold InAt inB at h
        obtain ⟨h1, h2⟩ := List.getElem?_eq_some_iff.1 ex
        rw [List.drop_eq_getElem_cons h1, h2, List.any_cons] at h
        exact h
      clear hc ex hl
      by_cases h1 : t = s
      · have q : (t.toList == s.toList) = true := by rw [str_eq]; simpa using h1
        have HS : Hid (true = R) := by have h := HN.out; show _ = _; rw [← h]; simp [h1]
        clear h1 HN
        go_wp2
        go_ret
        exact ⟨ret_bool HS.out, rfl⟩
      · have q : (t.toList == s.toList) = false := by rw [str_eq]; simpa using h1
        have HS : Hid (InAt ss s (k + 1) R) := by
          have h := HN.out
          show inB _ _ = R
          rw [← h]
          simp [h1]
        clear h1 HN
        go_wp2
        go_round
        case rel => exact ⟨k + 1, by omega, by go_num, HS.out⟩
        case measure => simp [intOf]; omega
    · have HS : Hid (false = R) := by
        have h := HG.out
        unfold InAt at h
        rw [List.drop_eq_nil_of_le (by have := HL.out; omega)] at h
        show _ = _
        rw [← h]; rfl
      go_wp2
      go_ret
      exact ⟨ret_bool HS.out, rfl⟩

def someR (ls : List Lab) (ss : List ByteArray) (keep : Bool) : List Lab := ls.filter (fun p => inB ss p.1 == keep)
theorem someR_next {ls : List Lab} {ss : List ByteArray} {keep : Bool} {k : Nat} {p : Lab} (hp : ls[k]? = some p) : someR (ls.take (k + 1)) ss keep = someR (ls.take k) ss keep ++ (if inB ss p.1 == keep then [p] else []) := by
  unfold someR
  rw [List.take_add_one, hp, List.filter_append]
  simp only [Option.toList_some, List.filter_cons, List.filter_nil]
theorem someR_len (ls : List Lab) (ss : List ByteArray) (keep : Bool) : (someR ls ss keep).length ≤ ls.length := List.length_filter_le _ _

set_option maxHeartbeats 1000000 in
theorem r_some (a b : Option Addr) (ls : List Lab) (ss : List ByteArray) (L M c d : Nat) (keep : Bool) (w : World) (hx : SRd labE w a ls) (hy : SRd strE w b ss) (hL : ls.length = L) (hM : ss.length = M) (hz : L ≤ 4398046511000) (hz2 : M ≤ 8796093022208) :
    Calls Try.prog 36 #[.slice a L c, .slice b M d, .bool keep] w fun e w' => ∃ v n, e = .returned v ∧ SOwn labE 52 w' w.heap.size v n (someR ls ss keep) ∧ w.grownBy w' none := by
  have HX : Hid (SRd labE w a ls) := hx
  have HY : Hid (SRd strE w b ss) := hy
  have HL : Hid (ls.length = L) := hL
  have HM : Hid (ss.length = M) := hM
  clear hx hy hL hM
  go_enter Try.func36, Try.ntmps36
  go_wp2
  go_loopw [7, 8] (fun t7 t8 wr => ∃ k n : Nat, k ≤ L ∧ t8 = .int .i64 k ∧ SOwn labE 52 wr w.heap.size t7 n (someR (ls.take k) ss keep) ∧ w.grownBy wr none) (fun _ t8 _ => L - (intOf t8).toNat)
  case atStart => exact ⟨0, 0, Nat.zero_le _, rfl, by simpa [someR] using SOwn.nil (E := labE) 52 w w.heap.size, World.grownBy.refl _ _⟩
  case round =>
    obtain ⟨k, n, hk, rfl, ho, hg⟩ := hrel
    have HO : Hid (SOwn labE 52 wr w.heap.size u7 n (someR (ls.take k) ss keep)) := ho
    have HG : Hid (w.grownBy wr none) := hg
    have hnl : n ≤ k := by
      have h1 := ho.len
      have h2 := someR_len (ls.take k) ss keep
      rw [List.length_take] at h2
      omega
    clear ho hg
    by_cases hlt : k < L
    · have hl := HL.out
      obtain ⟨b1, off, rfl, hc⟩ := HX.out.at (by omega)
      obtain ⟨⟨s1, s2⟩, ex⟩ : ∃ x, ls[k]? = some x := ⟨_, List.getElem?_eq_getElem (by omega)⟩
      have a0 : wr.cell? ⟨b1, off + k * 2, none⟩ = some (.string s1) := HG.out.cell (hc k _ 0 _ ex rfl) (by simp)
      have a1 : wr.cell? ⟨b1, off + k * 2 + 1, none⟩ = some (.string s2) := by rw [Nat.add_assoc]; exact HG.out.cell (hc k _ 1 _ ex rfl) (by simp)
      have HN : Hid (_ = _) := someR_next (ss := ss) (keep := keep) ex
      have HI := r_in b ss M d s1 _ wr (HY.out.grown HG.out (by simp)) HM.out hz2 rfl
      have HIn : Hid (Calls Try.prog 63 #[.slice b M d, .string s1] wr fun e w' => e = .returned (.bool (inB ss s1)) ∧ wr = w') := HI
      clear hc ex hl HI
      generalize inB ss s1 = r at HIn HN
      by_cases h1 : r = keep
      · subst h1
        have HS : Hid (someR (ls.take (k + 1)) ss r = someR (ls.take k) ss r ++ [(s1, s2)]) := by have h := HN.out; rw [if_pos (by simp)] at h; exact h
        have HW : Hid (w.heap.size ≤ wr.heap.size) := HG.out.size
        clear HN
        cases r
        all_goals
          go_wp2_with (first | (go_at_call 63; refine HIn.out.mono ?_; rintro e w1 ⟨rfl, rfl⟩) | (at_builtin; refine wpList_append_s labT rfl (.tmp 24) (.tmp 29) rfl w.heap.size u7 n _ rfl (SOwn.kept HO.out (World.grownBy_alloc wr _ none) (Classical.em _)) (some ⟨wr.heap.size, 0, none⟩) [(s1, s2)] 1 1 rfl rfl (llit wr [(s1, s2)]) (by simp) (by omega) (by unfold maxLen; omega) (Nat.le_trans HW.out (World.grownBy_alloc wr _ none).size) ?_; intro v2 w2 ho2 hg2 hn2))
          go_roundw
          case rel => exact ⟨k + 1, n + 1, by omega, by go_num, by rw [HS.out]; exact ho2, gb_trans (HG.out.trans (World.grownBy_alloc wr _ none)) hg2 (fun j hj => .inl (SOwn.block HO.out j hj).1)⟩
          case measure => simp [intOf]; omega
      · have HS : Hid (someR (ls.take (k + 1)) ss keep = someR (ls.take k) ss keep) := by have h := HN.out; rw [if_neg (by simpa using h1), List.append_nil] at h; exact h
        have q : (r == keep) = false := by simpa using h1
        clear HN
        cases r <;> cases keep
        · exact absurd rfl h1
        rotate_left 2
        · exact absurd rfl h1
        all_goals
          clear h1
          go_wp2_with (go_at_call 63; refine HIn.out.mono ?_; rintro e w1 ⟨rfl, rfl⟩)
          go_roundw
          case rel => exact ⟨k + 1, n, by omega, by go_num, by rw [HS.out]; exact HO.out, HG.out⟩
          case measure => simp [intOf]; omega
    · have HS : Hid (someR (ls.take k) ss keep = someR ls ss keep) := by show _ = _; rw [List.take_of_length_le (by have := HL.out; omega)]
      go_wp2
      go_ret
      exact ⟨u7, n, rfl, by rw [← HS.out]; exact HO.out, HG.out⟩
end Go.Proofs.Ytailaehpgmpaaaa
