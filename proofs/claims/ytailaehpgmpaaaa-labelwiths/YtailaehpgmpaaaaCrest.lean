/- The document's own calls of layer 2: texts, frames. -/
import Derived.Test.YtailaehpgmpaaaaCuint
import Derived.Test.YtailaehpgmpaaaaCuint
import Derived.Laws.BytesArg
import Derived.Laws.IdiomStrings
import Derived.Lib.AppendStr
import Derived.Lib.Bytes
namespace Go.Proofs.Ytailaehpgmpaaaa
open Go.RowKit

theorem conv_rd (w : World) (a : Option Addr) (zs : List Int) (L cap : Nat) (hr : Rd w a zs) (hL : zs.length = L) : (convert 26 9 (.slice a L cap)).run Try.prog w = .ok (.string (strOfNums zs)) w := by
  subst hL
  cases a with
  | none =>
    obtain rfl := hr.none
    rw [run_convert_bytes_nil w 26 5 Try.underlying26 Try.underlying5 _ _ 9 Try.underlying9]
    rfl
  | some ad =>
    rcases hr.1 with rfl | ⟨b, off, e, hc⟩
    · rw [show ([] : List Int).length = ([] : List UInt8).length from rfl, run_convert_bytes_back w 26 9 5 ad cap [] Try.underlying26 Try.underlying5 Try.underlying9 (by intro j hj; simp at hj)]
      rfl
    · obtain rfl := Option.some.inj e
      exact run_convert_bytes_arg w 26 5 Try.underlying26 Try.underlying5 b off zs.length cap zs rfl hc 9 Try.underlying9

theorem strOfNums_inj {xs ys : List Int} (hx : ∀ z ∈ xs, 0 ≤ z ∧ z ≤ 255) (hy : ∀ z ∈ ys, 0 ≤ z ∧ z ≤ 255) (h : (strOfNums xs).data.toList = (strOfNums ys).data.toList) : xs = ys := by
  rw [strOfNums_data, strOfNums_data] at h
  have hl : xs.length = ys.length := by simpa using congrArg List.length h
  refine List.ext_getElem hl fun i h1 h2 => ?_
  have e := congrArg (fun l => l[i]?) h
  simp only [List.getElem?_map, List.getElem?_eq_getElem h1, List.getElem?_eq_getElem h2, Option.map_some, Option.some.injEq] at e
  have e2 := congrArg UInt8.toNat e
  have bx := hx _ (List.getElem_mem h1)
  have bY := hy _ (List.getElem_mem h2)
  simp only [UInt8.toNat_ofNat'] at e2
  omega

/-- A text's bytes, as numbers. -/
def sInts (s : ByteArray) : List Int := s.data.toList.map fun b => (b.toNat : Int)
theorem sInts_len (s : ByteArray) : (sInts s).length = s.size := by
  unfold sInts
  rw [List.length_map, Array.length_toList]
  rfl
theorem sInts_cells (s : ByteArray) : bs (sInts s) = Go.Lib.strCells s := by
  unfold bs sInts Go.Lib.strCells
  rw [List.map_map]
  rfl
theorem sInts_byte (s : ByteArray) : ∀ z ∈ sInts s, 0 ≤ z ∧ z ≤ 255 := by
  intro z hz
  simp only [sInts, List.mem_map] at hz
  obtain ⟨b, _, rfl⟩ := hz
  have := b.toNat_lt
  omega

/-- append(out, s...): out is the call's own, s a text. -/
theorem wpList_append_text {w : World} {ops : Array Oper} {rest : List Oper} {o : Oper} {a : Act} {Q : Exit → Act → World → Prop} (hgd : o.guard = none) (sl x : Operand)
    (ho : o.op = .call { callee := .builtin .append, args := #[sl, x], argTypes := #[26, 9] }) (base g0 n c0 : Nat) (xs : List Int) (hs : a.eval sl = .slice (some ⟨g0, 0, none⟩) n c0) (hown : Own w base g0 n c0 xs)
    (s : ByteArray) (m : Nat) (hm : s.size = m) (hx : a.eval x = .string s) (hlen : n + m ≤ 140737488355328)
    (h : ∀ g c w', Own w' base g (n + m) c (xs ++ sInts s) → w.grownBy w' (some g0) → wpList Try.prog ops Q rest (a.put o.dst (.slice (some ⟨g, 0, none⟩) (n + m) c)) w') : wpList Try.prog ops Q (o :: rest) a w := by
  obtain ⟨i0, hi, hz0, hz1, hz2⟩ := info_parts info5
  subst hm
  have hge := hown.ge
  refine Go.Lib.wpList_append_own_string _ hgd sl x 26 9 ho base 5 i0 Try.underlying26 Try.underlying9 hi hz0 hz1 hz2 _ n (bs xs) hs hown.1 s hx (by unfold maxLen; omega) (by omega) (by omega) ?_
  intro v' w' hown' hg hne
  rw [← sInts_cells, ← bs_app] at hown'
  obtain ⟨g, c, rfl, ho'⟩ := Own.of hown' (fun h => by simpa using hne.1 h) (fun z hz => by
    rcases List.mem_append.1 hz with h1 | h1
    · exact hown.2 z h1
    · exact sInts_byte s z h1)
  exact h g c w' ho' hg

set_option maxHeartbeats 400000 in
theorem rputtext (a : Option Addr) (zs : List Int) (L cap : Nat) (s : ByteArray) (w : World) (hr : Rd w a zs) (hL : zs.length = L) (hnil : a = none → cap = 0) (hz : L + s.size ≤ 140737488355000) :
    Calls Try.prog 51 #[.slice a L cap, .string s] w fun e w' => ∃ g c N, e = .returned (.slice (some ⟨g, 0, none⟩) N c) ∧ Own w' w.heap.size g N c (zs ++ enc s.size ++ sInts s) ∧ w.grownBy w' none := by
  have HC : Hid (∃ Y, Y = zs ++ enc s.size ∧ Y.length ≤ L + 10 ∧ Calls Try.prog 50 #[.slice a L cap, .int .u64 (s.size : Int)] w fun e w' => ∃ g c N, e = .returned (.slice (some ⟨g, 0, none⟩) N c) ∧ Own w' w.heap.size g N c Y ∧ w.grownBy w' none) := by
    have h := rputuint a zs L cap s.size w hr hL hnil (by omega) (by omega)
    rw [show ((s.size : Int)).toNat = s.size by omega] at h
    have h2 := enc_len s.size (by omega)
    exact ⟨_, rfl, by simp; omega, h⟩
  obtain ⟨Y, eY, hYL, HU⟩ := HC.out
  rw [← eY]
  have HUU : Hid (Calls Try.prog 50 #[.slice a L cap, .int .u64 (s.size : Int)] w fun e w' => ∃ g c N, e = .returned (.slice (some ⟨g, 0, none⟩) N c) ∧ Own w' w.heap.size g N c Y ∧ w.grownBy w' none) := HU
  clear eY HU HC hr hL hnil
  go_enter Try.func51, Try.ntmps51
  go_wp2_with fail
  refine HUU.out.mono ?_
  rintro e w1 ⟨g, c, N, rfl, ho, hg⟩
  have hN := ho.len
  have HN : Hid (N + s.size ≤ 140737488355328) := by show _ ≤ _; omega
  clear hN
  go_wp2_with (at_builtin; refine wpList_append_text rfl (.tmp 9) (.tmp 10) rfl w.heap.size g N c Y rfl ho s s.size rfl rfl HN.out ?_; intro g2 c2 w2 ho2 hg2)
  go_ret
  exact ⟨g2, c2, _, rfl, ho2, gb_trans hg hg2 (fun i hi => .inl (by simp at hi; have := ho.ge; omega))⟩

def four (c : Int) : List Int := [c / 16777216, c / 65536 % 256, c / 256 % 256, c % 256]
theorem four_byte (c : Int) (h : 0 ≤ c ∧ c ≤ 4294967295) : ∀ z ∈ four c, 0 ≤ z ∧ z ≤ 255 := by
  intro z hz
  simp [four] at hz
  omega

end Go.Proofs.Ytailaehpgmpaaaa
