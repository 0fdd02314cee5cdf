/- Encode and Decode, as the laws meet them; awake. -/
import Derived.Test.YteahhkpbjkcmhaaDoorDdec
import Derived.Test.YteahhkpbjkcmhaaDoorDenc
import Derived.Test.YteahhkpbjkcmhaaDoorKspoil
import Derived.Test.YteahhkpbjkcmhaaDoorRconv
import Derived.Test.YteahhkpbjkcmhaaDoorHsat2
namespace Go.Proofs.YteahhkpbjkcmhaaDoor
open Go.ChangeShapes Go.WideShapes Go.ChangeAt Go.RowKit
set_option linter.unusedVariables false
set_option maxRecDepth 20000

theorem okL_vals : ∀ {ps : List Pt} {t : Int}, okL t ps → ∀ q ∈ ps, okV q.2
  | [], _, _, q, hq => by cases hq
  | p :: r, t, h, q, hq => by
    obtain ⟨_, _, h2, h3⟩ := h
    rcases List.mem_cons.1 hq with rfl | h'
    · exact h2
    · exact okL_vals h3 q h'
theorem okP_vals {ps : List Pt} (h : okP ps) : ∀ q ∈ ps, okV q.2 := by
  cases ps with
  | nil => intro q hq; cases hq
  | cons p r =>
    intro q hq
    rcases List.mem_cons.1 hq with rfl | h'
    · exact h.2.1
    · exact okL_vals h.2.2 q h'
theorem encC_zero {ps : List Pt} : encC ps = 0 ↔ ps.length ≤ 8191 ∧ okTimes ps = true := by
  unfold encC
  by_cases h1 : 8191 < ps.length
  · rw [if_pos h1]
    constructor
    · intro h; cases h
    · intro h; omega
  · rw [if_neg h1]
    by_cases h2 : okTimes ps = false
    · rw [if_pos h2]
      constructor
      · intro h; cases h
      · intro h; rw [h2] at h; cases h.2
    · rw [if_neg h2]
      exact ⟨fun _ => ⟨by omega, by simpa using h2⟩, fun _ => rfl⟩
theorem encC_cases (ps : List Pt) : encC ps = 0 ∨ encC ps = 50 ∨ encC ps = 51 := by
  unfold encC
  by_cases h1 : 8191 < ps.length
  · rw [if_pos h1]; simp
  · rw [if_neg h1]
    by_cases h2 : okTimes ps = false
    · rw [if_pos h2]; simp
    · rw [if_neg h2]; simp
theorem encB_byte (ps : List Pt) : ∀ z ∈ encB ps, 0 ≤ z ∧ z ≤ 255 := by
  unfold encB
  split
  · exact pack_byte _
  · intro z hz; cases hz
theorem encB_len {ps : List Pt} (hv : ∀ q ∈ ps, okV q.2) : (encB ps).length ≤ 137438954000 := by
  unfold encB
  by_cases h : encC ps = 0
  · rw [if_pos h, pack_len]
    have := encP_len rfl (encC_zero.1 h).1 hv
    omega
  · rw [if_neg h]; simp
theorem dec_encB {ps : List Pt} (hv : ∀ q ∈ ps, okV q.2) (h : encC ps = 0) : decR (encB ps) = some ps := by
  unfold encB
  rw [if_pos h]
  obtain ⟨h1, h2⟩ := encC_zero.1 h
  exact dec_back h2 hv h1
/-- The shape of what a call made. -/
theorem SOwn.form {α : Type} {E : Elem α} {e : TypeId} {w : World} {base n : Nat} {v : Value} {l : List α} (h : SOwn E e w base v n l) : ∃ a c, v = .slice a n c := by
  rcases h.2 with ⟨h', h0⟩ | ⟨g, cap, cur, h', _⟩
  · exact ⟨none, 0, by rw [h', h0]⟩
  · exact ⟨_, _, h'⟩
theorem sown_rd {w : World} {base n c : Nat} {a : Option Addr} {zs : List Int} (h : SOwn byteE 5 w base (.slice a n c) n zs) (hb : ∀ z ∈ zs, 0 ≤ z ∧ z ≤ 255) : Rd w a zs := srd_rd h.rd hb
theorem sown_at {α : Type} {E : Elem α} {e : TypeId} {w : World} {base n c : Nat} {a : Option Addr} {l : List α} (h : SOwn E e w base (.slice a n c) n l) : ∀ x, a = some x → base ≤ x.block ∧ x.block < w.heap.size := by
  intro x hx
  subst hx
  exact SOwn.block h x.block rfl
theorem sown_cap {α : Type} {E : Elem α} {e : TypeId} {w : World} {base n c : Nat} {a : Option Addr} {l : List α} (h : SOwn E e w base (.slice a n c) n l) : (a = none → c = 0) ∧ n ≤ c := by
  rcases h.2 with ⟨h', h0⟩ | ⟨g, cap, cur, h', _, _, h3, _⟩
  · simp only [Value.slice.injEq] at h'
    obtain ⟨_, _, rfl⟩ := h'
    exact ⟨fun _ => rfl, by omega⟩
  · simp only [Value.slice.injEq] at h'
    obtain ⟨rfl, _, rfl⟩ := h'
    exact ⟨(by intro h; cases h), h3⟩
theorem k_enc (a : Option Addr) (ps : List Pnt) (L c : Nat) (w : World) (hx : SRd pntE w a ps) (hL : ps.length = L) (hz : L ≤ 8796093022208) (hv : ∀ q ∈ ps, okV q.2) (hB : Bf w) :
    Calls Tryd.prog 11 #[.slice a L c] w fun e w' => ∃ v n c', e = .returned (.tuple #[.slice v n c', .int .i64 (encC ps)]) ∧ n = (encB ps).length ∧ SOwn byteE 5 w' w.heap.size (.slice v n c') n (encB ps) ∧ w.grownBy w' none := by
  refine (f_encode a ps L c w hx hL hz hv hB).mono ?_
  rintro e w' ⟨vB, rfl, ho, hg⟩
  obtain ⟨v, c', rfl⟩ := SOwn.form ho
  exact ⟨v, _, c', rfl, rfl, ho, hg⟩
theorem k_dec (a : Option Addr) (zs : List Int) (L cap : Nat) (w : World) (hr : Rd w a zs) (hL : zs.length = L) (hz : (L : Int) ≤ 140737488355000) (hB : Bf w) :
    Calls Tryd.prog 19 #[.slice a L cap] w fun e w' => ∃ v n c' ps c, e = .returned (.tuple #[.slice v n c', .int .i64 c]) ∧ n = ps.length ∧ SOwn pntE 41 w' w.heap.size (.slice v n c') n ps ∧ w.grownBy w' none ∧ DecAns zs c ps := by
  refine (f_decode a zs L cap w hr hL hz hB).mono ?_
  rintro e w' ⟨vP, ps, c, rfl, ho, hg, hd⟩
  obtain ⟨v, c', rfl⟩ := SOwn.form ho
  exact ⟨v, _, c', ps, c, rfl, rfl, ho, hg, hd⟩
theorem k_spoil (a : Option Addr) (base n c : Nat) (zs : List Int) (w : World) (ho : SOwn byteE 5 w base (.slice a n c) n zs) (hb : ∀ z ∈ zs, 0 ≤ z ∧ z ≤ 255) (hn : n ≤ 140737488351300) :
    Calls Tryd.prog 15 #[.slice a n c] w fun e w' => e = .returned (.tuple #[]) ∧ w.grownBy w' (Value.slice a n c).ownBlock := by
  have ho' : w.ownsRow base 5 1 (.slice a n c) n (bs zs) := by
    have h := ho
    unfold SOwn at h
    rw [byteE_flat] at h
    exact h
  rcases ho.2 with ⟨h', h0⟩ | ⟨g, cap, cur, h', h1, h2, h3, h4, h5, h6⟩
  · simp only [Value.slice.injEq] at h'
    obtain ⟨rfl, rfl, rfl⟩ := h'
    exact spoil_nil w
  · simp only [Value.slice.injEq] at h'
    obtain ⟨rfl, _, rfl⟩ := h'
    exact spoil_any base g n c zs w ⟨ho', hb⟩ hn
def ps0 : List Pnt := [(1, 5), (61, 5), (121, 7)]
theorem ps0_ok : ∀ q ∈ ps0, okV q.2 := by
  intro q hq
  simp only [ps0, List.mem_cons, List.mem_nil_iff, or_false] at hq
  rcases hq with rfl | rfl | rfl <;> exact ⟨by decide, by decide⟩
theorem ps0_enc : encC ps0 = 0 := encC_zero.2 ⟨by decide, by decide⟩
theorem ps0_len : 17 < (encB ps0).length := by
  unfold encB
  rw [if_pos ps0_enc, pack_len]
  simp only [ps0, encP, List.length_append, bitsI_len]
  omega
theorem dec_nil : decR [] = none := by decide
set_option maxHeartbeats 1000000 in
theorem awake_chunk (w : World) (hB : Bf w) : Calls Tryd.prog 16 #[] w fun e w' => e = .returned (.bool true) ∧ w.grownBy w' none := by
  have H1 : Hid (Calls Tryd.prog 11 #[.slice (some ⟨w.heap.size, 0, none⟩) 3 3] (w.alloc (.cells #[.int .i64 1, .int .u64 5, .int .i64 61, .int .u64 5, .int .i64 121, .int .u64 7] 41)) fun e w' => ∃ v n c, e = .returned (.tuple #[.slice v n c, .int .i64 0]) ∧ 17 < n ∧ n ≤ 140737488355000 ∧ Rd w' v (encB ps0) ∧ (encB ps0).length = n ∧ SRd pntE w' (some ⟨w.heap.size, 0, none⟩) ps0 ∧ w.grownBy w' none) := by
    have hl := plit w ps0
    have hg := World.grownBy_alloc w (.cells (pntE.flat ps0).toArray 41) none
    refine (k_enc (some ⟨w.heap.size, 0, none⟩) ps0 3 3 _ hl rfl (by omega) ps0_ok (hB.grown hg (by simp))).mono ?_
    rintro e w' ⟨v, n, c, rfl, hn, ho, hg'⟩
    rw [ps0_enc]
    have h1 := ps0_len
    have h2 := encB_len ps0_ok
    exact ⟨v, n, c, rfl, by omega, by omega, sown_rd ho (encB_byte _), hn.symm, hl.grown hg' (by simp), hg.trans hg'⟩
  have H2 : Hid (∀ (v : Option Addr) (n c : Nat) (w1 : World), w.grownBy w1 none → Rd w1 v (encB ps0) → (encB ps0).length = n → n ≤ 140737488355000 → Calls Tryd.prog 19 #[.slice v n c] w1 fun e w' => ∃ v n c, e = .returned (.tuple #[.slice v n c, .int .i64 0]) ∧ n = 3 ∧ SRd pntE w' v ps0 ∧ w1.grownBy w' none) := by
    intro v n c w1 hg hr hn hz
    refine (k_dec v (encB ps0) n c w1 hr hn (by omega) (hB.grown hg (by simp))).mono ?_
    rintro e w' ⟨v', n', c', qs, cc, rfl, hn', ho, hg', hd⟩
    unfold DecAns at hd
    rw [dec_encB ps0_ok ps0_enc] at hd
    obtain ⟨rfl, rfl⟩ := hd
    exact ⟨v', n', c', rfl, hn', ho.rd, hg'⟩
  have H3 : Hid (∀ w1, w.grownBy w1 none → Calls Tryd.prog 19 #[.slice none 0 0] w1 fun e w' => ∃ v n c, e = .returned (.tuple #[.slice v n c, .int .i64 52]) ∧ w1.grownBy w' none) := by
    intro w1 hg
    refine (k_dec none [] 0 0 w1 ⟨.inl rfl, by simp⟩ rfl (by omega) (hB.grown hg (by simp))).mono ?_
    rintro e w' ⟨v', n', c', qs, cc, rfl, hn', ho, hg', hd⟩
    unfold DecAns at hd
    rw [dec_nil] at hd
    obtain ⟨rfl, rfl⟩ := hd
    exact ⟨v', n', c', rfl, hg'⟩
  clear hB
  go_enter Tryd.func16, Tryd.ntmps16
  go_wp2_with fail
  refine H1.out.mono ?_
  rintro e w1 ⟨v1, n1, c1, rfl, h17, hn1, hr1, hl1, hp1, hg1⟩
  have HR1 : Hid (Rd w1 v1 (encB ps0)) := hr1
  have HL1 : Hid ((encB ps0).length = n1) := hl1
  have HP1 : Hid (SRd pntE w1 (some ⟨w.heap.size, 0, none⟩) ps0) := hp1
  have HG1 : Hid (w.grownBy w1 none) := hg1
  clear hr1 hl1 hp1 hg1 H1
  go_wp2_with fail
  refine (H2.out v1 n1 c1 w1 HG1.out HR1.out HL1.out hn1).mono ?_
  rintro e w2 ⟨v2, n2, c2, rfl, rfl, hp2, hg2⟩
  have HP2 : Hid (SRd pntE w2 v2 ps0) := hp2
  have HP1' : Hid (SRd pntE w2 (some ⟨w.heap.size, 0, none⟩) ps0) := HP1.out.grown hg2 (by simp)
  have HG2 : Hid (w.grownBy w2 none) := HG1.out.trans hg2
  clear hp2 hg2 HP1 HG1 HR1 HL1 H2
  go_wp2_with fail
  refine (H3.out w2 HG2.out).mono ?_
  rintro e w3 ⟨v3, n3, c3, rfl, hg3⟩
  have HQ2 : Hid (SRd pntE w3 v2 ps0) := HP2.out.grown hg3 (by simp)
  have HQ1 : Hid (SRd pntE w3 (some ⟨w.heap.size, 0, none⟩) ps0) := HP1'.out.grown hg3 (by simp)
  have HG3 : Hid (w.grownBy w3 none) := HG2.out.trans hg3
  clear hg3 HP2 HP1' HG2 H3
  have hlt : (17 : Int) < (n1 : Int) := by omega
  go_wp2_with fail
  refine (psame v2 (some ⟨w.heap.size, 0, none⟩) ps0 ps0 3 3 c2 3 w3 HQ2.out HQ1.out rfl rfl (by omega)).mono ?_
  rintro e w4 ⟨rfl, hg4⟩
  have htt : decide (ps0 = ps0) = true := by simp
  rw [htt]
  clear htt
  have HG4 : Hid (w.grownBy w4 none) := HG3.out.trans hg4
  clear hg4
  go_wp2
  go_ret
  exact ⟨rfl, HG4.out⟩
end Go.Proofs.YteahhkpbjkcmhaaDoor
