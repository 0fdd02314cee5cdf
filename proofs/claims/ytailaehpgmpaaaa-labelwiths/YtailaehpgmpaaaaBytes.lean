/- Slices of bytes that come in and that the calls make: read, copied, lent, held against one another, written over. -/
import Derived.Test.YtailaehpgmpaaaaRows
import Derived.WalkKit
import Derived.WalkSpells
import Derived.WalkLawsBesides
import Derived.Laws.AppendOwnNone
import Derived.Deep.AppendLies
import Derived.Laws.CopyOwn
import Derived.ArgAppend
import Derived.Deep.QuietTactic
import Derived.BigQuiet
import Derived.BigRegion
import Derived.ProofKit
import Derived.OpenShut
import Derived.ShutString
import Derived.ChangeOld
import Derived.SizedLaws
namespace Go.Proofs.Ytailaehpgmpaaaa
open Go.ChangeShapes Go.WideShapes Go.ChangeAt Go.RowKit

theorem ret_int {k : IntKind} {a b : Int} (h : a = b) : Ending.returned (.int k a) = .returned (.int k b) := by rw [h]
theorem ret_bool {a b : Bool} (h : a = b) : Ending.returned (.bool a) = .returned (.bool b) := by rw [h]

/-- What is read of a slice of bytes: its cells, wherever it lies. -/
def Rd (w : World) (a : Option Addr) (zs : List Int) : Prop :=
  (zs = [] ∨ ∃ b off, a = some ⟨b, off, none⟩ ∧ ∀ i, i < zs.length → w.cell? ⟨b, off + i, none⟩ = some (.int .u8 (zs.getD i 0))) ∧ ∀ z ∈ zs, 0 ≤ z ∧ z ≤ 255

theorem Rd.at {w : World} {a : Option Addr} {zs : List Int} (h : Rd w a zs) (hz : 0 < zs.length) :
    ∃ b off, a = some ⟨b, off, none⟩ ∧ ∀ i, i < zs.length → w.cell? ⟨b, off + i, none⟩ = some (.int .u8 (zs.getD i 0)) := by
  rcases h.1 with rfl | h
  · simp at hz
  · exact h
theorem Rd.byte {w : World} {a : Option Addr} {zs : List Int} (h : Rd w a zs) (i : Nat) : 0 ≤ zs.getD i 0 ∧ zs.getD i 0 ≤ 255 := by
  by_cases hi : i < zs.length
  · have := h.2 zs[i] (List.getElem_mem hi)
    simpa [List.getD_eq_getElem?_getD, hi] using this
  · simp [List.getD_eq_getElem?_getD, List.getElem?_eq_none (Nat.le_of_not_lt hi)]


theorem info5 : (Try.prog.info? 5).map (fun i => (i.zero, i.size, i.bytes)) = some (some (.int .u8 0), 1, 1) := by kernel_rfl

def bs (zs : List Int) : List Value := zs.map (Value.int .u8)
theorem bs_len (zs : List Int) : (bs zs).length = zs.length := by simp [bs]
theorem bs_app (xs ys : List Int) : bs (xs ++ ys) = bs xs ++ bs ys := by simp [bs]
theorem bs_one (zs : List Int) : ∀ u ∈ bs zs, u.oneCell' = true := ints_oneCell .u8 zs

/-- Behind two steps: what the second wrote is new, or what the first wrote. -/
theorem gb_trans {w w1 w2 : World} {row row' : Option Nat} (h : w.grownBy w1 row) (h' : w1.grownBy w2 row') (hr : ∀ k, row' = some k → w.heap.size ≤ k ∨ row = some k) : w.grownBy w2 row :=
  ⟨h'.os.trans h.os, h'.tape.trans h.tape, h'.output.trans h.output, Nat.le_trans h.size h'.size, fun k hk hne =>
    (h'.block k (Nat.lt_of_lt_of_le hk h.size) (fun e => by
      rcases hr k e.symm with h1 | h1
      · omega
      · exact hne h1.symm)).trans (h.block k hk hne)⟩
theorem gb_any {w w1 : World} (h : w.grownBy w1 none) (row : Option Nat) : w.grownBy w1 row := ⟨h.os, h.tape, h.output, h.size, fun k hk _ => h.block k hk (by simp)⟩
theorem gb_drewN (w : World) (n : Nat) : w.grownBy (w.drewN n) none := ⟨rfl, rfl, rfl, Nat.le_refl _, fun _ _ _ => rfl⟩
theorem gb_set {w : World} {p : Addr} {u : Value} {g : Nat} (h : p.block = g) : w.grownBy (w.setCell p u) (some g) :=
  ⟨rfl, rfl, rfl, by simp [World.setCell], fun k _ hne => Below.heap_setCell w p u k (fun e => hne (by rw [e, h]))⟩
theorem gb_below {w w1 : World} (h : w.grownBy w1 none) : Below w.heap.size w w1 := (Below.refl _ _).grown h (Nat.le_refl _) (by simp)

theorem Rd.grown {w w' : World} {row : Option Nat} {a : Option Addr} {zs : List Int} (h : Rd w a zs) (hg : w.grownBy w' row) (hne : ∀ x, a = some x → some x.block ≠ row) : Rd w' a zs := by
  refine ⟨?_, h.2⟩
  rcases h.1 with rfl | ⟨b, off, rfl, hc⟩
  · exact .inl rfl
  · exact .inr ⟨b, off, rfl, fun i hi => hg.cell (hc i hi) (hne ⟨b, off, none⟩ rfl)⟩

theorem Rd.news {w : World} {ad : Addr} {zs : List Int} (h : Rd w (some ad) zs) : ∀ j u, (bs zs)[j]? = some u → w.cell? (ad.add j) = some u := by
  intro j u hu
  rcases h.1 with rfl | ⟨b, off, e, hc⟩
  · simp [bs] at hu
  · obtain rfl := Option.some.inj e
    have hj : j < zs.length := by
      rw [← bs_len]; exact (List.getElem?_eq_some_iff.1 hu).1
    have := hc j hj
    simp only [bs, List.getElem?_map, List.getElem?_eq_getElem hj, Option.map_some, Option.some.injEq] at hu
    subst hu
    have e : (⟨b, off, none⟩ : Addr).add j = ⟨b, off + j, none⟩ := by
      by_cases h0 : j = 0
      · subst h0; rfl
      · simp [Addr.add, h0]
    rw [e, this]
    simp [List.getD_eq_getElem?_getD, List.getElem?_eq_getElem hj]

/-- A slice of bytes that the call made. -/
def Own (w : World) (base g n cap : Nat) (zs : List Int) : Prop := w.ownsRow base 5 1 (.slice (some ⟨g, 0, none⟩) n cap) n (bs zs) ∧ ∀ z ∈ zs, 0 ≤ z ∧ z ≤ 255
theorem Own.len {w : World} {base g n cap : Nat} {zs : List Int} (h : Own w base g n cap zs) : zs.length = n := by
  have := h.1.1; rw [bs_len] at this; omega
theorem Own.ge {w : World} {base g n cap : Nat} {zs : List Int} (h : Own w base g n cap zs) : base ≤ g ∧ g < w.heap.size := h.1.lt g rfl
theorem Own.cap {w : World} {base g n cap : Nat} {zs : List Int} (h : Own w base g n cap zs) : n ≤ cap ∧ cap ≤ maxLen := by
  rcases h.1.2 with ⟨h', _⟩ | ⟨g', cap', cur, h', _, hg, h1, h2, _⟩
  · simp at h'
  · simp only [Value.slice.injEq] at h'
    obtain ⟨_, _, rfl⟩ := h'
    exact ⟨h1, h2⟩
theorem Own.cell {w : World} {base g n cap : Nat} {zs : List Int} (h : Own w base g n cap zs) (i : Nat) (hi : i < n) : w.cell? ⟨g, i, none⟩ = some (.int .u8 (zs.getD i 0)) := by
  have hl := h.len
  rw [h.1.cellAt i (by omega)]
  simp only [bs, List.getElem?_map, List.getElem?_eq_getElem (show i < zs.length by omega), Option.map_some, List.getD_eq_getElem?_getD, Option.getD_some]
theorem Own.kept {w w' : World} {row : Option Nat} {base g n cap : Nat} {zs : List Int} (h : Own w base g n cap zs) (hg : w.grownBy w' row) (hne : some g ≠ row) : Own w' base g n cap zs :=
  ⟨h.1.kept hg (.inr (by simpa [Value.ownBlock] using hne)), h.2⟩
theorem Own.rd {w : World} {base g n cap : Nat} {zs : List Int} (h : Own w base g n cap zs) : Rd w (some ⟨g, 0, none⟩) zs :=
  ⟨.inr ⟨g, 0, rfl, fun i hi => by rw [Nat.zero_add]; exact h.cell i (by rw [← h.len]; exact hi)⟩, h.2⟩
theorem Own.base {w : World} {base base' g n cap : Nat} {zs : List Int} (h : Own w base g n cap zs) (hb : base' ≤ base) : Own w base' g n cap zs := by
  refine ⟨⟨h.1.1, ?_⟩, h.2⟩
  rcases h.1.2 with h' | ⟨g', cap', cur, h', h0, r⟩
  · exact .inl h'
  · exact .inr ⟨g', cap', cur, h', Nat.le_trans hb h0, r⟩
theorem Own.of {w : World} {base n : Nat} {v : Value} {zs : List Int} (h : w.ownsRow base 5 1 v n (bs zs)) (hn : v ≠ .slice none 0 0) (hz : ∀ z ∈ zs, 0 ≤ z ∧ z ≤ 255) : ∃ g cap, v = .slice (some ⟨g, 0, none⟩) n cap ∧ Own w base g n cap zs := by
  rcases h.2 with ⟨h', _⟩ | ⟨g', cap', cur, h', _⟩
  · exact absurd h' hn
  · subst h'
    exact ⟨g', cap', rfl, h, hz⟩

theorem Rd.none {w : World} {zs : List Int} (h : Rd w none zs) : zs = [] := by
  rcases h.1 with h | ⟨b, off, e, _⟩
  · exact h
  · cases e

theorem own_empty (w : World) : Own (w.alloc (.cells #[] 5)) w.heap.size w.heap.size 0 0 [] :=
  ⟨by simpa [bs] using World.ownsRow_made (e := 5) (size := 1) w #[] 0 (Nat.le_refl _) (Nat.zero_le _) rfl, by simp⟩

set_option maxHeartbeats 400000 in
theorem copy_any (a : Option Addr) (zs : List Int) (cap : Nat) (w : World) (hr : Rd w a zs) (hnil : a = none → cap = 0) (hz : zs.length ≤ 140737488351232) :
    Calls Try.prog 25 #[.slice a zs.length cap] w fun e w' => ∃ g c, e = .returned (.slice (some ⟨g, 0, none⟩) zs.length c) ∧ Own w' w.heap.size g zs.length c zs ∧ w.grownBy w' none := by
  obtain ⟨i0, hi, hz0, hz1, hz2⟩ := info_parts info5
  cases a with
  | none =>
    obtain rfl := hnil rfl
    obtain rfl := hr.none
    clear hr hnil
    go_enter Try.func25, Try.ntmps25
    go_wp2
    go_ret
    exact ⟨w.heap.size, 0, rfl, own_empty w, World.grownBy_alloc w _ _⟩
  | some ad =>
    have hnews := (hr.grown (World.grownBy_alloc w (.cells #[] 5) none) (by simp)).news
    have hbyt := hr.2
    have hlen := bs_len zs
    have hone := bs_one zs
    obtain ⟨L, hL⟩ : ∃ L, L = zs.length := ⟨_, rfl⟩
    have H5 : Hid (L = zs.length) := hL
    have HB : Hid (∀ z ∈ zs, 0 ≤ z ∧ z ≤ 255) := hbyt
    rw [← hL] at hz hlen ⊢
    have HN : Hid (∀ j u, (bs zs)[j]? = some u → (w.alloc (.cells #[] 5)).cell? (ad.add j) = some u) := hnews
    have HO : Hid (∀ u ∈ bs zs, u.oneCell' = true) := hone
    have HLn : Hid ((bs zs).length = L) := hlen
    clear hnil hr hL hbyt hone hnews hlen
    go_enter Try.func25, Try.ntmps25
    go_wp2_with (at_builtin; refine wpList_append_own _ rfl _ _ 26 rfl w.heap.size 5 i0 (.int .u8 0) 1 1 Try.underlying26 hi hz0 hz1 hz2 rfl (by decide) (.slice (some ⟨w.heap.size, 0, none⟩) 0 0) 0 [] rfl (own_empty w).1 ad L cap (bs zs) rfl (by rw [HLn.out]; omega) HN.out HO.out (by unfold maxLen; omega) (by omega) (by simp) ?_; intro v' w1 hown hgrow hne)
    have hne' : v' ≠ .slice none 0 0 := fun h => by simpa using hne.1 h
    have ho' : w1.ownsRow w.heap.size 5 1 v' L (bs zs) := by simpa using hown
    obtain ⟨g, c, rfl, ho⟩ := Own.of ho' hne' HB.out
    clear hne hne' ho' hown
    go_wp2
    go_ret
    exact ⟨g, c, rfl, ho, gb_trans (World.grownBy_alloc w _ none) hgrow (by simp [Value.ownBlock])⟩

theorem gb_new {w : World} {o : Obj} {w1 w2 : World} (h : w.grownBy w1 none) (h2 : (w1.alloc o).grownBy w2 none) : w.grownBy w2 none :=
  gb_trans (gb_trans h (World.grownBy_alloc w1 o none) (by simp)) h2 (by simp)

theorem news_at {w : World} {cs : List Value} {t : TypeId} : ∀ j u, cs[j]? = some u → (w.alloc (.cells cs.toArray t)).cell? ((⟨w.heap.size, 0, none⟩ : Addr).add j) = some u := by
  have := World.news_of_block (w := w.alloc (.cells cs.toArray t)) (B := w.heap.size) (cs := cs.toArray) (t := t) (fr := (0, 0)) (heap_alloc_new w _)
  simpa using this

theorem own_app {w : World} {base n : Nat} {v : Value} {zs : List Int} (h : w.ownsRow base 5 1 v n (bs zs ++ bs [201, 201])) (hn : v ≠ .slice none 0 0) (hz : ∀ z ∈ zs, 0 ≤ z ∧ z ≤ 255) : ∃ g cap, v = .slice (some ⟨g, 0, none⟩) n cap ∧ Own w base g n cap (zs ++ [201, 201]) := by
  rw [← bs_app] at h
  refine Own.of h hn fun z hm => ?_
  rcases List.mem_append.1 hm with h1 | h1
  · exact hz z h1
  · simp at h1; omega

set_option maxHeartbeats 400000 in
theorem lend_any (a : Option Addr) (zs : List Int) (cap : Nat) (w : World) (hr : Rd w a zs) (hnil : a = none → cap = 0) (hz : zs.length ≤ 140737488351232) :
    Calls Try.prog 22 #[.slice a zs.length cap] w fun e w' => ∃ g c, e = .returned (.slice (some ⟨g, 0, none⟩) zs.length c) ∧ Own w' w.heap.size g (zs.length + 2) c (zs ++ [201, 201]) ∧ w.grownBy w' none := by
  obtain ⟨i0, hi, hz0, hz1, hz2⟩ := info_parts info5
  have HC := copy_any a zs cap w hr hnil hz
  have HB : Hid (∀ z ∈ zs, 0 ≤ z ∧ z ≤ 255) := hr.2
  obtain ⟨L, hL⟩ : ∃ L, L = zs.length := ⟨_, rfl⟩
  have H5 : Hid (L = zs.length) := hL
  rw [← hL] at hz HC ⊢
  clear hr hnil hL
  go_enter Try.func22, Try.ntmps22
  go_wp2_with (first | (go_at_call 25; refine HC.mono ?_; rintro e w1 ⟨g, c, rfl, ho, hg1⟩; have hz' := hg1.size) | (at_builtin; refine wpList_append_own _ rfl (.tmp 5) (.tmp 6) 26 rfl w.heap.size 5 i0 (.int .u8 0) 1 1 Try.underlying26 hi hz0 hz1 hz2 rfl (by decide) (.slice (some ⟨g, 0, none⟩) L c) L (bs zs) rfl (ho.1.alloc _) ⟨w1.heap.size, 0, none⟩ 2 2 (bs [201, 201]) rfl rfl (news_at (cs := bs [201, 201])) (bs_one _) (by unfold maxLen; omega) (by omega) (by simp; omega) ?_; intro v' w2 hown hgrow hne; obtain ⟨g2, c2, rfl, ho2⟩ := own_app hown (fun h => by simpa using hne.1 h) HB.out; have hcap := ho2.cap.1; clear hne hown))
  go_ret
  refine ⟨g2, c2, rfl, ho2, ?_⟩
  exact gb_trans (gb_trans hg1 (World.grownBy_alloc w1 _ none) (by simp)) hgrow (fun k hk => .inl (by simp [Value.ownBlock] at hk; have := ho.ge; omega))

theorem list_same (xs ys : List Int) (hl : xs.length = ys.length) (h : ∀ j, j < xs.length → xs.getD j 0 = ys.getD j 0) : xs = ys := by
  refine List.ext_getElem hl fun i h1 h2 => ?_
  have := h i h1
  simpa [List.getD_eq_getElem?_getD, List.getElem?_eq_getElem h1, List.getElem?_eq_getElem h2] using this

theorem Rd.drewN {w : World} {a : Option Addr} {zs : List Int} (h : Rd w a zs) (n : Nat) : Rd (w.drewN n) a zs := h
theorem drewN_drewN (w : World) (m n : Nat) : (w.drewN m).drewN n = w.drewN (m + n) := by simp [World.drewN, Nat.add_assoc]

set_option maxHeartbeats 400000 in
theorem same_len (a b : Option Addr) (L M : Nat) (c d : Nat) (w : World) (hne : ¬ L = M) :
    Calls Try.prog 16 #[.slice a L c, .slice b M d] w fun e w' => e = .returned (.bool false) ∧ w = w' := by
  have h : ((L : Int) != (M : Int)) = true := by simp; omega
  go_enter Try.func16, Try.ntmps16
  go_wp2
  go_ret
  exact ⟨rfl, rfl⟩

set_option maxHeartbeats 400000 in
theorem same_loop (a b : Option Addr) (xs ys : List Int) (c d : Nat) (w : World) (hx : Rd w a xs) (hy : Rd w b ys) (hl : ys.length = xs.length) (hz : xs.length ≤ 140737488355328) :
    Calls Try.prog 16 #[.slice a xs.length c, .slice b xs.length d] w fun e w' => e = .returned (.bool (decide (xs = ys))) ∧ ∃ n, w' = w.drewN n := by
  have HX : Hid (Rd w a xs) := hx
  have HY : Hid (Rd w b ys) := hy
  have HE : Hid (∀ k, k < xs.length → xs.getD k 0 ≠ ys.getD k 0 → decide (xs = ys) = false) := by
    intro k hk hne
    simp only [decide_eq_false_iff_not]
    intro h
    rw [h] at hne
    exact hne rfl
  have HF : Hid ((∀ j, j < xs.length → xs.getD j 0 = ys.getD j 0) → decide (xs = ys) = true) := fun h => by
    simpa using list_same xs ys hl.symm h
  have HM : Hid (ys.length = xs.length) := hl
  obtain ⟨L, hL⟩ : ∃ L, L = xs.length := ⟨_, rfl⟩
  have H5 : Hid (L = xs.length) := hL
  obtain ⟨res, hres⟩ : ∃ r, r = decide (xs = ys) := ⟨_, rfl⟩
  have HRes : Hid (res = decide (xs = ys)) := hres
  rw [← hL] at hz ⊢
  rw [← hres]
  clear hx hy hl hL hres
  go_enter Try.func16, Try.ntmps16
  go_wp2
  go_loopw [5] (fun i wr => ∃ k : Nat, k ≤ L ∧ i = .int .i64 k ∧ (∃ n, wr = w.drewN n) ∧ ∀ j, j < k → xs.getD j 0 = ys.getD j 0) (fun i _ => L - (intOf i).toNat)
  case atStart => exact ⟨0, Nat.zero_le _, rfl, ⟨0, rfl⟩, fun j h => by omega⟩
  case round =>
    obtain ⟨k, hk, rfl, ⟨m, rfl⟩, hall⟩ := hrel
    have HA : Hid (∀ j, j < k → xs.getD j 0 = ys.getD j 0) := hall
    clear hall
    by_cases hlt : k < L
    · have h5 := H5.out
      have h6 := HM.out
      obtain ⟨ba, offa, rfl, hca⟩ := HX.out.at (by omega)
      obtain ⟨bb, offb, rfl, hcb⟩ := HY.out.at (by omega)
      have ha : w.cell? ⟨ba, offa + k, none⟩ = some (.int .u8 (xs.getD k 0)) := hca k (by omega)
      have hb : w.cell? ⟨bb, offb + k, none⟩ = some (.int .u8 (ys.getD k 0)) := hcb k (by omega)
      obtain ⟨x, ex⟩ : ∃ x, x = xs.getD k 0 := ⟨_, rfl⟩
      obtain ⟨y, ey⟩ : ∃ y, y = ys.getD k 0 := ⟨_, rfl⟩
      have EX : Hid (x = xs.getD k 0) := ex
      have EY : Hid (y = ys.getD k 0) := ey
      rw [← ex] at ha
      rw [← ey] at hb
      have hi : (k : Int) < (L : Int) := by omega
      clear hca hcb ex ey h5 h6
      by_cases hxy : x = y
      · have hb1 : (x != y) = false := by simp [hxy]
        have HXY : Hid (x = y) := hxy
        clear hxy
        go_wp2_with fail
        go_quiet (fail)
        go_wp2
        go_roundw
        case rel =>
          refine ⟨k + 1, by omega, by go_num, ⟨_, rfl⟩, fun j hj => ?_⟩
          by_cases hjk : j < k
          · exact HA.out j hjk
          · have : j = k := by omega
            subst this
            rw [← EX.out, ← EY.out]; exact HXY.out
        case measure => simp [intOf]; omega
      · have hb1 : (x != y) = true := by simp [hxy]
        have HXY : Hid (¬ x = y) := hxy
        clear hxy
        go_wp2_with fail
        go_quiet (fail)
        go_wp2
        go_ret
        refine ⟨ret_bool ?_, _, drewN_drewN _ _ _⟩
        rw [HRes.out]
        refine (HE.out k (by have := H5.out; omega) ?_).symm
        rw [← EX.out, ← EY.out]; exact HXY.out
    · go_wp2
      go_ret
      refine ⟨ret_bool ?_, _, rfl⟩
      rw [HRes.out]
      exact (HF.out fun j hj => HA.out j (by have := H5.out; omega)).symm

/-- SameBytes, of any two. -/
theorem same_any (a b : Option Addr) (xs ys : List Int) (L M c d : Nat) (w : World) (hx : Rd w a xs) (hy : Rd w b ys) (hL : xs.length = L) (hM : ys.length = M) (hz : L ≤ 140737488355328) :
    Calls Try.prog 16 #[.slice a L c, .slice b M d] w fun e w' => e = .returned (.bool (decide (xs = ys))) ∧ w.grownBy w' none := by
  subst hL
  subst hM
  by_cases hl : xs.length = ys.length
  · rw [← hl]
    refine (same_loop a b xs ys c d w hx hy hl.symm hz).mono ?_
    rintro e w' ⟨rfl, n, rfl⟩
    exact ⟨rfl, gb_drewN w n⟩
  · have e : decide (xs = ys) = false := by
      simp only [decide_eq_false_iff_not]
      intro h
      exact hl (by rw [h])
    rw [e]
    refine (same_len a b _ _ c d w hl).mono ?_
    rintro e w' ⟨rfl, rfl⟩
    exact ⟨rfl, World.grownBy.refl _ _⟩

theorem bs_set (zs : List Int) (j : Nat) (u : Int) : bs (zs.set j u) = (bs zs).set j (.int .u8 u) := by simp [bs, List.map_set]
theorem Own.set {w : World} {base g n cap : Nat} {zs : List Int} (h : Own w base g n cap zs) (j : Nat) (u : Int) (hu : 0 ≤ u ∧ u ≤ 255) : Own (w.setCell ⟨g, j, none⟩ (.int .u8 u)) base g n cap (zs.set j u) := by
  refine ⟨?_, fun z hz => ?_⟩
  · rw [bs_set]; exact (h.1.stored j _).1
  · rcases List.mem_or_eq_of_mem_set hz with h1 | h1
    · exact h.2 z h1
    · subst h1; exact hu

theorem Own.tail {w : World} {base g n cap : Nat} {xs ys : List Int} (h : Own w base g n cap (xs ++ ys)) (hn : xs.length + ys.length = n) : Rd w (some ⟨g, xs.length, none⟩) ys := by
  refine ⟨.inr ⟨g, xs.length, rfl, fun i hi => ?_⟩, fun z hz => h.2 z (by simp [hz])⟩
  rw [h.cell (xs.length + i) (by omega)]
  simp [List.getD_eq_getElem?_getD, List.getElem?_append_right]
theorem Own.headR {w : World} {base g n cap : Nat} {xs ys : List Int} (h : Own w base g n cap (xs ++ ys)) (hn : xs.length + ys.length = n) : Rd w (some ⟨g, 0, none⟩) xs := by
  refine ⟨.inr ⟨g, 0, rfl, fun i hi => ?_⟩, fun z hz => h.2 z (by simp [hz])⟩
  rw [Nat.zero_add, h.cell i (by omega)]
  simp [List.getD_eq_getElem?_getD, List.getElem?_append_left hi]

theorem rd_lit (w : World) (zs : List Int) (hz : ∀ z ∈ zs, 0 ≤ z ∧ z ≤ 255) : Rd (w.alloc (.cells (bs zs).toArray 5)) (some ⟨w.heap.size, 0, none⟩) zs := by
  refine ⟨.inr ⟨w.heap.size, 0, rfl, fun i hi => ?_⟩, hz⟩
  have := news_at (w := w) (cs := bs zs) (t := 5) i (.int .u8 (zs.getD i 0)) (by simp [bs, List.getElem?_eq_getElem hi, List.getD_eq_getElem?_getD])
  have e : (⟨w.heap.size, 0, none⟩ : Addr).add i = ⟨w.heap.size, 0 + i, none⟩ := by
    by_cases h0 : i = 0
    · subst h0; rfl
    · simp [Addr.add, h0]
  rwa [e] at this

set_option maxHeartbeats 1000000 in
theorem kept_any (a : Option Addr) (zs : List Int) (base g c cap : Nat) (w : World) (hr : Rd w a zs) (ho : Own w base g (zs.length + 2) c (zs ++ [201, 201])) (hz : zs.length ≤ 140737488351232) :
    Calls Try.prog 24 #[.slice (some ⟨g, 0, none⟩) zs.length c, .slice a zs.length cap] w fun e w' => e = .returned (.bool true) ∧ w.grownBy w' (some g) := by
  have HR : Hid (Rd w a zs) := hr
  have HO : Hid (Own w base g (zs.length + 2) c (zs ++ [201, 201])) := ho
  have hcap := ho.cap.1
  have h1 : Hid (Rd w (some ⟨g, 0, none⟩) zs) := ho.headR (by simp)
  have h2 : Hid (Rd w (some ⟨g, zs.length, none⟩) [201, 201]) := ho.tail (by simp)
  obtain ⟨L, hL⟩ : ∃ L, L = zs.length := ⟨_, rfl⟩
  have H5 : Hid (zs.length = L) := hL.symm
  rw [← hL] at hz hcap HO h2 ⊢
  clear hr hL ho
  go_enter Try.func24, Try.ntmps24
  go_wp2_with fail
  refine (same_any (some ⟨g, 0, none⟩) a zs zs L L c cap _ h1.out HR.out H5.out H5.out (by omega)).mono ?_
  rintro e w1 ⟨rfl, hg1⟩
  have htt : decide (zs = zs) = true := by simp
  rw [htt]
  clear htt
  go_wp2_with fail
  have ha : w.grownBy (w1.alloc (.cells #[Value.int .u8 201, Value.int .u8 201] 5)) none := gb_trans hg1 (World.grownBy_alloc w1 _ none) (by simp)
  refine (same_any (some ⟨g, L, none⟩) (some ⟨w1.heap.size, 0, none⟩) [201, 201] [201, 201] 2 2 (c - L) 2 _ (h2.out.grown ha (by simp)) (rd_lit w1 [201, 201] (by simp)) rfl rfl (by omega)).mono ?_
  rintro e w2 ⟨rfl, hg2⟩
  have htt : decide (([201, 201] : List Int) = [201, 201]) = true := by simp
  rw [htt]
  clear htt
  have hg3 : w.grownBy w2 none := gb_trans ha hg2 (by simp)
  have HG : Hid (w.grownBy w2 none) := hg3
  have HO2 : Hid (Own w2 base g (L + 2) c (zs ++ [201, 201])) := HO.out.kept hg3 (by simp)
  clear ha hg1 hg2 hg3
  go_wp2
  go_loopw [7] (fun i wr => ∃ k : Nat, k ≤ L + 2 ∧ i = .int .i64 k ∧ w2.grownBy wr (some g) ∧ ∃ zk, Own wr base g (L + 2) c zk) (fun i _ => L + 2 - (intOf i).toNat)
  case atStart => exact ⟨0, Nat.zero_le _, rfl, World.grownBy.refl _ _, _, HO2.out⟩
  case round =>
    obtain ⟨k, hk, rfl, hgr, zk, hok⟩ := hrel
    have HGR : Hid (w2.grownBy wr (some g)) := hgr
    have HOK : Hid (Own wr base g (L + 2) c zk) := hok
    clear hgr hok
    by_cases hlt : k < L + 2
    · have hcell := HOK.out.cell k hlt
      have hfr := HOK.out.1.frozenAt k
      have hi : (k : Int) < (L : Int) + 2 := by omega
      go_wp2
      go_roundw
      case rel => exact ⟨k + 1, by omega, by go_num, gb_trans HGR.out (gb_set rfl) (fun j hj => .inr hj), _, HOK.out.set k 201 (by omega)⟩
      case measure => simp [intOf]; omega
    · go_wp2
      go_ret
      exact ⟨rfl, gb_trans (gb_any HG.out _) HGR.out (fun j hj => .inr hj)⟩

theorem gb_drew {w w1 : World} {row : Option Nat} (h : w.grownBy w1 row) : w.grownBy w1.drew row := ⟨h.os, h.tape, h.output, h.size, h.block⟩
theorem Own.drew {w : World} {base g n cap : Nat} {zs : List Int} (h : Own w base g n cap zs) : Own w.drew base g n cap zs := h

/-- append(out, xs...): out is the call's own, xs whatever is read. -/
theorem wpList_append_rd {w : World} {ops : Array Oper} {rest : List Oper} {o : Oper} {a : Act} {Q : Exit → Act → World → Prop} (hgd : o.guard = none) (s x : Operand)
    (ho : o.op = .call { callee := .builtin .append, args := #[s, x], argTypes := #[26, 26] }) (base g0 n c0 : Nat) (xs : List Int) (hs : a.eval s = .slice (some ⟨g0, 0, none⟩) n c0) (hown : Own w base g0 n c0 xs)
    (src : Option Addr) (zs : List Int) (m cap : Nat) (hx : a.eval x = .slice src m cap) (hm : zs.length = m) (hr : Rd w src zs) (hnil : src = none → cap = 0) (hlen : n + m ≤ 140737488355328)
    (h : ∀ g c w', Own w' base g (n + m) c (xs ++ zs) → w.grownBy w' (some g0) → wpList Try.prog ops Q rest (a.put o.dst (.slice (some ⟨g, 0, none⟩) (n + m) c)) w') : wpList Try.prog ops Q (o :: rest) a w := by
  obtain ⟨i0, hi, hz0, hz1, hz2⟩ := info_parts info5
  subst hm
  cases src with
  | none =>
    obtain rfl := hnil rfl
    obtain rfl := hr.none
    refine wpList_append_own_none hgd s x 26 ho base 5 i0 1 Try.underlying26 hi _ n (bs xs) hs hown.1 hx ?_
    have := h g0 c0 w (by simpa using hown) (World.grownBy.refl _ _)
    simpa using this
  | some ad =>
    have hge := hown.ge
    refine wpList_append_own _ hgd s x 26 ho base 5 i0 (.int .u8 0) 1 1 Try.underlying26 hi hz0 hz1 hz2 rfl (by decide) _ n (bs xs) hs hown.1 ad zs.length cap (bs zs) hx (by rw [bs_len]; omega) hr.news (bs_one zs) (by unfold maxLen; omega) (by omega) (by omega) ?_
    intro v' w' hown' hg hne
    rw [← bs_app] at hown'
    obtain ⟨g, c, rfl, ho'⟩ := Own.of hown' (fun h => by simpa using hne.1 h) (fun z hz => by
      rcases List.mem_append.1 hz with h1 | h1
      · exact hown.2 z h1
      · exact hr.2 z h1)
    exact h g c w' ho' hg


theorem Own.block {w : World} {base g n : Nat} {zs : List Int} (h : Own w base g n n zs) : w.heap[g]? = some (.cells (bs zs).toArray 5 (0, 0)) := by
  rcases h.1.2 with ⟨h', _⟩ | ⟨g', cap', cur, h', _, hg, _, _, hs, ht⟩
  · simp at h'
  · simp only [Value.slice.injEq, Option.some.injEq, Addr.mk.injEq, and_true, true_and] at h'
    obtain ⟨rfl, rfl⟩ := h'
    rw [hg]
    have : cur = (bs zs).toArray := by
      rw [← ht, List.take_of_length_le (by simp [hs])]
    rw [this]
theorem Own.ofBlock {w : World} {base g n : Nat} {zs : List Int} (h : w.heap[g]? = some (.cells (bs zs).toArray 5 (0, 0))) (hb : base ≤ g) (hn : zs.length = n) (hm : n ≤ maxLen) (hz : ∀ z ∈ zs, 0 ≤ z ∧ z ≤ 255) : Own w base g n n zs :=
  ⟨⟨by rw [bs_len]; omega, .inr ⟨g, n, _, rfl, hb, h, Nat.le_refl _, hm, by simp [bs_len, hn], by rw [List.take_of_length_le (by simp [bs_len, hn])]⟩⟩, hz⟩

theorem splice_bs (zs : List Int) (N : Nat) : splice (bs (List.replicate N 0)) 0 (bs zs) = bs (zs ++ List.replicate (N - zs.length) 0) := by
  simp [splice, bs, List.drop_replicate]
theorem pad_byte {zs : List Int} (hz : ∀ z ∈ zs, 0 ≤ z ∧ z ≤ 255) (m : Nat) : ∀ z ∈ zs ++ List.replicate m 0, 0 ≤ z ∧ z ≤ 255 := by
  intro z h
  rcases List.mem_append.1 h with h | h
  · exact hz z h
  · have := List.eq_of_mem_replicate h; omega
theorem size5 : (Try.prog.info? 5).map (·.size) = some 1 := by kernel_rfl
theorem below_gb {w w1 : World} (h : Below w.heap.size w w1) : w.grownBy w1 none := ⟨h.os, h.tape, h.output, h.size, fun k hk _ => h.block k hk⟩
theorem Rd.pos {w : World} {a : Option Addr} {zs : List Int} (h : Rd w a zs) (hz : 0 < (bs zs).length) : ∃ ad, a = some ad ∧ ∀ j v, (bs zs)[j]? = some v → w.cell? (ad.add j) = some v := by
  obtain ⟨b, off, rfl, _⟩ := h.at (by rwa [bs_len] at hz)
  exact ⟨_, rfl, h.news⟩
theorem own_made {w : World} {base g N : Nat} (h : w.ownsRow base 5 1 (.slice (some ⟨g, 0, none⟩) N N) N (madeCells (Value.int .u8 0).cells (N * 1)).toList) : Own w base g N N (List.replicate N 0) := by
  refine ⟨?_, fun z hz => by have := List.eq_of_mem_replicate hz; omega⟩
  have e : (Value.int .u8 0).cells = #[.int .u8 0] := rfl
  rw [e, toList_madeCells_one, Nat.mul_one] at h
  simpa [bs] using h
theorem own_spliced {w : World} {g N : Nat} {zs : List Int} (h : Hid (w.heap[g]? = some (.cells (splice (bs (List.replicate N 0)) 0 (bs zs)).toArray 5 (0, 0)))) (hl : zs.length ≤ N) (hz : ∀ z ∈ zs, 0 ≤ z ∧ z ≤ 255) (hm : N ≤ 281474976710656) : Own w g g N N (zs ++ List.replicate (N - zs.length) 0) := by
  have h' := h.out
  rw [splice_bs] at h'
  exact Own.ofBlock h' (Nat.le_refl _) (by simp; omega) (by unfold maxLen; omega) (pad_byte hz _)


theorem hold_olds {w : World} {base g n cap : Nat} {ys : List Int} (h : Own w base g n cap ys) : ∀ b, some (⟨g, 0, none⟩ : Addr) = some b → ∀ j u, (bs ys)[j]? = some u → w.cell? (b.add j) = some u := by
  intro b hb
  obtain rfl := Option.some.inj hb
  exact h.rd.news

theorem own_more {w : World} {base n : Nat} {v : Value} {ys : List Int} (h : w.ownsRow base 5 1 v n (bs ys ++ bs [201])) (hz : ∀ z ∈ ys, 0 ≤ z ∧ z ≤ 255) (hn : 0 < n) : ∃ g cap, v = .slice (some ⟨g, 0, none⟩) n cap ∧ Own w base g n cap (ys ++ [201]) := by
  rw [← bs_app] at h
  refine Own.of h (fun e => ?_) fun z hm => ?_
  · obtain ⟨g, c, e', _⟩ := h.form hn
    rw [e] at e'; cases e'
  · rcases List.mem_append.1 hm with h1 | h1
    · exact hz z h1
    · simp at h1; omega

theorem own : ownKnob Try.prog.godebug = none := by kernel_rfl
theorem laidOut : laidOutB Try.prog = true := by kernel_rfl
theorem cells5 : Try.prog.cellsOf 5 = 1 := by kernel_rfl
theorem bytes5 : Try.prog.bytesOf 5 = 1 := by kernel_rfl

theorem open_bytes {H : Type} {enc : TypeId × Value → H} {W : World} {a0 : Option Addr} {len0 cap0 : Nat} {d0 : DataW H} {p0 : List MemPlace} {ts : List TypeId} {ds : List (DataW H)}
    (h0 : DataW.Trod enc Try.prog W 0 (fun _ => true) true 26 (.slice a0 len0 cap0) d0 p0) (hsz : (DataW.weightsEach Try.prog ts ds).all (· ≤ reachBytes) = true) {j : Nat} (ht : ts[j]? = some 26) (hd : ds[j]? = some d0) :
    ∃ zs : List Int, zs.length = len0 ∧ Rd W a0 zs ∧ (a0 = none → cap0 = 0) ∧ zs.length ≤ 140737488351232 := by
  obtain ⟨fuel, hf⟩ := h0
  rcases open_ints Try.underlying26 Try.underlying5 cells5 hf with ⟨hcs, _⟩ | ⟨x, l, c, zs, hcs, _, hl, hm, hz, hx, hcell, hwz⟩
  · simp [Value.cells] at hcs
    obtain ⟨rfl, rfl, rfl⟩ := hcs
    exact ⟨[], rfl, ⟨.inl rfl, by simp⟩, fun _ => rfl, by simp⟩
  · simp [Value.cells] at hcs
    obtain ⟨rfl, rfl, rfl⟩ := hcs
    simp only [Prod.mk.injEq] at hx
    obtain ⟨rfl, rfl⟩ := hx
    simp only [if_true] at hz
    have hreach := sized_slice hsz ht hd Try.underlying26
    rw [bytes5] at hreach
    simp only [lits, List.length_map, List.length_take, List.length_drop, reachBytes] at hreach
    refine ⟨zs.take len0, by simp; omega, ⟨?_, fun z hz' => ?_⟩, by simp, by simp; omega⟩
    · by_cases h0 : len0 = 0
      · left; simp [h0]
      · right
        obtain ⟨b, off, spot⟩ := x
        have hspot : spot = none := by simpa [Addr.add] using World.cell?_spot (hcell 0 (by omega))
        subst hspot
        refine ⟨b, off, rfl, fun i hi => ?_⟩
        have hi' : i < len0 := by simp at hi; omega
        have := hcell i (by omega)
        rw [← add_plain, this]
        simp [List.getD_eq_getElem?_getD, hi']
    · exact bounds_u8 (hwz z (List.mem_of_mem_take hz'))
theorem and_low (x : Int) : 0 ≤ bits .and .i64 x 9223372036854775807 ∧ bits .and .i64 x 9223372036854775807 ≤ 9223372036854775807 := by
  have e : bits .and .i64 x 9223372036854775807 = IntKind.i64.wrap ((BitVec.ofInt 64 x &&& BitVec.ofInt 64 9223372036854775807).toNat : Int) := rfl
  have hb : (BitVec.ofInt 64 x &&& BitVec.ofInt 64 9223372036854775807).toNat ≤ 9223372036854775807 := by
    rw [BitVec.toNat_and]
    refine Nat.le_trans Nat.and_le_right ?_
    decide
  rw [e]
  generalize (BitVec.ofInt 64 x &&& BitVec.ofInt 64 9223372036854775807).toNat = t at *
  have : IntKind.i64.wrap (t : Int) = ((t : Int) + 9223372036854775808) % 18446744073709551616 - 9223372036854775808 := by
    simp [IntKind.wrap, IntKind.bits, IntKind.signed]
    split <;> omega
  omega

end Go.Proofs.Ytailaehpgmpaaaa
