/- Slices that the calls make: copied, lent, held against one another. -/
import Derived.Test.YtmljokpghhfcjaaSmall
import Derived.Laws.AppendOwnNone
import Derived.Deep.AppendLies
import Derived.Laws.CopyOwn
import Derived.Deep.QuietTactic
import Derived.BigQuiet
namespace Go.Proofs.Ytmljokpghhfcjaa
open Go.RowKit

theorem info5 : (Try.prog.info? 5).map (fun i => (i.zero, i.size, i.bytes)) = some (some (.int .u8 0), 1, 1) := by kernel_rfl

def bs (zs : List Int) : List Value := zs.map (Value.int .u8)
theorem bs_len (zs : List Int) : (bs zs).length = zs.length := by simp [bs]
theorem bs_app (xs ys : List Int) : bs (xs ++ ys) = bs xs ++ bs ys := by simp [bs]
theorem bs_one (zs : List Int) : ∀ u ∈ bs zs, u.oneCell' = true := ints_oneCell .u8 zs

/-- Behind two steps: what the second wrote is new, or what the first wrote. -/
theorem gb_trans {w w1 w2 : World} {row row' : Option Nat} (h : w.grownBy w1 row) (h' : w1.grownBy w2 row') (hr : ∀ k, row' = some k → w.heap.size ≤ k ∨ row = some k) : w.grownBy w2 row :=
  ⟨h'.os.trans h.os, h'.tape.trans h.tape, h'.output.trans h.output, Nat.le_trans h.size h'.size, fun k hk hne =>
    (h'.block k (Nat.lt_of_lt_of_le hk h.size) (fun e => by
      rcases hr k e.symm with h1 | h1
      · omega
      · exact hne h1.symm)).trans (h.block k hk hne)⟩
theorem gb_any {w w1 : World} (h : w.grownBy w1 none) (row : Option Nat) : w.grownBy w1 row := ⟨h.os, h.tape, h.output, h.size, fun k hk _ => h.block k hk (by simp)⟩
theorem gb_drewN (w : World) (n : Nat) : w.grownBy (w.drewN n) none := ⟨rfl, rfl, rfl, Nat.le_refl _, fun _ _ _ => rfl⟩
theorem gb_set {w : World} {p : Addr} {u : Value} {g : Nat} (h : p.block = g) : w.grownBy (w.setCell p u) (some g) :=
  ⟨rfl, rfl, rfl, by simp [World.setCell], fun k _ hne => Below.heap_setCell w p u k (fun e => hne (by rw [e, h]))⟩
theorem gb_below {w w1 : World} (h : w.grownBy w1 none) : Below w.heap.size w w1 := (Below.refl _ _).grown h (Nat.le_refl _) (by simp)

theorem Rd.grown {w w' : World} {row : Option Nat} {a : Option Addr} {zs : List Int} (h : Rd w a zs) (hg : w.grownBy w' row) (hne : ∀ x, a = some x → some x.block ≠ row) : Rd w' a zs := by
  refine ⟨?_, h.2⟩
  rcases h.1 with rfl | ⟨b, off, rfl, hc⟩
  · exact .inl rfl
  · exact .inr ⟨b, off, rfl, fun i hi => hg.cell (hc i hi) (hne ⟨b, off, none⟩ rfl)⟩

theorem Rd.news {w : World} {ad : Addr} {zs : List Int} (h : Rd w (some ad) zs) : ∀ j u, (bs zs)[j]? = some u → w.cell? (ad.add j) = some u := by
  intro j u hu
  rcases h.1 with rfl | ⟨b, off, e, hc⟩
  · simp [bs] at hu
  · obtain rfl := Option.some.inj e
    have hj : j < zs.length := by
      rw [← bs_len]; exact (List.getElem?_eq_some_iff.1 hu).1
    have := hc j hj
    simp only [bs, List.getElem?_map, List.getElem?_eq_getElem hj, Option.map_some, Option.some.injEq] at hu
    subst hu
    have e : (⟨b, off, none⟩ : Addr).add j = ⟨b, off + j, none⟩ := by
      by_cases h0 : j = 0
      · subst h0; rfl
      · simp [Addr.add, h0]
    rw [e, this]
    simp [List.getD_eq_getElem?_getD, List.getElem?_eq_getElem hj]

/-- A slice of bytes that the call made. -/
def Own (w : World) (base g n cap : Nat) (zs : List Int) : Prop := w.ownsRow base 5 1 (.slice (some ⟨g, 0, none⟩) n cap) n (bs zs) ∧ ∀ z ∈ zs, 0 ≤ z ∧ z ≤ 255
theorem Own.len {w : World} {base g n cap : Nat} {zs : List Int} (h : Own w base g n cap zs) : zs.length = n := by
  have := h.1.1; rw [bs_len] at this; omega
theorem Own.ge {w : World} {base g n cap : Nat} {zs : List Int} (h : Own w base g n cap zs) : base ≤ g ∧ g < w.heap.size := h.1.lt g rfl
theorem Own.cap {w : World} {base g n cap : Nat} {zs : List Int} (h : Own w base g n cap zs) : n ≤ cap ∧ cap ≤ maxLen := by
  rcases h.1.2 with ⟨h', _⟩ | ⟨g', cap', cur, h', _, hg, h1, h2, _⟩
  · simp at h'
  · simp only [Value.slice.injEq] at h'
    obtain ⟨_, _, rfl⟩ := h'
    exact ⟨h1, h2⟩
theorem Own.cell {w : World} {base g n cap : Nat} {zs : List Int} (h : Own w base g n cap zs) (i : Nat) (hi : i < n) : w.cell? ⟨g, i, none⟩ = some (.int .u8 (zs.getD i 0)) := by
  have hl := h.len
  rw [h.1.cellAt i (by omega)]
  simp only [bs, List.getElem?_map, List.getElem?_eq_getElem (show i < zs.length by omega), Option.map_some, List.getD_eq_getElem?_getD, Option.getD_some]
theorem Own.kept {w w' : World} {row : Option Nat} {base g n cap : Nat} {zs : List Int} (h : Own w base g n cap zs) (hg : w.grownBy w' row) (hne : some g ≠ row) : Own w' base g n cap zs :=
  ⟨h.1.kept hg (.inr (by simpa [Value.ownBlock] using hne)), h.2⟩
theorem Own.rd {w : World} {base g n cap : Nat} {zs : List Int} (h : Own w base g n cap zs) : Rd w (some ⟨g, 0, none⟩) zs :=
  ⟨.inr ⟨g, 0, rfl, fun i hi => by rw [Nat.zero_add]; exact h.cell i (by rw [← h.len]; exact hi)⟩, h.2⟩
theorem Own.base {w : World} {base base' g n cap : Nat} {zs : List Int} (h : Own w base g n cap zs) (hb : base' ≤ base) : Own w base' g n cap zs := by
  refine ⟨⟨h.1.1, ?_⟩, h.2⟩
  rcases h.1.2 with h' | ⟨g', cap', cur, h', h0, r⟩
  · exact .inl h'
  · exact .inr ⟨g', cap', cur, h', Nat.le_trans hb h0, r⟩
theorem Own.of {w : World} {base n : Nat} {v : Value} {zs : List Int} (h : w.ownsRow base 5 1 v n (bs zs)) (hn : v ≠ .slice none 0 0) (hz : ∀ z ∈ zs, 0 ≤ z ∧ z ≤ 255) : ∃ g cap, v = .slice (some ⟨g, 0, none⟩) n cap ∧ Own w base g n cap zs := by
  rcases h.2 with ⟨h', _⟩ | ⟨g', cap', cur, h', _⟩
  · exact absurd h' hn
  · subst h'
    exact ⟨g', cap', rfl, h, hz⟩

theorem Rd.none {w : World} {zs : List Int} (h : Rd w none zs) : zs = [] := by
  rcases h.1 with h | ⟨b, off, e, _⟩
  · exact h
  · cases e

theorem own_empty (w : World) : Own (w.alloc (.cells #[] 5)) w.heap.size w.heap.size 0 0 [] :=
  ⟨by simpa [bs] using World.ownsRow_made (e := 5) (size := 1) w #[] 0 (Nat.le_refl _) (Nat.zero_le _) rfl, by simp⟩

set_option maxHeartbeats 400000 in
theorem copy_any (a : Option Addr) (zs : List Int) (cap : Nat) (w : World) (hr : Rd w a zs) (hnil : a = none → cap = 0) (hz : zs.length ≤ 140737488351232) :
    Calls Try.prog 13 #[.slice a zs.length cap] w fun e w' => ∃ g c, e = .returned (.slice (some ⟨g, 0, none⟩) zs.length c) ∧ Own w' w.heap.size g zs.length c zs ∧ w.grownBy w' none := by
  obtain ⟨i0, hi, hz0, hz1, hz2⟩ := info_parts info5
  cases a with
  | none =>
    obtain rfl := hnil rfl
    obtain rfl := hr.none
    clear hr hnil
    go_enter Try.func13, Try.ntmps13
    go_wp2
    go_ret
    exact ⟨w.heap.size, 0, rfl, own_empty w, World.grownBy_alloc w _ _⟩
  | some ad =>
    have hnews := (hr.grown (World.grownBy_alloc w (.cells #[] 5) none) (by simp)).news
    have hbyt := hr.2
    have hlen := bs_len zs
    have hone := bs_one zs
    obtain ⟨L, hL⟩ : ∃ L, L = zs.length := ⟨_, rfl⟩
    have H5 : Hid (L = zs.length) := hL
    have HB : Hid (∀ z ∈ zs, 0 ≤ z ∧ z ≤ 255) := hbyt
    rw [← hL] at hz hlen ⊢
    have HN : Hid (∀ j u, (bs zs)[j]? = some u → (w.alloc (.cells #[] 5)).cell? (ad.add j) = some u) := hnews
    have HO : Hid (∀ u ∈ bs zs, u.oneCell' = true) := hone
    have HLn : Hid ((bs zs).length = L) := hlen
    clear hnil hr hL hbyt hone hnews hlen
    go_enter Try.func13, Try.ntmps13
    go_wp2_with (at_builtin; refine wpList_append_own _ rfl _ _ 22 rfl w.heap.size 5 i0 (.int .u8 0) 1 1 Try.underlying22 hi hz0 hz1 hz2 rfl (by decide) (.slice (some ⟨w.heap.size, 0, none⟩) 0 0) 0 [] rfl (own_empty w).1 ad L cap (bs zs) rfl (by rw [HLn.out]; omega) HN.out HO.out (by unfold maxLen; omega) (by omega) (by simp) ?_; intro v' w1 hown hgrow hne)
    have hne' : v' ≠ .slice none 0 0 := fun h => by simpa using hne.1 h
    have ho' : w1.ownsRow w.heap.size 5 1 v' L (bs zs) := by simpa using hown
    obtain ⟨g, c, rfl, ho⟩ := Own.of ho' hne' HB.out
    clear hne hne' ho' hown
    go_wp2
    go_ret
    exact ⟨g, c, rfl, ho, gb_trans (World.grownBy_alloc w _ none) hgrow (by simp [Value.ownBlock])⟩

theorem gb_new {w : World} {o : Obj} {w1 w2 : World} (h : w.grownBy w1 none) (h2 : (w1.alloc o).grownBy w2 none) : w.grownBy w2 none :=
  gb_trans (gb_trans h (World.grownBy_alloc w1 o none) (by simp)) h2 (by simp)

theorem news_at {w : World} {cs : List Value} {t : TypeId} : ∀ j u, cs[j]? = some u → (w.alloc (.cells cs.toArray t)).cell? ((⟨w.heap.size, 0, none⟩ : Addr).add j) = some u := by
  have := World.news_of_block (w := w.alloc (.cells cs.toArray t)) (B := w.heap.size) (cs := cs.toArray) (t := t) (fr := (0, 0)) (heap_alloc_new w _)
  simpa using this

theorem own_app {w : World} {base n : Nat} {v : Value} {zs : List Int} (h : w.ownsRow base 5 1 v n (bs zs ++ bs [201, 201])) (hn : v ≠ .slice none 0 0) (hz : ∀ z ∈ zs, 0 ≤ z ∧ z ≤ 255) : ∃ g cap, v = .slice (some ⟨g, 0, none⟩) n cap ∧ Own w base g n cap (zs ++ [201, 201]) := by
  rw [← bs_app] at h
  refine Own.of h hn fun z hm => ?_
  rcases List.mem_append.1 hm with h1 | h1
  · exact hz z h1
  · simp at h1; omega

set_option maxHeartbeats 400000 in
theorem lend_any (a : Option Addr) (zs : List Int) (cap : Nat) (w : World) (hr : Rd w a zs) (hnil : a = none → cap = 0) (hz : zs.length ≤ 140737488351232) :
    Calls Try.prog 9 #[.slice a zs.length cap] w fun e w' => ∃ g c, e = .returned (.slice (some ⟨g, 0, none⟩) zs.length c) ∧ Own w' w.heap.size g (zs.length + 2) c (zs ++ [201, 201]) ∧ w.grownBy w' none := by
  obtain ⟨i0, hi, hz0, hz1, hz2⟩ := info_parts info5
  have HC := copy_any a zs cap w hr hnil hz
  have HB : Hid (∀ z ∈ zs, 0 ≤ z ∧ z ≤ 255) := hr.2
  obtain ⟨L, hL⟩ : ∃ L, L = zs.length := ⟨_, rfl⟩
  have H5 : Hid (L = zs.length) := hL
  rw [← hL] at hz HC ⊢
  clear hr hnil hL
  go_enter Try.func9, Try.ntmps9
  go_wp2_with (first | (go_at_call 13; refine HC.mono ?_; rintro e w1 ⟨g, c, rfl, ho, hg1⟩; have hz' := hg1.size) | (at_builtin; refine wpList_append_own _ rfl (.tmp 5) (.tmp 6) 22 rfl w.heap.size 5 i0 (.int .u8 0) 1 1 Try.underlying22 hi hz0 hz1 hz2 rfl (by decide) (.slice (some ⟨g, 0, none⟩) L c) L (bs zs) rfl (ho.1.alloc _) ⟨w1.heap.size, 0, none⟩ 2 2 (bs [201, 201]) rfl rfl (news_at (cs := bs [201, 201])) (bs_one _) (by unfold maxLen; omega) (by omega) (by simp; omega) ?_; intro v' w2 hown hgrow hne; obtain ⟨g2, c2, rfl, ho2⟩ := own_app hown (fun h => by simpa using hne.1 h) HB.out; have hcap := ho2.cap.1; clear hne hown))
  go_ret
  refine ⟨g2, c2, rfl, ho2, ?_⟩
  exact gb_trans (gb_trans hg1 (World.grownBy_alloc w1 _ none) (by simp)) hgrow (fun k hk => .inl (by simp [Value.ownBlock] at hk; have := ho.ge; omega))
end Go.Proofs.Ytmljokpghhfcjaa
