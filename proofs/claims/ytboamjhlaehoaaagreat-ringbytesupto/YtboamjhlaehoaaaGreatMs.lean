/- Several texts in one: Sm, Sn. -/
import Derived.Test.YtboamjhlaehoaaaGreatMj
import Derived.Test.YtboamjhlaehoaaaGreatMq
import Derived.Test.YtboamjhlaehoaaaGreatMr
/- Rings: the calls as the laws use them. -/
namespace Go.Proofs.YtboamjhlaehoaaaGreat
open Go.RowKit
set_option linter.unusedVariables false
set_option maxRecDepth 20000

theorem ok_small {ms : List Mem} (ho : ringOk ms = true) : ms.length ≤ 16 ∧ ∀ s ∈ ms, s.2.2.length ≤ 64 := ⟨ringOk_len ho, fun s hs => (memOk_of ho hs).2.2.2⟩
/-- A ring in memory: its box, its members. -/
structure RgBox (w : World) (B : Nat) (E : Int) (a : Option Addr) (n c : Nat) (ms : List Mem) (raw : List MRow) : Prop where
  box : w.heap[B]? = some (.cells #[.int .u64 E, .slice a n c] 25 (0, 0))
  rd : MsRd w a ms raw
  nil : a = none → c = 0
  len : ms.length = n
theorem RgBox.grown {w w' : World} {B : Nat} {E : Int} {a : Option Addr} {n c : Nat} {ms : List Mem} {raw : List MRow} (h : RgBox w B E a n c ms raw) (hg : w.grownBy w' none) : RgBox w' B E a n c ms raw :=
  ⟨by rw [hg.block B (Array.getElem?_eq_some_iff.1 h.box).1 (by simp)]; exact h.box, h.rd.grown hg, h.nil, h.len⟩
theorem RgBox.made {w : World} {E : Int} {a : Option Addr} {n c : Nat} {ms : List Mem} {raw : List MRow} (h : MsRd w a ms raw) (hn : a = none → c = 0) (hl : ms.length = n) : RgBox (w.alloc (.cells #[.int .u64 E, .slice a n c] 25)) w.heap.size E a n c ms raw :=
  ⟨heap_alloc_new w _, h.grown (World.grownBy_alloc _ _ none), hn, hl⟩
theorem RgBox.cells {w : World} {B : Nat} {E : Int} {a : Option Addr} {n c : Nat} {ms : List Mem} {raw : List MRow} (h : RgBox w B E a n c ms raw) : w.cell? ⟨B, 0, none⟩ = some (.int .u64 E) ∧ w.cell? ⟨B, 1, none⟩ = some (.slice a n c) := cell2 h.box
/-- A change that is refused. -/
def NoOut (q : Int) (w : World) (e : Ending) (w' : World) : Prop := ∃ E2 a2 n2 c2, e = .returned (.tuple #[.agg #[.int .u64 E2, .slice a2 n2 c2], .int .i64 q]) ∧ w.grownBy w' none
/-- A ring that is answered. -/
def YesOut (E : Int) (M : List Mem) (n : Nat) (w : World) (e : Ending) (w' : World) : Prop := ∃ a2 c2 raw2, e = .returned (.tuple #[.agg #[.int .u64 E, .slice a2 n c2], .int .i64 0]) ∧ MsRd w' a2 M raw2 ∧ (a2 = none → c2 = 0) ∧ w.grownBy w' none
theorem rg_no {k : Nat} {E id : Int} {ms : List Mem} {w w' : World} {e : Ending} {q : Int} (hq : chgE k E ms id = q) (h : RgOut k E ms id w e w') : NoOut q w e w' := by
  obtain ⟨E', a', n', c', rfl, hg, _, _⟩ := h
  exact ⟨E', a', n', c', by rw [hq], hg⟩
theorem rg_yes {k : Nat} {E E1 id : Int} {ms M : List Mem} {n : Nat} {w w' : World} {e : Ending} (hq : chgE k E ms id = 0) (hE : E + 1 = E1) (hM : chgM k ms id = M) (hn : M.length = n) (h : RgOut k E ms id w e w') : YesOut E1 M n w e w' := by
  obtain ⟨E', a', n', c', rfl, hg, h1, _⟩ := h
  obtain ⟨rfl, e2, raw', h3⟩ := h1 hq
  rw [hM] at e2 h3
  obtain rfl : n' = n := by omega
  have := h3.rd
  exact ⟨a', c', raw', by rw [hq, hE], this.1, this.2, hg⟩
/-- A copy of a ring. -/
def CpOut (E : Int) (M : List Mem) (n : Nat) (w : World) (e : Ending) (w' : World) : Prop := ∃ a' c' raw', e = .returned (.agg #[.int .u64 E, .slice a' n c']) ∧ MsRd w' a' M raw' ∧ (a' = none → c' = 0) ∧ w.grownBy w' none
theorem cp_any {E : Int} {a : Option Addr} {raw : List MRow} {ms : List Mem} {L c : Nat} {w : World} (hx : MsRd w a ms raw) (hL : ms.length = L) (hz : L ≤ 3518437208800) (hz2 : ∀ s ∈ ms, s.2.2.length ≤ 35184372088832) :
    Calls Tryz.prog 9 #[.agg #[.int .u64 E, .slice a L c]] w fun e w' => CpOut E ms L w e w' := by
  refine (rcopy E a raw ms L c w hx hL (by omega) hz2).mono ?_
  rintro e w' ⟨a', c', raw', rfl, ho, hg⟩
  exact ⟨a', c', raw', rfl, ho.rd.1, ho.rd.2, hg⟩
theorem cp_ok {E : Int} {a : Option Addr} {raw : List MRow} {ms : List Mem} {L c : Nat} {w : World} (hx : MsRd w a ms raw) (hL : ms.length = L) (ho : ringOk ms = true) :
    Calls Tryz.prog 9 #[.agg #[.int .u64 E, .slice a L c]] w fun e w' => CpOut E ms L w e w' := by
  obtain ⟨h1, h2⟩ := ok_small ho
  exact cp_any hx hL (by omega) (fun s hs => by have := h2 s hs; omega)
/-- The four changes of a ring that may be. -/
theorem ch0 {E id : Int} {a : Option Addr} {raw : List MRow} {ms : List Mem} {n c : Nat} {w : World} (hr : MsRd w a ms raw) (hn : ms.length = n) (hnil : a = none → c = 0) (hE : 0 ≤ E ∧ E ≤ 18446744073709551615) (ho : ringOk ms = true) :
    Calls Tryz.prog 10 #[.agg #[.int .u64 E, .slice a n c], .int .i64 id] w fun e w' => RgOut 0 E ms id w e w' := by
  obtain ⟨h1, h2⟩ := ok_small ho
  exact f_chg0 E ms raw id a n c w hr hn hnil hE (by omega) (fun s hs => by have := h2 s hs; omega)
theorem ch1 {E id : Int} {a : Option Addr} {raw : List MRow} {ms : List Mem} {n c : Nat} {w : World} (hr : MsRd w a ms raw) (hn : ms.length = n) (hnil : a = none → c = 0) (hE : 0 ≤ E ∧ E ≤ 18446744073709551615) (ho : ringOk ms = true) :
    Calls Tryz.prog 11 #[.agg #[.int .u64 E, .slice a n c], .int .i64 id] w fun e w' => RgOut 1 E ms id w e w' := by
  obtain ⟨h1, h2⟩ := ok_small ho
  exact f_chg1 E ms raw id a n c w hr hn hnil hE (by omega) (fun s hs => by have := h2 s hs; omega)
theorem ch2 {E id : Int} {a : Option Addr} {raw : List MRow} {ms : List Mem} {n c : Nat} {w : World} (hr : MsRd w a ms raw) (hn : ms.length = n) (hnil : a = none → c = 0) (hE : 0 ≤ E ∧ E ≤ 18446744073709551615) (ho : ringOk ms = true) :
    Calls Tryz.prog 12 #[.agg #[.int .u64 E, .slice a n c], .int .i64 id] w fun e w' => RgOut 2 E ms id w e w' := by
  obtain ⟨h1, h2⟩ := ok_small ho
  exact f_chg2 E ms raw id a n c w hr hn hnil hE (by omega) (fun s hs => by have := h2 s hs; omega)
theorem ch3 {E id : Int} {a : Option Addr} {raw : List MRow} {ms : List Mem} {n c : Nat} {w : World} (hr : MsRd w a ms raw) (hn : ms.length = n) (hnil : a = none → c = 0) (hE : 0 ≤ E ∧ E ≤ 18446744073709551615) (ho : ringOk ms = true) :
    Calls Tryz.prog 13 #[.agg #[.int .u64 E, .slice a n c], .int .i64 id] w fun e w' => RgOut 3 E ms id w e w' := by
  obtain ⟨h1, h2⟩ := ok_small ho
  exact f_chg3 E ms raw id a n c w hr hn hnil hE (by omega) (fun s hs => by have := h2 s hs; omega)
theorem st_ok {E id q : Int} {a : Option Addr} {raw : List MRow} {ms : List Mem} {n c : Nat} {w : World} (hr : MsRd w a ms raw) (hn : ms.length = n) (ho : ringOk ms = true) (hq : stOf ms id = q) :
    Calls Tryz.prog 17 #[.agg #[.int .u64 E, .slice a n c], .int .i64 id] w fun e w' => e = .returned (.int .i64 q) ∧ w.grownBy w' none := by
  obtain ⟨h1, h2⟩ := ok_small ho
  rw [← hq]
  exact f_state E ms raw id a n c w hr hn (by omega) (fun s hs => by have := h2 s hs; omega)
theorem rp_ok {E h rf : Int} {a : Option Addr} {raw : List MRow} {ms : List Mem} {n c : Nat} {w : World} (hr : MsRd w a ms raw) (hn : ms.length = n) (ho : ringOk ms = true) :
    Calls Tryz.prog 26 #[.agg #[.int .u64 E, .slice a n c], .int .u32 h, .int .i64 rf] w fun e w' => RpOut ms h rf w e w' := by
  obtain ⟨h1, h2⟩ := ok_small ho
  exact f_replicas E ms raw h rf a n c w hr hn (by omega) (fun s hs => by have := h2 s hs; omega)
end Go.Proofs.YtboamjhlaehoaaaGreat

/- Rings: what every program answers: awake. -/
namespace Go.Proofs.YtboamjhlaehoaaaGreat
open Go.RowKit
set_option linter.unusedVariables false
set_option maxRecDepth 20000

theorem ownV_rd {w : World} {base n : Nat} {v : Value} {zs : List Int} (h : OwnV w base v n zs) : ∃ a c, v = .slice a n c ∧ Rd w a zs ∧ zs.length = n ∧ n ≤ c ∧ (∀ x, a = some x → Typed w x.block 5) := by
  by_cases hn : v = .slice none 0 0
  · subst hn
    have hl := h.len
    rcases h.1.2 with ⟨_, h0⟩ | ⟨g, cap, cur, h', _⟩
    · obtain rfl : n = 0 := by omega
      obtain rfl : zs = [] := List.length_eq_zero_iff.1 hl
      exact ⟨none, 0, rfl, ⟨.inl rfl, by simp⟩, rfl, Nat.le_refl _, fun x hx => by cases hx⟩
    · simp at h'
  · obtain ⟨g, cap, rfl, ho⟩ := Own.of h.1 hn h.2
    refine ⟨some ⟨g, 0, none⟩, cap, rfl, ho.rd, ho.len, ho.cap.1, fun x hx => ?_⟩
    cases hx
    rcases h.1.2 with ⟨h', _⟩ | ⟨g', cap', cur, h', _, h2, _⟩
    · simp at h'
    · simp only [Value.slice.injEq, Option.some.injEq, Addr.mk.injEq] at h'
      obtain ⟨⟨rfl, _⟩, _⟩ := h'
      exact ⟨cur, h2⟩
theorem dec_enc {E : Int} {M : List Mem} {n : Nat} (hE : 0 ≤ E ∧ E ≤ 18446744073709551615) (ho : ringOk M = true) (ht : wfT M) (hn : M.length = n) : ringR (encAll (nrs E n M)) = (E, M, true) ∧ decC (encAll (nrs E n M)) = 0 := by
  subst hn
  have h := ring_back E M hE ho ht
  exact ⟨h, by unfold decC; rw [h]; simp [ho]⟩
/-- Encode, then Decode. -/
theorem enc_ok {E : Int} {M : List Mem} {n c : Nat} {a : Option Addr} {raw : List MRow} {w : World} (hr : MsRd w a M raw) (hn : M.length = n) (hE : 0 ≤ E ∧ E ≤ 18446744073709551615) (ho : ringOk M = true) (ht : wfT M) :
    Calls Tryz.prog 32 #[.agg #[.int .u64 E, .slice a n c]] w fun e w' => ∃ a' L c', e = .returned (.tuple #[.slice a' L c', .int .i64 0]) ∧ Rd w' a' (encAll (nrs E n M)) ∧ (encAll (nrs E n M)).length = L ∧ L ≤ c' ∧ (∀ x, a' = some x → Typed w' x.block 5 ∧ w.heap.size ≤ x.block) ∧ (L : Int) ≤ 140737488355000 ∧ w.grownBy w' none := by
  obtain ⟨h1, h2⟩ := ok_small ho
  refine (f_encode E M raw a n c w hr hn hE ht (by omega) (fun s hs => by have := h2 s hs; omega)).mono ?_
  rintro e w' ⟨hg, ⟨_, v, k, rfl, hv⟩ | ⟨hb, _⟩⟩
  · have hblk := hv.block
    obtain ⟨a', c', rfl, r1, r2, r3, r4⟩ := ownV_rd hv
    have hl := encAll_len (nrs E n M) (nrs_range hE ho ht hn)
    have hsz : (nrs E n M).length ≤ 100000 := by
      have hfl : ∀ l : List Mem, (∀ s ∈ l, s.2.2.length ≤ 64) → (l.flatMap nmem).length ≤ 67 * l.length := by
        intro l
        induction l with
        | nil => intro _; simp
        | cons x l ih =>
          intro h
          have := ih (fun s hs => h s (List.mem_cons_of_mem _ hs))
          have := h x (List.mem_cons_self ..)
          have e : (nmem x).length ≤ 67 := by simp only [nmem, List.length_append, List.length_cons, List.length_nil]; omega
          rw [List.flatMap_cons, List.length_append, List.length_cons]
          omega
      have := hfl M h2
      simp only [nrs, List.length_append, List.length_cons, List.length_nil]
      omega
    refine ⟨a', k, c', rfl, r1, r2, r3, fun x hx => ⟨r4 x hx, ?_⟩, by omega, hg⟩
    subst hx
    exact (hblk x.block (by rcases hv.1.2 with ⟨h', _⟩ | ⟨g', cap', cur, h', _, h2, _⟩
                            · simp at h'
                            · simp only [Value.slice.injEq, Option.some.injEq] at h'
                              obtain ⟨rfl, _⟩ := h'
                              rfl)).1
  · rw [ho] at hb; cases hb
theorem dec_ok {E : Int} {M : List Mem} {n L c : Nat} {a : Option Addr} {w : World} (hr : Rd w a (encAll (nrs E n M))) (hL : (encAll (nrs E n M)).length = L) (hc : L ≤ c) (hs : (L : Int) ≤ 140737488355000) (hty : ∀ x, a = some x → Typed w x.block 5) (hn : M.length = n) (hE : 0 ≤ E ∧ E ≤ 18446744073709551615) (ho : ringOk M = true) (ht : wfT M) :
    Calls Tryz.prog 33 #[.slice a L c] w fun e w' => YesOut E M n w e w' := by
  refine (f_decode w a L c _ hr hL hc hs hty (fun k => hr.byte k)).mono ?_
  rintro e w' ⟨E', a', n', c', rfl, hg, h1, _⟩
  obtain ⟨e1, e2⟩ := dec_enc hE ho ht hn
  obtain ⟨rfl, h3, raw', h4⟩ := h1 e2
  rw [e1] at h3 h4 ⊢
  simp only at h3 h4 ⊢
  obtain rfl : n' = n := by omega
  exact ⟨a', c', raw', by rw [e2], h4.rd.1, h4.rd.2, hg⟩
end Go.Proofs.YtboamjhlaehoaaaGreat

