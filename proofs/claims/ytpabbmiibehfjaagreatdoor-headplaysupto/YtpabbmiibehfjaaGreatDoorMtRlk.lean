/- A pattern made ready, against a text; Like. -/
import Derived.Test.YtpabbmiibehfjaaGreatDoorMtRcomp
import Derived.Test.YtpabbmiibehfjaaGreatDoorMtRfits
import Derived.Test.YtpabbmiibehfjaaGreatDoorMtRsays
namespace Go.Proofs.YtpabbmiibehfjaaGreatDoor.Mt
open Go.RowKit
set_option linter.unusedVariables false

/-- A pattern lies ready: its alternatives' slices, their pieces. -/
def PatRd (w : World) (g : Nat) (ps : List ByteArray) : Prop :=
  ∀ k x, ps[k]? = some x → ∃ b, g ≤ b ∧ w.cell? ⟨g, k, none⟩ = some (.slice (some ⟨b, 0, none⟩) (pieces x).length (pieces x).length) ∧ ∀ j s, (pieces x)[j]? = some s → w.cell? ⟨b, j, none⟩ = some (.string s)
theorem AltsIn.get {B : Nat} {W : World} : ∀ {vs : List Value} {az : List ByteArray}, AltsIn B W vs az → ∀ (k : Nat) (x : ByteArray), az[k]? = some x → ∃ b : Nat, B ≤ b ∧ vs[k]? = some (Value.slice (some ⟨b, 0, none⟩) (pieces x).length (pieces x).length) ∧ W.heap[b]? = some (Obj.cells ((pieces x).map Value.string).toArray 9 (0, 0))
  | [], [], _, k, x, h => by simp at h
  | v :: vs, a :: az, ⟨⟨b, hbB, hv, hc⟩, hr⟩, k, x, h => by
    cases k with
    | zero =>
      simp only [List.getElem?_cons_zero, Option.some.injEq] at h
      subst h
      exact ⟨b, hbB, by rw [List.getElem?_cons_zero, hv], hc⟩
    | succ k =>
      simp only [List.getElem?_cons_succ] at h ⊢
      exact AltsIn.get hr k x h
theorem patRd_of {W : World} {B base g n cap : Nat} {vs : List Value} {ps : List ByteArray} (hr : W.ownsRow base 147 1 (.slice (some ⟨g, 0, none⟩) n cap) n vs) (ha : AltsIn B W vs ps) (hn : ps.length = n) (hgB : g ≤ B) : PatRd W g ps := by
  intro k x hk
  obtain ⟨b, hbB, hv, hc⟩ := ha.get k x hk
  refine ⟨b, by omega, ?_, ?_⟩
  · obtain ⟨h1, h2 | ⟨g', cap', cur, e, hb, hcells, hle, _, hsz, ht⟩⟩ := hr
    · cases h2.1
    · cases e
      have hkn : k < n := by rw [← hn]; exact (List.getElem?_eq_some_iff.1 hk).1
      rw [← ht, List.getElem?_take_of_lt (by omega)] at hv
      simp only [World.cell?, hcells]
      simpa using hv
  · intro j s hj
    simp only [World.cell?, hc]
    have : ((pieces x).map Value.string)[j]? = some (.string s) := by rw [List.getElem?_map, hj]; rfl
    simpa using this
theorem PatRd.drewN {w : World} {g : Nat} {ps : List ByteArray} (h : PatRd w g ps) (d : Nat) : PatRd (w.drewN d) g ps := h
theorem PatRd.kept {w w' : World} {g : Nat} {ps : List ByteArray} (h : PatRd w g ps) (hk : ∀ k, g ≤ k → k < w.heap.size → w'.heap[k]? = w.heap[k]?) : PatRd w' g ps := by
  intro k x hx
  obtain ⟨b, hb, hc, hs⟩ := h k x hx
  refine ⟨b, hb, (World.cell?_of_block (hk g (Nat.le_refl _) (World.block_lt_of_cell? _ _ hc))).trans hc, fun j s hj => ?_⟩
  have := hs j s hj
  exact (World.cell?_of_block (hk b hb (World.block_lt_of_cell? _ _ this))).trans this
theorem PatRd.grown {w w' : World} {g : Nat} {ps : List ByteArray} (h : PatRd w g ps) (hg : w.grownBy w' none) : PatRd w' g ps := h.kept fun k _ hk => hg.block k hk (by simp)
theorem PatRd.set {w : World} {g : Nat} {ps : List ByteArray} (h : PatRd w g ps) {p : Addr} (hp : p.block < g) (v : Value) : PatRd (w.setCell p v) g ps := h.kept fun k hk _ => Below.heap_setCell w p v k (by omega)
theorem pieces_ne (x : ByteArray) : 1 ≤ (pieces x).length := by rw [← pieces_len]; omega
theorem pieces_le (x : ByteArray) : (pieces x).length ≤ x.size + 1 := by
  rw [← pieces_len]
  have := Lib.countB_le ⟨#[42]⟩ (by decide) x.size x (Nat.le_refl _)
  omega
theorem map_mkB (L : List (List UInt8)) : (L.map mkB).map (·.data.toList) = L := by
  rw [List.map_map]
  conv => rhs; rw [← List.map_id L]
  exact List.map_congr_left fun x _ => by simp [mkB]
theorem sInts_f8 (s : ByteArray) : sInts s = s.data.toList.map f8 := rfl
def anyFits (ps : List ByteArray) (s : ByteArray) : Bool := ps.any fun x => fitsL ((pieces x).map (·.data.toList)) s.data.toList
theorem like_any (p s : ByteArray) : likeS p s = anyFits (pcs p) s := by
  unfold likeS anyFits pcs pieces
  rw [sInts_f8, sInts_f8, like_fits, List.any_map]
  congr 1
  funext a
  show fitsL (sp 42 a) s.data.toList = fitsL (((sp 42 (mkB a).data.toList).map mkB).map (·.data.toList)) s.data.toList
  rw [map_mkB]
  rfl
theorem any_next {ps : List ByteArray} {k : Nat} {x : ByteArray} (h : ps[k]? = some x) (s : ByteArray) : anyFits (ps.drop k) s = (fitsL ((pieces x).map (·.data.toList)) s.data.toList || anyFits (ps.drop (k + 1)) s) := by
  have hk : k < ps.length := (List.getElem?_eq_some_iff.1 h).1
  have e : ps.drop k = x :: ps.drop (k + 1) := by
    rw [List.drop_eq_getElem_cons hk]
    congr 1
    exact (List.getElem?_eq_some_iff.1 h).2
  rw [e]
  rfl

set_option maxHeartbeats 1000000 in
theorem r_plike (g L c : Nat) (ps : List ByteArray) (s : ByteArray) (R : Bool) (mx : Int) (w : World) (hL : ps.length = L) (hz : L ≤ 4294967296) (hs : s.size ≤ 2147483648) (hp : ∀ x ∈ ps, x.size ≤ 2147483648) (hrd : PatRd w g ps) (hm : w.cell? ⟨0, 0, none⟩ = some (.int .i64 mx)) (hR : anyFits ps s = R) :
    Calls Tryz.prog 97 #[.slice (some ⟨g, 0, none⟩) L c, .string s] w fun e w' => e = .returned (.bool R) ∧ ∃ k, w' = w.drewN k := by
  have HL : Hid (ps.length = L) := hL
  have HP : Hid (∀ x ∈ ps, x.size ≤ 2147483648) := hp
  have HD : Hid (PatRd w g ps) := hrd
  have HM : Hid (w.cell? ⟨0, 0, none⟩ = some (.int .i64 mx)) := hm
  have H0 : Hid (anyFits (ps.drop 0) s = R) := by rw [List.drop_zero]; exact hR
  clear hL hp hrd hm hR
  go_enter Tryz.func97, Tryz.ntmps97
  go_wp2
  go_loopw [9] (fun i wr => ∃ k : Nat, k ≤ L ∧ i = .int .i64 k ∧ (∃ d, wr = w.drewN d) ∧ anyFits (ps.drop k) s = R) (fun i _ => L - (intOf i).toNat)
  case atStart => exact ⟨0, Nat.zero_le _, rfl, ⟨0, rfl⟩, H0.out⟩
  case round =>
    obtain ⟨k, hk, rfl, ⟨d, rfl⟩, hf⟩ := hrel
    have HF : Hid (anyFits (ps.drop k) s = R) := hf
    clear hf H0
    by_cases hlt : k < L
    · obtain ⟨x, ex⟩ : ∃ x, ps[k]? = some x := ⟨_, List.getElem?_eq_getElem (by have := HL.out; omega)⟩
      have hxs := HP.out x (List.mem_of_getElem? ex)
      obtain ⟨b, _, hc, hcs⟩ := HD.out k x ex
      have HK : Hid (Calls Tryz.prog 110 #[.slice (some ⟨b, 0, none⟩) (pieces x).length (pieces x).length, .string s] (w.drewN d) fun e w' => e = .returned (.bool (fitsL ((pieces x).map (·.data.toList)) s.data.toList)) ∧ ∃ k, w' = (w.drewN d).drewN k) := r_fits b _ _ (pieces x) s _ mx (w.drewN d) rfl (pieces_ne x) (Nat.le_refl _) (by have := pieces_le x; omega) hs hcs HM.out rfl
      have HN : Hid ((fitsL ((pieces x).map (·.data.toList)) s.data.toList || anyFits (ps.drop (k + 1)) s) = R) := by rw [← any_next ex]; exact HF.out
      have hki : (k : Int) < (L : Int) := by omega
      clear hcs ex HF hxs
      generalize fitsL ((pieces x).map (·.data.toList)) s.data.toList = ft at HK HN
      cases ft with
      | true =>
        have HS : Hid (true = R) := by have h := HN.out; rw [Bool.true_or] at h; exact h
        clear HN
        go_wp2_with (go_at_call 110; refine HK.out.mono ?_; rintro e w' ⟨rfl, nd, rfl⟩)
        go_ret
        exact ⟨ret_bool HS.out, _, rfl⟩
      | false =>
        have HS : Hid (anyFits (ps.drop (k + 1)) s = R) := by have h := HN.out; rw [Bool.false_or] at h; exact h
        clear HN
        go_wp2_with (go_at_call 110; refine HK.out.mono ?_; rintro e w' ⟨rfl, nd, rfl⟩)
        go_roundw
        case rel => exact ⟨k + 1, by omega, by go_num, ⟨_, rfl⟩, HS.out⟩
        case measure => simp [intOf]; omega
    · obtain rfl : k = L := by omega
      have HS : Hid (false = R) := by have h := HF.out; rw [List.drop_eq_nil_of_le (by have := HL.out; omega)] at h; exact h
      go_wp2
      go_ret
      exact ⟨ret_bool HS.out, _, rfl⟩

/-- internal/bytealg.MaxLen is a number. -/
def Mx (w : World) : Prop := 0 < w.heap.size ∧ ∃ m, w.cell? ⟨0, 0, none⟩ = some (.int .i64 m)
theorem Mx.grown {w w' : World} (h : Mx w) (hg : w.grownBy w' none) : Mx w' := by
  obtain ⟨h0, m, hm⟩ := h
  exact ⟨Nat.lt_of_lt_of_le h0 hg.size, m, (World.cell?_of_block (hg.block 0 h0 (by simp))).trans hm⟩
theorem gb_drewN' {w w' : World} {row : Option Nat} (h : w.grownBy w' row) (n : Nat) : w.grownBy (w'.drewN n) row := ⟨h.os, h.tape, h.output, h.size, h.block⟩
theorem compile_rd (p : ByteArray) (w : World) (hp : p.size ≤ 2147483648) (hm : Mx w) :
    Calls Tryz.prog 85 #[.string p] w fun e w' => ∃ c, e = .returned (.slice (some ⟨w.heap.size, 0, none⟩) (pcs p).length c) ∧ PatRd w' w.heap.size (pcs p) ∧ w.grownBy w' none := by
  obtain ⟨h0, m, hm⟩ := hm
  refine (r_compile p m w hp hm h0).mono ?_
  rintro e w' ⟨B0, vs, C, hB, rfl, hr, ha, hg⟩
  exact ⟨C + 1, rfl, patRd_of hr ha rfl (by omega), hg⟩
theorem pcs_le (p : ByteArray) : (pcs p).length ≤ p.size + 1 := by
  unfold pcs
  rw [List.length_map, ← count_sp, Lib.size_eq]
  have := List.count_le_length (a := (124 : UInt8)) (l := p.data.toList)
  omega
end Go.Proofs.YtpabbmiibehfjaaGreatDoor.Mt
