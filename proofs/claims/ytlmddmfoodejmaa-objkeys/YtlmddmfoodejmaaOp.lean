/- The store's awake. -/
import Derived.Test.YtlmddmfoodejmaaOo
namespace Go.Proofs.Ytlmddmfoodejmaa
open Go.RowKit Go.Maps
set_option linter.unusedVariables false
set_option maxRecDepth 20000

theorem keyA : keyB nmA = true := by decide
theorem one_key {O : Objs} {q : Nat × List Int} {ks : List ByteArray} (h : KeysOf (setO O0 nmA (some q)) ⟨#[]⟩ ks) : ks = [nmA] := by
  obtain ⟨h1, h2, h3⟩ := h
  have hm : ∀ k, k ∈ ks ↔ k = nmA := fun k => by
    rw [h3 k]
    constructor
    · rintro ⟨h4, _⟩
      by_cases e : k = nmA
      · exact e
      · rw [setO_other _ _ e] at h4; cases h4
    · rintro rfl
      rw [setO_same]
      exact ⟨rfl, rfl⟩
  cases ks with
  | nil => have := (hm nmA).2 rfl; cases this
  | cons k r =>
    have e1 := (hm k).1 List.mem_cons_self
    cases r with
    | nil => rw [e1]
    | cons j r =>
      have e2 := (hm j).1 (List.mem_cons_of_mem _ List.mem_cons_self)
      rw [e1, e2] at h1
      simp at h1
theorem setO_setO (O : Objs) (k : ByteArray) (a b : Option (Nat × List Int)) : setO (setO O k a) k b = setO O k b := by
  funext x
  by_cases e : x = k
  · subst e; rw [setO_same, setO_same]
  · rw [setO_other _ _ e, setO_other _ _ e, setO_other _ _ e]
set_option maxHeartbeats 8000000 in
theorem o_awake (w : World) : Calls Try.prog 9 #[] w fun e w' => e = .returned (.bool true) ∧ w.grownBy w' none := by
  have HA0 := st_new w
  go_enter Try.func9, Try.ntmps9
  go_wp2_with fail
  refine HA0.mono ?_
  rintro e w1 ⟨d, mb, B, rfl, hd, hW, hlo, hlt⟩
  have HA1 := st_open0 hd hW hlo hlt
  clear HA0 hd hW hlo hlt
  go_wp2_with fail
  refine HA1.mono ?_
  rintro e w2 ⟨p, x2, B2, rfl, hS, hw, hst⟩
  have hw' := hw
  have HA2 := st_put (hS.grown (World.grownBy_alloc w2 (.cells #[.int .u8 1, .int .u8 2] 5) none)) nmA (some ⟨w2.heap.size, 0, none⟩) 2 2 [1, 2] keyA (by omega) (by omega) (by show (0 : Nat) < _; omega) (rd_lit w2 [1, 2] (by decide)) rfl (by simp) (by omega)
  clear HA1 hS hst hw'
  go_wp2_with fail
  refine HA2.mono ?_
  rintro e w3 ⟨rfl, n3, x3, B3, hS, hn3, hw3, hst⟩
  have HW3 : Hid (x3.wn ≤ 3) := by show x3.wn ≤ 3; omega
  have HA3 := st_putIf (hS.grown (World.grownBy_alloc w3 (.cells #[.int .u8 3, .int .u8 4] 5) none)) nmA (some ⟨w3.heap.size, 0, none⟩) 2 2 [3, 4] 1 (by rw [setO_same]; rfl) keyA (by have := HW3.out; omega) (by omega) (by rw [setO_same]; show (1 : Nat) < _; omega) (rd_lit w3 [3, 4] (by decide)) rfl (by simp) (by omega)
  clear HA2 hS hst hw3 hw
  go_wp2_with fail
  refine HA3.mono ?_
  rintro e w4 ⟨rfl, n4, x4, B4, hS, hn4, hw4, hst⟩
  have HW4 : Hid (x4.wn ≤ 6) := by show x4.wn ≤ 6; have := HW3.out; omega
  rw [setO_same, setO_setO] at hS
  rw [setO_same]
  have hS : StAt w w4 d mb n4 x4 p (setO O0 nmA (some (2, [3, 4]))) B4 := hS
  have HA4 := st_putIfNot hS nmA none 0 0 1 (by rw [setO_same]; decide) keyA (by omega)
  rw [setO_same] at HA4
  have HS : Hid (StAt w w4 d mb n4 x4 p (setO O0 nmA (some (2, [3, 4]))) B4) := hS
  clear HA3 hS hst hw4
  go_wp2_with fail
  refine HA4.mono ?_
  rintro e w5 ⟨rfl, hg5⟩
  have HS5 : Hid (StAt w w5 d mb n4 x4 p (setO O0 nmA (some (2, [3, 4]))) B4) := HS.out.grown hg5
  have HA5 := st_get HS5.out nmA keyA
  rw [st_find HS5.out, setO_same] at HA5
  clear HA4 hg5 HS
  go_wp2_with fail
  refine HA5.mono ?_
  rintro e w6 ⟨vx, N, cx, rfl, hO, hg6⟩
  obtain rfl : N = 2 := hO.1.symm
  have HX : Hid (Rd w6 vx [3, 4]) := hO.2.1
  have HS6 : Hid (StAt w w6 d mb n4 x4 p (setO O0 nmA (some (2, [3, 4]))) B4) := HS5.out.grown hg6
  have HA6 := st_slice HS6.out nmA keyA 2 [3, 4] (setO_same _ _ _) 1 1 2 (by decide) rfl
  clear HA5 hg6 HS5 hO
  go_wp2_with fail
  refine HA6.mono ?_
  rintro e w7 ⟨vy, cy, rfl, hso, hby, hg7⟩
  have HX7 : Hid (Rd w7 vx [3, 4]) := HX.out.grown hg7 (by simp)
  have HY7 : Hid (Rd w7 vy [4]) := srd_rd hso.rd hby
  have HS7 : Hid (StAt w w7 d mb n4 x4 p (setO O0 nmA (some (2, [3, 4]))) B4) := HS6.out.grown hg7
  have HA7 := st_list HS7.out ⟨#[]⟩ (by omega) (by decide)
  clear HA6 hg7 HS6 hso hby HX
  go_wp2_with fail
  refine HA7.mono ?_
  rintro e w8 ⟨vk, ck, ks, rfl, hsk, hko, hg8⟩
  obtain rfl := one_key (O := O0) hko
  have HK8 : Hid (SRd strE w8 vk [nmA]) := hsk.rd
  have HX8 : Hid (Rd w8 vx [3, 4]) := HX7.out.grown hg8 (by simp)
  have HY8 : Hid (Rd w8 vy [4]) := HY7.out.grown hg8 (by simp)
  have HS8 : Hid (StAt w w8 d mb n4 x4 p (setO O0 nmA (some (2, [3, 4]))) B4) := HS7.out.grown hg8
  have HB1 := same_any vx (some ⟨w8.heap.size, 0, none⟩) [3, 4] [3, 4] 2 2 cx 2 (w8.alloc (.cells #[.int .u8 3, .int .u8 4] 5)) (HX8.out.grown (World.grownBy_alloc _ _ none) (by simp)) (rd_lit w8 [3, 4] (by decide)) rfl rfl (by omega)
  clear HA7 hg8 HS7 hsk hko HX7 HY7
  rw [show ([nmA] : List ByteArray).length = 1 from rfl]
  go_wp2_with fail
  refine HB1.mono ?_
  rintro e w9 ⟨rfl, hg9⟩
  have HG9 : Hid (w8.grownBy w9 none) := (World.grownBy_alloc w8 _ none).trans hg9
  have HB2 := same_any vy (some ⟨w9.heap.size, 0, none⟩) [4] [4] 1 1 cy 1 (w9.alloc (.cells #[.int .u8 4] 5)) ((HY8.out.grown HG9.out (by simp)).grown (World.grownBy_alloc _ _ none) (by simp)) (rd_lit w9 [4] (by decide)) rfl rfl (by omega)
  clear HB1 hg9
  go_wp2_with fail
  refine HB2.mono ?_
  rintro e wa ⟨rfl, hga⟩
  have HGa : Hid (w8.grownBy wa none) := (HG9.out.trans (World.grownBy_alloc w9 _ none)).trans hga
  have HB3 := same1 vk (some ⟨wa.heap.size, 0, none⟩) ck 1 (wa.alloc (.cells #[.string ⟨#[97]⟩] 9)) ((HK8.out.grown HGa.out (by simp)).grown (World.grownBy_alloc _ _ none) (by simp)) (slit wa [nmA])
  clear HB2 hga
  go_wp2_with fail
  refine HB3.mono ?_
  rintro e wb ⟨rfl, hgb⟩
  have HSb : Hid (StAt w wb d mb n4 x4 p (setO O0 nmA (some (2, [3, 4]))) B4) := HS8.out.grown ((HGa.out.trans (World.grownBy_alloc wa _ none)).trans hgb)
  have HB4 := st_delete HSb.out nmA keyA (by have := HW4.out; omega) (by rw [setO_same]; decide)
  clear HB3 hgb
  go_wp2_with fail
  refine HB4.mono ?_
  rintro e wc ⟨rfl, nc, xc, Bc, hSc, hnc, hwc, hstc⟩
  have HSc : Hid (StAt w wc d mb nc xc p (setO (setO O0 nmA (some (2, [3, 4]))) nmA none) Bc) := hSc
  have HB5 := st_deleteNone HSc.out nmA keyA (by rw [setO_same]; rfl)
  clear HB4 hSc hwc hstc
  go_wp2_with fail
  refine HB5.mono ?_
  rintro e we ⟨rfl, hge⟩
  have HGe : Hid (w.grownBy we none) := HSc.out.from_.trans hge
  clear HB5 hge
  go_wp2
  go_ret
  exact ⟨rfl, HGe.out⟩
end Go.Proofs.Ytlmddmfoodejmaa
