/- ObjWhole: the walk. -/
import Derived.Test.YtlmddmfoodejmaaWwa
namespace Go.Proofs.Ytlmddmfoodejmaa
open Go.RowKit Go.Maps
set_option linter.unusedVariables false
set_option maxRecDepth 20000

def nmO : ByteArray := ⟨#[111, 116, 104, 101, 114]⟩
theorem keyO : keyB nmO = true := by decide
theorem ao_ne : nmA ≠ nmO := by decide
theorem oa_ne : nmO ≠ nmA := by decide
/-- What stands ahead of the armed Put. -/
def wasO (first : Bool) (old : List Int) : Objs := if first = true then setO O0 nmO (some (1, [7])) else setO (setO O0 nmO (some (1, [7]))) nmA (some (1, old))
theorem wasO_t (old : List Int) : wasO true old = setO O0 nmO (some (1, [7])) := rfl
theorem wasO_f (old : List Int) : wasO false old = setO (setO O0 nmO (some (1, [7]))) nmA (some (1, old)) := rfl
theorem wasO_at (old : List Int) : wasO true old nmA = none := by rw [wasO_t, setO_other _ _ ao_ne]; rfl
theorem wasO_af (old : List Int) : wasO false old nmA = some (1, old) := by rw [wasO_f, setO_same]
theorem wasO_o (first : Bool) (old : List Int) : wasO first old nmO = some (1, [7]) := by
  cases first with
  | true => rw [wasO_t, setO_same]
  | false => rw [wasO_f, setO_other _ _ oa_ne, setO_same]
theorem same0 (a : Option Addr) (c : Nat) (w : World) : Calls Try.prog 18 #[.slice a 0 c, .slice none 0 0] w fun e w' => e = .returned (.bool true) ∧ w.grownBy w' none := by
  have HG : Hid (w.grownBy w none) := World.grownBy.refl _ _
  go_enter Try.func18, Try.ntmps18
  go_wp2_with fail
  refine wp_loop_rounds 1 ?_
  rw [rounds_succ]
  go_wp2
  go_ret
  exact ⟨rfl, HG.out⟩
/-- The list of the drafts of a store: none. -/
theorem st_drafts {W w : World} {d mb n : Nat} {x : DSt} {p : Nat} {O : Objs} {B : Nat → Prop} (h : StAt W w d mb n x p O B) (hn : n ≤ 4194304) :
    Calls Try.prog 19 #[.pointer (some ⟨d, 0, none⟩), .string ⟨#[116, 47]⟩] w fun e w' => ∃ a c, e = .returned (.slice a 0 c) ∧ w.grownBy w' none := by
  refine (x_list W.heap.size d mb n x B ⟨#[116, 47]⟩ w h.disk h.calm.on hn).mono ?_
  rintro e w' ⟨a, c, l, rfl, h1, h2, h3, h4⟩
  rw [h.V] at h3
  have el : l = [].map tN := h3.uniq (drafts_none O).names
  subst el
  exact ⟨a, c, rfl, h2⟩
/-- A store that has what stood, not armed; few writes. -/
def WasAt (W w : World) (d mb p : Nat) (O : Objs) : Prop := ∃ n x B, StAt W w d mb n x p O B ∧ n ≤ 8 ∧ x.wn ≤ 6
def AmAt (W w : World) (d mb p : Nat) (O : Objs) : Prop := ∃ n x B, ArAt W w d mb n x p O B ∧ n ≤ 8 ∧ x.wn ≤ 6
theorem AmAt.grown {W w w' : World} {d mb p : Nat} {O : Objs} (h : AmAt W w d mb p O) (hg : w.grownBy w' none) : AmAt W w' d mb p O := by
  obtain ⟨n, x, B, h1, h2⟩ := h
  exact ⟨n, x, B, h1.grown hg, h2⟩
theorem AmAt.from_ {W w : World} {d mb p : Nat} {O : Objs} (h : AmAt W w d mb p O) : W.grownBy w none := by
  obtain ⟨n, x, B, h1, h2⟩ := h
  exact h1.from_
theorem was_arm {W w : World} {d mb p : Nat} {O : Objs} (h : WasAt W w d mb p O) (m keep : Int) (hm : 0 ≤ m ∧ m ≤ 9223372036854775807) (hk : -9223372036854775808 ≤ keep ∧ keep ≤ 9223372036854775807) :
    Calls Try.prog 12 #[.pointer (some ⟨d, 0, none⟩), .int .i64 m, .int .i64 keep] w fun e w' => e = .returned (.tuple #[]) ∧ AmAt W w' d mb p O := by
  obtain ⟨n, x, B, h1, h2, h3⟩ := h
  refine (a_arm h1 m keep hm hk).mono ?_
  rintro e w' ⟨rfl, x', k1, k2⟩
  exact ⟨rfl, n, x', B, k1, h2, by omega⟩
/-- Behind the Put: the code, and the disk. -/
def GoneAt (W w : World) (d mb : Nat) (O : Objs) (q : Nat × List Int) (c : Int) : Prop := ∃ n y B wn, LeftAt W w d mb O nmA q wn n (c, y) B ∧ n ≤ 12 ∧ wn ≤ 6 ∧ (∀ k, (O k).isSome = true → keyB k = true ∧ OkO (O k)) ∧ OkO (some q)
theorem am_put {W w : World} {d mb p : Nat} {O : Objs} (h : AmAt W w d mb p O) (a : Option Addr) (M cd : Nat) (dd : List Int) (G : Nat) (hG : genO (O nmA) = G) (hG2 : G ≤ 100) (hr : Rd w a dd) (hM : dd.length = M) (hnil : a = none → cd = 0) (hlen : M ≤ 1048576) :
    Calls Try.prog 10 #[.pointer (some ⟨p, 0, none⟩), .string ⟨#[97]⟩, .slice a M cd] w fun e w' => (e = .returned (.tuple #[.int .u64 ((G : Int) + 1), .int .i64 0]) ∧ GoneAt W w' d mb O (G + 1, dd) 0) ∨ (e = .returned (.tuple #[.int .u64 0, .int .i64 60]) ∧ GoneAt W w' d mb O (G + 1, dd) 60) := by
  obtain ⟨n, x, B, h1, h2, h3⟩ := h
  refine (a_put h1 nmA a M cd dd keyA (by omega) (by omega) (by omega) hr hM hnil hlen).mono ?_
  rintro e w' ⟨n', r, B', hr01, rfl, hn', hL⟩
  obtain ⟨rc, ry⟩ := r
  rw [hG] at hL ⊢
  dsimp only at hr01 ⊢
  have hq : OkO (some (G + 1, dd)) := ⟨by show 1 ≤ G + 1; omega, by show G + 1 < _; omega, by show dd.length ≤ _; omega⟩
  rcases hr01 with rfl | rfl
  · exact .inl ⟨rfl, n', ry, B', x.wn, hL, by omega, h3, h1.okO, hq⟩
  · exact .inr ⟨rfl, n', ry, B', x.wn, hL, by omega, h3, h1.okO, hq⟩
def OffAt (W w : World) (d mb : Nat) (O : Objs) (q : Nat × List Int) (c keep : Int) (off : Bool) : Prop := ∃ n y B wn, (DS w W.heap.size d mb n { DSt.power y keep with off := off } B ∧ PutCase O nmA q wn (c, y) ∧ W.grownBy w none ∧ (∀ k, B k → W.heap.size ≤ k) ∧ ∀ k, B k → k < w.heap.size) ∧ n ≤ 12 ∧ wn ≤ 6 ∧ (∀ k, (O k).isSome = true → keyB k = true ∧ OkO (O k)) ∧ OkO (some q)
theorem power_off (y : DSt) (keep : Int) : ({ y.power keep with off := true } : DSt) = y.power keep := by
  unfold DSt.power
  split
  · rename_i h
    show (⟨true, _, _, _, _, _⟩ : DSt) = ⟨y.off, _, _, _, _, _⟩
    rw [h]
  · rfl
theorem gone_off {W w : World} {d mb : Nat} {O : Objs} {q : Nat × List Int} {c : Int} (h : GoneAt W w d mb O q c) (keep : Int) (hk : -9223372036854775808 ≤ keep ∧ keep ≤ 9223372036854775807) :
    Calls Try.prog 14 #[.pointer (some ⟨d, 0, none⟩), .int .i64 keep] w fun e w' => e = .returned (.tuple #[]) ∧ OffAt W w' d mb O q c keep true := by
  obtain ⟨n, y, B, wn, h1, h2⟩ := h
  refine (a_off h1 keep hk).mono ?_
  rintro e w' ⟨rfl, k1, k2⟩
  rw [← power_off] at k1
  exact ⟨rfl, n, y, B, wn, ⟨k1, k2⟩, h2⟩
theorem off_on {W w : World} {d mb : Nat} {O : Objs} {q : Nat × List Int} {c keep : Int} (h : OffAt W w d mb O q c keep true) :
    Calls Try.prog 15 #[.pointer (some ⟨d, 0, none⟩)] w fun e w' => e = .returned (.tuple #[]) ∧ OffAt W w' d mb O q c keep false := by
  obtain ⟨n, y, B, wn, ⟨h1, h2⟩, h3⟩ := h
  rw [power_off] at h1
  refine (a_on (r := (c, y)) ⟨h1, h2⟩).mono ?_
  rintro e w' ⟨rfl, k1, k2⟩
  exact ⟨rfl, n, y, B, wn, ⟨k1, k2⟩, h3⟩
/-- Opened again: with the new object where the Put was answered, with the old one where the power went. -/
theorem on_open {W w : World} {d mb : Nat} {O : Objs} {q : Nat × List Int} {c keep : Int} (h : OffAt W w d mb O q c keep false) :
    Calls Try.prog 8 #[.pointer (some ⟨d, 0, none⟩)] w fun e w' => ∃ p n' x' B' O', e = .returned (.tuple #[.pointer (some ⟨p, 0, none⟩), .int .i64 0]) ∧ StAt W w' d mb n' x' p O' B' ∧ n' ≤ 20 ∧ ((c = 0 ∧ O' = setO O nmA (some q)) ∨ (c = 60 ∧ O' = O)) := by
  obtain ⟨n, y, B, wn, h1, h2, h3, h4, h5⟩ := h
  refine (a_open (r := (c, y)) h1 keyA (by omega) (by omega) h4 h5).mono ?_
  rintro e w' ⟨p, n', x', B', O', rfl, k1, k2, k3⟩
  exact ⟨p, n', x', B', O', rfl, k1, by omega, k3⟩
set_option maxHeartbeats 8000000 in
theorem objWhole_walk (b : Option Addr) (zs : List Int) (M cap : Nat) (b' : Option Addr) (ys : List Int) (F cap' : Nat) (wv kv : Int) (first : Bool) (W : World) (hz : Rd W b zs) (hnil : b = none → cap = 0) (hM : zs.length = M) (hM2 : M ≤ 140737488351232) (hy : Rd W b' ys) (hnil' : b' = none → cap' = 0) (hF : ys.length = F) (hF2 : F ≤ 140737488351232) (hkv : -9223372036854775808 ≤ kv ∧ kv ≤ 9223372036854775807) :
    Calls Try.prog 3 #[.slice b M cap, .slice b' F cap', .int .i64 wv, .int .i64 kv, .bool first] W fun e w' => e = .returned (.bool true) ∧ Below W.heap.size W w' := by
  have HAW : Hid (∀ w, Calls Try.prog 9 #[] w fun e w' => e = .returned (.bool true) ∧ w.grownBy w' none) := o_awake
  have HA0 := st_new W
  have HZ : Hid (Rd W b zs) := hz
  have HM : Hid (zs.length = M) := hM
  have HNIL : Hid (b = none → cap = 0) := hnil
  have HY : Hid (Rd W b' ys) := hy
  have HF : Hid (ys.length = F) := hF
  have HNIL' : Hid (b' = none → cap' = 0) := hnil'
  clear hz hM hnil hy hF hnil'
  go_enter Try.func3, Try.ntmps3
  go_wp2_with fail
  refine HA0.mono ?_
  rintro e w1 ⟨d, mb, B, rfl, hd, hW, hlo, hlt⟩
  have HA1 := st_open0 hd hW hlo hlt
  clear HA0 hd hW hlo hlt
  go_wp2_with fail
  refine HA1.mono ?_
  rintro e w2 ⟨p, x2, B2, rfl, hS, hw2, hst⟩
  have HS : Hid (StAt W w2 d mb 0 x2 p O0 B2 ∧ x2.wn ≤ 0) := ⟨hS, hw2⟩
  clear HA1 hS hst hw2
  by_cases hM1 : 5000 < M
  · have q1 : decide ((5000 : Int) < (M : Int)) = true := by simp; omega
    have q2 : decide (5000 < M) = true := by simp; omega
    go_wp2_with fail
    refine (HAW.out _).mono ?_
    rintro e w3 ⟨rfl, hg⟩
    have HG : Hid (W.grownBy w3 none) := HS.out.1.from_.trans hg
    clear hg
    go_wp2
    go_ret
    exact ⟨rfl, gb_below HG.out⟩
  · have q1 : decide ((5000 : Int) < (M : Int)) = false := by simp; omega
    have q2 : decide (5000 < M) = false := by simp; omega
    by_cases hF1 : 5000 < F
    · have q3 : decide ((5000 : Int) < (F : Int)) = true := by simp; omega
      have q4 : decide (5000 < F) = true := by simp; omega
      go_wp2_with fail
      refine (HAW.out _).mono ?_
      rintro e w3 ⟨rfl, hg⟩
      have HG : Hid (W.grownBy w3 none) := HS.out.1.from_.trans hg
      clear hg
      go_wp2
      go_ret
      exact ⟨rfl, gb_below HG.out⟩
    · have q3 : decide ((5000 : Int) < (F : Int)) = false := by simp; omega
      have q4 : decide (5000 < F) = false := by simp; omega
      have HP0 := st_put (HS.out.1.grown (World.grownBy_alloc w2 (.cells #[.int .u8 7] 5) none)) nmO (some ⟨w2.heap.size, 0, none⟩) 1 1 [7] keyO (by have := HS.out.2; omega) (by omega) (by show (0 : Nat) < _; omega) (rd_lit w2 [7] (by decide)) rfl (by simp) (by omega)
      go_wp2_with fail
      refine HP0.mono ?_
      rintro e w3 ⟨rfl, n3, x3, B3, hS3, hn3, hw3, _⟩
      have HW3 : Hid (x3.wn ≤ 3) := by show x3.wn ≤ 3; have := HS.out.2; omega
      have HS3 : Hid (StAt W w3 d mb n3 x3 p (setO O0 nmO (some (1, [7]))) B3) := hS3
      clear HP0 hS3 hw3 HS
      cases first with
      | true =>
        have HWAS : Hid (WasAt W w3 d mb p (wasO true zs)) := ⟨n3, x3, B3, HS3.out, by omega, by have := HW3.out; omega⟩
        have hGa : genO (wasO true zs nmA) = 0 := by rw [wasO_at]; rfl
        clear HS3 HW3
        have HLOW := Low_any wv w3
        go_wp2_with fail
        refine HLOW.mono ?_
        rintro e w6 ⟨r, rfl, hr0, hr1, rfl⟩
        obtain ⟨m, em⟩ : ∃ m : Nat, r.tmod 5 = (m : Int) := ⟨(r.tmod 5).toNat, by have := Int.tmod_nonneg 5 hr0; omega⟩
        have hm5 : m < 5 := by have := Int.tmod_lt_of_pos r (show (0 : Int) < 5 by decide); omega
        have HARM := was_arm HWAS.out (m : Int) kv (by omega) hkv
        clear HLOW HWAS
        go_wp2_with fail
        refine HARM.mono ?_
        rintro e w7 ⟨rfl, hA7⟩
        have HA7 : Hid (AmAt W w7 d mb p (wasO true zs)) := hA7
        have HCP2 := copy_any b' ys cap' w7 (HY.out.grown hA7.from_ (by simp)) HNIL'.out (by have := HF.out; omega)
        rw [HF.out] at HCP2
        clear HARM hA7
        go_wp2_with fail
        refine HCP2.mono ?_
        rintro e w8 ⟨gy, cy, rfl, ho8, hg8⟩
        have HPUT := am_put (HA7.out.grown hg8) (some ⟨gy, 0, none⟩) F cy ys 0 hGa (by omega) ho8.rd HF.out (by simp) (by omega)
        clear HCP2 ho8 hg8 HA7
        go_wp2_with fail
        refine HPUT.mono ?_
        rintro e w9 (⟨rfl, hGo⟩ | ⟨rfl, hGo⟩)
        · have HOFF := gone_off hGo kv hkv
          clear HPUT hGo
          go_wp2_with fail
          refine HOFF.mono ?_
          rintro e wa ⟨rfl, hO1⟩
          have HON := off_on hO1
          clear HOFF hO1
          go_wp2_with fail
          refine HON.mono ?_
          rintro e wb ⟨rfl, hO2⟩
          have HOP := on_open hO2
          clear HON hO2
          go_wp2_with fail
          refine HOP.mono ?_
          rintro e wc ⟨p2, nc, xc, Bc, O', rfl, hSc, hnc, hcase⟩
          have hO' : O' = setO (wasO true zs) nmA (some (1, ys)) := by
            rcases hcase with ⟨_, h⟩ | ⟨h, _⟩
            · exact h
            · exact absurd h (by decide)
          have hOa : O' nmA = some (1, ys) := by rw [hO', setO_same]
          have hOo : O' nmO = some (1, [7]) := by rw [hO', setO_other _ _ oa_ne, wasO_o]
          have HSc : Hid (StAt W wc d mb nc xc p2 O' Bc) := hSc
          have HGA := st_get hSc nmA keyA
          rw [st_find hSc, hOa] at HGA
          have HGA : Hid (Calls Try.prog 16 #[.pointer (some ⟨p2, 0, none⟩), .string ⟨#[97]⟩] wc fun e w' => ∃ v c, e = .returned (.tuple #[.slice v F c, .int .u64 1, .int .i64 0]) ∧ Rd w' v ys ∧ wc.grownBy w' none) := HGA.mono (fun e w' ⟨v, N, c, h1, h2, h3⟩ => by
            have hN : N = F := by rw [← HF.out]; exact h2.1.symm
            subst hN
            exact ⟨v, c, h1, h2.2.1, h3⟩)
          have HOo : Hid (O' nmO = some (1, [7])) := hOo
          clear HOP hSc hcase hO' hOa hOo
          go_wp2_with fail
          refine HGA.out.mono ?_
          rintro e wd ⟨va, ca, rfl, hra, hgd⟩
          have HRA : Hid (Rd wd va ys) := hra
          have HSd : Hid (StAt W wd d mb nc xc p2 O' Bc) := HSc.out.grown hgd
          have HGO := st_get HSd.out nmO keyO
          rw [st_find HSd.out, HOo.out] at HGO
          clear HGA hra hgd HSc
          go_wp2_with fail
          refine HGO.mono ?_
          rintro e we ⟨vo, No, co, rfl, hOo, hge⟩
          obtain rfl : No = 1 := hOo.1.symm
          have HRO : Hid (Rd we vo [7]) := hOo.2.1
          have HRA2 : Hid (Rd we va ys) := HRA.out.grown hge (by simp)
          have HSe : Hid (StAt W we d mb nc xc p2 O' Bc) := HSd.out.grown hge
          have HB1 := same_any vo (some ⟨we.heap.size, 0, none⟩) [7] [7] 1 1 co 1 (we.alloc (.cells #[.int .u8 7] 5)) (HRO.out.grown (World.grownBy_alloc _ _ none) (by simp)) (rd_lit we [7] (by decide)) rfl rfl (by omega)
          clear HGO hOo hge HSd HRA
          go_wp2_with fail
          refine HB1.mono ?_
          rintro e wf ⟨rfl, hgf⟩
          have HGf : Hid (we.grownBy wf none) := (World.grownBy_alloc we _ none).trans hgf
          have HB2 := st_drafts (HSe.out.grown HGf.out) (by omega)
          clear HB1 hgf
          go_wp2_with fail
          refine HB2.mono ?_
          rintro e wg ⟨al, cl, rfl, hgg⟩
          have HGg : Hid (we.grownBy wg none) := HGf.out.trans hgg
          have HB3 := same0 al cl wg
          clear HB2 hgg
          go_wp2_with fail
          refine HB3.mono ?_
          rintro e wh ⟨rfl, hgh⟩
          have HWh : Hid (W.grownBy wh none) := (HSe.out.from_.trans HGg.out).trans hgh
          have HRA3 : Hid (Rd wh va ys) := HRA2.out.grown (HGg.out.trans hgh) (by simp)
          clear HB3 hgh
          have HB4 := same_any va b' ys ys F F ca cap' wh HRA3.out (HY.out.grown HWh.out (by simp)) HF.out HF.out (by omega)
          rw [show decide (ys = ys) = true from decide_eq_true rfl] at HB4
          go_wp2_with fail
          refine HB4.mono ?_
          rintro e wi ⟨rfl, hgi⟩
          have HWi : Hid (W.grownBy wi none) := HWh.out.trans hgi
          clear HB4 hgi
          go_wp2_with fail
          refine (HAW.out _).mono ?_
          rintro e wj ⟨rfl, hgj⟩
          have HG : Hid (W.grownBy wj none) := HWi.out.trans hgj
          clear hgj
          go_wp2
          go_ret
          exact ⟨rfl, gb_below HG.out⟩
        · have HOFF := gone_off hGo kv hkv
          clear HPUT hGo
          go_wp2_with fail
          refine HOFF.mono ?_
          rintro e wa ⟨rfl, hO1⟩
          have HON := off_on hO1
          clear HOFF hO1
          go_wp2_with fail
          refine HON.mono ?_
          rintro e wb ⟨rfl, hO2⟩
          have HOP := on_open hO2
          clear HON hO2
          go_wp2_with fail
          refine HOP.mono ?_
          rintro e wc ⟨p2, nc, xc, Bc, O', rfl, hSc, hnc, hcase⟩
          have hO' : O' = (wasO true zs) := by
            rcases hcase with ⟨h, _⟩ | ⟨_, h⟩
            · exact absurd h (by decide)
            · exact h
          have hOa : O' nmA = none := by rw [hO', wasO_at]
          have hOo : O' nmO = some (1, [7]) := by rw [hO', wasO_o]
          have HSc : Hid (StAt W wc d mb nc xc p2 O' Bc) := hSc
          have HGA := st_get hSc nmA keyA
          rw [st_find hSc, hOa] at HGA
          have HGA : Hid (Calls Try.prog 16 #[.pointer (some ⟨p2, 0, none⟩), .string ⟨#[97]⟩] wc fun e w' => ∃ v c, e = .returned (.tuple #[.slice v 0 c, .int .u64 0, .int .i64 111]) ∧ Rd w' v [] ∧ wc.grownBy w' none) := HGA.mono (fun e w' ⟨v, N, c, h1, h2, h3⟩ => by
            have hN : N = 0 := h2.1.symm
            subst hN
            exact ⟨v, c, h1, h2.2.1, h3⟩)
          have HOo : Hid (O' nmO = some (1, [7])) := hOo
          clear HOP hSc hcase hO' hOa hOo
          go_wp2_with fail
          refine HGA.out.mono ?_
          rintro e wd ⟨va, ca, rfl, hra, hgd⟩
          have HRA : Hid (Rd wd va []) := hra
          have HSd : Hid (StAt W wd d mb nc xc p2 O' Bc) := HSc.out.grown hgd
          have HGO := st_get HSd.out nmO keyO
          rw [st_find HSd.out, HOo.out] at HGO
          clear HGA hra hgd HSc
          go_wp2_with fail
          refine HGO.mono ?_
          rintro e we ⟨vo, No, co, rfl, hOo, hge⟩
          obtain rfl : No = 1 := hOo.1.symm
          have HRO : Hid (Rd we vo [7]) := hOo.2.1
          have HRA2 : Hid (Rd we va []) := HRA.out.grown hge (by simp)
          have HSe : Hid (StAt W we d mb nc xc p2 O' Bc) := HSd.out.grown hge
          have HB1 := same_any vo (some ⟨we.heap.size, 0, none⟩) [7] [7] 1 1 co 1 (we.alloc (.cells #[.int .u8 7] 5)) (HRO.out.grown (World.grownBy_alloc _ _ none) (by simp)) (rd_lit we [7] (by decide)) rfl rfl (by omega)
          clear HGO hOo hge HSd HRA
          go_wp2_with fail
          refine HB1.mono ?_
          rintro e wf ⟨rfl, hgf⟩
          have HGf : Hid (we.grownBy wf none) := (World.grownBy_alloc we _ none).trans hgf
          have HB2 := st_drafts (HSe.out.grown HGf.out) (by omega)
          clear HB1 hgf
          go_wp2_with fail
          refine HB2.mono ?_
          rintro e wg ⟨al, cl, rfl, hgg⟩
          have HGg : Hid (we.grownBy wg none) := HGf.out.trans hgg
          have HB3 := same0 al cl wg
          clear HB2 hgg
          go_wp2_with fail
          refine HB3.mono ?_
          rintro e wh ⟨rfl, hgh⟩
          have HWh : Hid (W.grownBy wh none) := (HSe.out.from_.trans HGg.out).trans hgh
          have HRA3 : Hid (Rd wh va []) := HRA2.out.grown (HGg.out.trans hgh) (by simp)
          clear HB3 hgh
          have HWi : Hid (W.grownBy wh none) := HWh.out
          go_wp2_with fail
          refine (HAW.out _).mono ?_
          rintro e wj ⟨rfl, hgj⟩
          have HG : Hid (W.grownBy wj none) := HWi.out.trans hgj
          clear hgj
          go_wp2
          go_ret
          exact ⟨rfl, gb_below HG.out⟩
      | false =>
        have HCP := copy_any b zs cap w3 (HZ.out.grown HS3.out.from_ (by simp)) HNIL.out (by have := HM.out; omega)
        rw [HM.out] at HCP
        go_wp2_with fail
        refine HCP.mono ?_
        rintro e w4 ⟨gq, cq, rfl, ho, hg4⟩
        have HP1 := st_put (HS3.out.grown hg4) nmA (some ⟨gq, 0, none⟩) M cq zs keyA (by have := HW3.out; omega) (by omega) (by rw [setO_other _ _ ao_ne]; show (0 : Nat) < _; omega) ho.rd HM.out (by simp) (by omega)
        clear HCP ho hg4
        go_wp2_with fail
        refine HP1.mono ?_
        rintro e w5 ⟨rfl, n5, x5, B5, hS5, hn5, hw5, _⟩
        rw [setO_other _ _ ao_ne] at hS5
        have HWAS : Hid (WasAt W w5 d mb p (wasO false zs)) := ⟨n5, x5, B5, hS5, by omega, by have := HW3.out; omega⟩
        have hGa : genO (wasO false zs nmA) = 1 := by rw [wasO_af]; rfl
        clear HP1 hS5 hw5 HS3 HW3
        have HLOW := Low_any wv w5
        go_wp2_with fail
        refine HLOW.mono ?_
        rintro e w6 ⟨r, rfl, hr0, hr1, rfl⟩
        obtain ⟨m, em⟩ : ∃ m : Nat, r.tmod 5 = (m : Int) := ⟨(r.tmod 5).toNat, by have := Int.tmod_nonneg 5 hr0; omega⟩
        have hm5 : m < 5 := by have := Int.tmod_lt_of_pos r (show (0 : Int) < 5 by decide); omega
        have HARM := was_arm HWAS.out (m : Int) kv (by omega) hkv
        clear HLOW HWAS
        go_wp2_with fail
        refine HARM.mono ?_
        rintro e w7 ⟨rfl, hA7⟩
        have HA7 : Hid (AmAt W w7 d mb p (wasO false zs)) := hA7
        have HCP2 := copy_any b' ys cap' w7 (HY.out.grown hA7.from_ (by simp)) HNIL'.out (by have := HF.out; omega)
        rw [HF.out] at HCP2
        clear HARM hA7
        go_wp2_with fail
        refine HCP2.mono ?_
        rintro e w8 ⟨gy, cy, rfl, ho8, hg8⟩
        have HPUT := am_put (HA7.out.grown hg8) (some ⟨gy, 0, none⟩) F cy ys 1 hGa (by omega) ho8.rd HF.out (by simp) (by omega)
        clear HCP2 ho8 hg8 HA7
        go_wp2_with fail
        refine HPUT.mono ?_
        rintro e w9 (⟨rfl, hGo⟩ | ⟨rfl, hGo⟩)
        · have HOFF := gone_off hGo kv hkv
          clear HPUT hGo
          go_wp2_with fail
          refine HOFF.mono ?_
          rintro e wa ⟨rfl, hO1⟩
          have HON := off_on hO1
          clear HOFF hO1
          go_wp2_with fail
          refine HON.mono ?_
          rintro e wb ⟨rfl, hO2⟩
          have HOP := on_open hO2
          clear HON hO2
          go_wp2_with fail
          refine HOP.mono ?_
          rintro e wc ⟨p2, nc, xc, Bc, O', rfl, hSc, hnc, hcase⟩
          have hO' : O' = setO (wasO false zs) nmA (some (2, ys)) := by
            rcases hcase with ⟨_, h⟩ | ⟨h, _⟩
            · exact h
            · exact absurd h (by decide)
          have hOa : O' nmA = some (2, ys) := by rw [hO', setO_same]
          have hOo : O' nmO = some (1, [7]) := by rw [hO', setO_other _ _ oa_ne, wasO_o]
          have HSc : Hid (StAt W wc d mb nc xc p2 O' Bc) := hSc
          have HGA := st_get hSc nmA keyA
          rw [st_find hSc, hOa] at HGA
          have HGA : Hid (Calls Try.prog 16 #[.pointer (some ⟨p2, 0, none⟩), .string ⟨#[97]⟩] wc fun e w' => ∃ v c, e = .returned (.tuple #[.slice v F c, .int .u64 2, .int .i64 0]) ∧ Rd w' v ys ∧ wc.grownBy w' none) := HGA.mono (fun e w' ⟨v, N, c, h1, h2, h3⟩ => by
            have hN : N = F := by rw [← HF.out]; exact h2.1.symm
            subst hN
            exact ⟨v, c, h1, h2.2.1, h3⟩)
          have HOo : Hid (O' nmO = some (1, [7])) := hOo
          clear HOP hSc hcase hO' hOa hOo
          go_wp2_with fail
          refine HGA.out.mono ?_
          rintro e wd ⟨va, ca, rfl, hra, hgd⟩
          have HRA : Hid (Rd wd va ys) := hra
          have HSd : Hid (StAt W wd d mb nc xc p2 O' Bc) := HSc.out.grown hgd
          have HGO := st_get HSd.out nmO keyO
          rw [st_find HSd.out, HOo.out] at HGO
          clear HGA hra hgd HSc
          go_wp2_with fail
          refine HGO.mono ?_
          rintro e we ⟨vo, No, co, rfl, hOo, hge⟩
          obtain rfl : No = 1 := hOo.1.symm
          have HRO : Hid (Rd we vo [7]) := hOo.2.1
          have HRA2 : Hid (Rd we va ys) := HRA.out.grown hge (by simp)
          have HSe : Hid (StAt W we d mb nc xc p2 O' Bc) := HSd.out.grown hge
          have HB1 := same_any vo (some ⟨we.heap.size, 0, none⟩) [7] [7] 1 1 co 1 (we.alloc (.cells #[.int .u8 7] 5)) (HRO.out.grown (World.grownBy_alloc _ _ none) (by simp)) (rd_lit we [7] (by decide)) rfl rfl (by omega)
          clear HGO hOo hge HSd HRA
          go_wp2_with fail
          refine HB1.mono ?_
          rintro e wf ⟨rfl, hgf⟩
          have HGf : Hid (we.grownBy wf none) := (World.grownBy_alloc we _ none).trans hgf
          have HB2 := st_drafts (HSe.out.grown HGf.out) (by omega)
          clear HB1 hgf
          go_wp2_with fail
          refine HB2.mono ?_
          rintro e wg ⟨al, cl, rfl, hgg⟩
          have HGg : Hid (we.grownBy wg none) := HGf.out.trans hgg
          have HB3 := same0 al cl wg
          clear HB2 hgg
          go_wp2_with fail
          refine HB3.mono ?_
          rintro e wh ⟨rfl, hgh⟩
          have HWh : Hid (W.grownBy wh none) := (HSe.out.from_.trans HGg.out).trans hgh
          have HRA3 : Hid (Rd wh va ys) := HRA2.out.grown (HGg.out.trans hgh) (by simp)
          clear HB3 hgh
          have HB4 := same_any va b' ys ys F F ca cap' wh HRA3.out (HY.out.grown HWh.out (by simp)) HF.out HF.out (by omega)
          rw [show decide (ys = ys) = true from decide_eq_true rfl] at HB4
          go_wp2_with fail
          refine HB4.mono ?_
          rintro e wi ⟨rfl, hgi⟩
          have HWi : Hid (W.grownBy wi none) := HWh.out.trans hgi
          clear HB4 hgi
          go_wp2_with fail
          refine (HAW.out _).mono ?_
          rintro e wj ⟨rfl, hgj⟩
          have HG : Hid (W.grownBy wj none) := HWi.out.trans hgj
          clear hgj
          go_wp2
          go_ret
          exact ⟨rfl, gb_below HG.out⟩
        · have HOFF := gone_off hGo kv hkv
          clear HPUT hGo
          go_wp2_with fail
          refine HOFF.mono ?_
          rintro e wa ⟨rfl, hO1⟩
          have HON := off_on hO1
          clear HOFF hO1
          go_wp2_with fail
          refine HON.mono ?_
          rintro e wb ⟨rfl, hO2⟩
          have HOP := on_open hO2
          clear HON hO2
          go_wp2_with fail
          refine HOP.mono ?_
          rintro e wc ⟨p2, nc, xc, Bc, O', rfl, hSc, hnc, hcase⟩
          have hO' : O' = (wasO false zs) := by
            rcases hcase with ⟨h, _⟩ | ⟨_, h⟩
            · exact absurd h (by decide)
            · exact h
          have hOa : O' nmA = some (1, zs) := by rw [hO', wasO_af]
          have hOo : O' nmO = some (1, [7]) := by rw [hO', wasO_o]
          have HSc : Hid (StAt W wc d mb nc xc p2 O' Bc) := hSc
          have HGA := st_get hSc nmA keyA
          rw [st_find hSc, hOa] at HGA
          have HGA : Hid (Calls Try.prog 16 #[.pointer (some ⟨p2, 0, none⟩), .string ⟨#[97]⟩] wc fun e w' => ∃ v c, e = .returned (.tuple #[.slice v M c, .int .u64 1, .int .i64 0]) ∧ Rd w' v zs ∧ wc.grownBy w' none) := HGA.mono (fun e w' ⟨v, N, c, h1, h2, h3⟩ => by
            have hN : N = M := by rw [← HM.out]; exact h2.1.symm
            subst hN
            exact ⟨v, c, h1, h2.2.1, h3⟩)
          have HOo : Hid (O' nmO = some (1, [7])) := hOo
          clear HOP hSc hcase hO' hOa hOo
          go_wp2_with fail
          refine HGA.out.mono ?_
          rintro e wd ⟨va, ca, rfl, hra, hgd⟩
          have HRA : Hid (Rd wd va zs) := hra
          have HSd : Hid (StAt W wd d mb nc xc p2 O' Bc) := HSc.out.grown hgd
          have HGO := st_get HSd.out nmO keyO
          rw [st_find HSd.out, HOo.out] at HGO
          clear HGA hra hgd HSc
          go_wp2_with fail
          refine HGO.mono ?_
          rintro e we ⟨vo, No, co, rfl, hOo, hge⟩
          obtain rfl : No = 1 := hOo.1.symm
          have HRO : Hid (Rd we vo [7]) := hOo.2.1
          have HRA2 : Hid (Rd we va zs) := HRA.out.grown hge (by simp)
          have HSe : Hid (StAt W we d mb nc xc p2 O' Bc) := HSd.out.grown hge
          have HB1 := same_any vo (some ⟨we.heap.size, 0, none⟩) [7] [7] 1 1 co 1 (we.alloc (.cells #[.int .u8 7] 5)) (HRO.out.grown (World.grownBy_alloc _ _ none) (by simp)) (rd_lit we [7] (by decide)) rfl rfl (by omega)
          clear HGO hOo hge HSd HRA
          go_wp2_with fail
          refine HB1.mono ?_
          rintro e wf ⟨rfl, hgf⟩
          have HGf : Hid (we.grownBy wf none) := (World.grownBy_alloc we _ none).trans hgf
          have HB2 := st_drafts (HSe.out.grown HGf.out) (by omega)
          clear HB1 hgf
          go_wp2_with fail
          refine HB2.mono ?_
          rintro e wg ⟨al, cl, rfl, hgg⟩
          have HGg : Hid (we.grownBy wg none) := HGf.out.trans hgg
          have HB3 := same0 al cl wg
          clear HB2 hgg
          go_wp2_with fail
          refine HB3.mono ?_
          rintro e wh ⟨rfl, hgh⟩
          have HWh : Hid (W.grownBy wh none) := (HSe.out.from_.trans HGg.out).trans hgh
          have HRA3 : Hid (Rd wh va zs) := HRA2.out.grown (HGg.out.trans hgh) (by simp)
          clear HB3 hgh
          have HB4 := same_any va b zs zs M M ca cap wh HRA3.out (HZ.out.grown HWh.out (by simp)) HM.out HM.out (by omega)
          rw [show decide (zs = zs) = true from decide_eq_true rfl] at HB4
          go_wp2_with fail
          refine HB4.mono ?_
          rintro e wi ⟨rfl, hgi⟩
          have HWi : Hid (W.grownBy wi none) := HWh.out.trans hgi
          clear HB4 hgi
          go_wp2_with fail
          refine (HAW.out _).mono ?_
          rintro e wj ⟨rfl, hgj⟩
          have HG : Hid (W.grownBy wj none) := HWi.out.trans hgj
          clear hgj
          go_wp2
          go_ret
          exact ⟨rfl, gb_below HG.out⟩
end Go.Proofs.Ytlmddmfoodejmaa
