/- ObjSlices: the walk. -/
import Derived.Test.YtlmddmfoodejmaaFo
namespace Go.Proofs.Ytlmddmfoodejmaa
open Go.RowKit Go.Maps
set_option linter.unusedVariables false
set_option maxRecDepth 20000

/-- append(out, xs...) that is guarded, and wanted. -/
theorem wpList_append_sg {α : Type} {E : Elem α} {P : Program} {t e : TypeId} {bytes : Nat} (T : ElemOf E P t e bytes) {w : World} {ops : Array Oper} {rest : List Oper} {o : Oper} {a : Act} {Q : Exit → Act → World → Prop} (hw : Region.wanted o (yielded ops a.tmps) = true) (s x : Operand)
    (ho : o.op = .call { callee := .builtin .append, args := #[s, x], argTypes := #[t, t] }) (base : Nat) (v : Value) (n : Nat) (xs : List α) (hs : a.eval s = v) (hown : SOwn E e w base v n xs)
    (src : Option Addr) (zs : List α) (m cap : Nat) (hx : a.eval x = .slice src m cap) (hm : zs.length = m) (hr : SRd E w src zs) (hnil : src = Option.none → cap = 0) (hlen : (n + m) * bytes ≤ 140737488355328) (hmax : n + m ≤ maxLen) (hb : base ≤ w.heap.size)
    (h : ∀ v' w', SOwn E e w' base v' (n + m) (xs ++ zs) → w.grownBy w' v.ownBlock → wpList P ops Q rest (a.put o.dst v') w') : wpList P ops Q (o :: rest) a w := by
  obtain ⟨i0, z, hi, hz0, hz1, hz2, hz3⟩ := T.info
  subst hm
  show if Region.wanted o (yielded ops a.tmps) then _ else _
  rw [if_pos hw]
  cases src with
  | none =>
    obtain rfl := hnil rfl
    obtain rfl := hr.none
    refine .inl ?_
    have hrun := run_append_owned_none (P := P) (w := w) base t o.type e i0 E.size T.under hi v n (E.flat xs) hown
    have h' := h v w (by simpa using hown) (World.grownBy.refl _ _)
    unfold Oper.wp
    simp only [List.length_nil] at hx
    simp [execOp, ho, resolve, invoke, builtin, hs, hx, hrun, Result.andThen]
    exact h'
  | some ad =>
    refine .inl (wp_append_own w s x t ho base e i0 z E.size bytes T.under hi hz0 hz1 hz2 hz3 E.pos _ n (E.flat xs) hs hown ad zs.length cap (E.flat zs) hx (E.flat_len zs) hr.news (E.flat_one zs) hmax hlen hb ?_)
    intro v' w' hown' hg hne
    rw [← E.flat_app] at hown'
    exact h v' w' hown' hg
theorem sown_cap {α : Type} {E : Elem α} {e : TypeId} {w : World} {base n : Nat} {a : Option Addr} {c : Nat} {l : List α} (h : SOwn E e w base (.slice a n c) n l) : a = none → c = 0 := by
  rintro rfl
  rcases h.2 with ⟨h', _⟩ | ⟨g, cap, cur, h', _⟩
  · injection h'
  · cases h'
theorem sown_keptX {α : Type} {E : Elem α} {e : TypeId} {w w' : World} {base n : Nat} {v : Value} {l : List α} {X : Nat → Prop} (h : SOwn E e w base v n l) (hk : Kept w w' X) (hX : ∀ k, v.ownBlock = some k → ¬ X k) : SOwn E e w' base v n l := by
  refine ⟨h.1, ?_⟩
  rcases h.2 with h' | ⟨g, cap, cur, h', k1, k2, k3⟩
  · exact .inl h'
  · refine .inr ⟨g, cap, cur, h', k1, ?_, k3⟩
    rw [hk.block g ((Array.getElem?_eq_some_iff.1 k2).1) (hX g (by rw [h']; rfl))]
    exact k2
theorem sown_sliceB {w : World} {base n : Nat} {v : Value} {l : List Int} (h : SOwn byteE 5 w base v n l) : ∃ a c, v = .slice a n c := by
  rcases h.2 with ⟨h', h2⟩ | ⟨g, cap, cur, h', _⟩
  · exact ⟨none, 0, by rw [h', h2]⟩
  · exact ⟨_, _, h'⟩
/-- A store with the one object k. -/
def KAt (W w : World) (d mb p g : Nat) (zs : List Int) (B : Nat → Prop) : Prop := ∃ n x, StAt W w d mb n x p (setO O0 nmK (some (g, zs))) B ∧ n ≤ 4 * g ∧ x.wn ≤ 3 * g
theorem KAt.grown {W w w' : World} {d mb p g : Nat} {zs : List Int} {B : Nat → Prop} (h : KAt W w d mb p g zs B) (hg : w.grownBy w' none) : KAt W w' d mb p g zs B := by
  obtain ⟨n, x, h1, h2⟩ := h
  exact ⟨n, x, h1.grown hg, h2⟩
theorem KAt.from_ {W w : World} {d mb p g : Nat} {zs : List Int} {B : Nat → Prop} (h : KAt W w d mb p g zs B) : W.grownBy w none := by
  obtain ⟨n, x, h1, h2⟩ := h
  exact h1.from_
theorem KAt.ltB {W w : World} {d mb p g : Nat} {zs : List Int} {B : Nat → Prop} (h : KAt W w d mb p g zs B) : ∀ k, B k → k < w.heap.size := by
  obtain ⟨n, x, h1, h2⟩ := h
  exact h1.ltB
theorem k_put0 {W w : World} {d mb p : Nat} {B : Nat → Prop} {x : DSt} (h : StAt W w d mb 0 x p O0 B) (hw : x.wn ≤ 0) (a : Option Addr) (M cd : Nat) (dd : List Int) (hr : Rd w a dd) (hM : dd.length = M) (hnil : a = none → cd = 0) (hlen : M ≤ 1048576) :
    Calls Try.prog 10 #[.pointer (some ⟨p, 0, none⟩), .string ⟨#[107]⟩, .slice a M cd] w fun e w' => e = .returned (.tuple #[.int .u64 1, .int .i64 0]) ∧ ∃ B', KAt W w' d mb p 1 dd B' ∧ Step w w' B B' := by
  refine (st_put h nmK a M cd dd keyK (by omega) (by omega) (by show (0 : Nat) < _; omega) hr hM hnil hlen).mono ?_
  rintro e w' ⟨rfl, n', x', B', k1, k2, k3, k4⟩
  exact ⟨rfl, B', ⟨n', x', k1, by omega, by omega⟩, k4⟩
theorem k_put {W w : World} {d mb p g : Nat} {zs : List Int} {B : Nat → Prop} (h : KAt W w d mb p g zs B) (hg : g ≤ 100) (a : Option Addr) (M cd : Nat) (dd : List Int) (hr : Rd w a dd) (hM : dd.length = M) (hnil : a = none → cd = 0) (hlen : M ≤ 1048576) :
    Calls Try.prog 10 #[.pointer (some ⟨p, 0, none⟩), .string ⟨#[107]⟩, .slice a M cd] w fun e w' => e = .returned (.tuple #[.int .u64 ((g : Int) + 1), .int .i64 0]) ∧ ∃ B', KAt W w' d mb p (g + 1) dd B' ∧ Step w w' B B' := by
  obtain ⟨n, x, h1, h2, h3⟩ := h
  refine (st_put h1 nmK a M cd dd keyK (by omega) (by omega) (by rw [setO_same]; show g < _; omega) hr hM hnil hlen).mono ?_
  rintro e w' ⟨rfl, n', x', B', k1, k2, k3, k4⟩
  rw [setO_same, setO_setO] at k1
  rw [setO_same]
  exact ⟨rfl, B', ⟨n', x', k1, by omega, by omega⟩, k4⟩
theorem k_slice {W w : World} {d mb p g : Nat} {zs : List Int} {B : Nat → Prop} (h : KAt W w d mb p g zs B) (f m : Nat) (T : Int) (hfm : f + m ≤ zs.length) (hT : T = ((f + m : Nat) : Int)) :
    Calls Try.prog 24 #[.pointer (some ⟨p, 0, none⟩), .string ⟨#[107]⟩, .int .i64 (f : Int), .int .i64 T] w fun e w' => ∃ a c, e = .returned (.tuple #[.slice a m c, .int .i64 0]) ∧ SOwn byteE 5 w' w.heap.size (.slice a m c) m ((zs.drop f).take m) ∧ (∀ z ∈ (zs.drop f).take m, 0 ≤ z ∧ z ≤ 255) ∧ w.grownBy w' none := by
  obtain ⟨n, x, h1, h2⟩ := h
  exact st_slice h1 nmK keyK g zs (setO_same _ _ _) f m T hfm hT
theorem k_sliceNot {W w : World} {d mb p g : Nat} {zs : List Int} {B : Nat → Prop} (h : KAt W w d mb p g zs B) (f t : Int) (hf : 0 ≤ f) (hft : f ≤ t) (ht : (zs.length : Int) < t) :
    Calls Try.prog 24 #[.pointer (some ⟨p, 0, none⟩), .string ⟨#[107]⟩, .int .i64 f, .int .i64 t] w fun e w' => e = .returned (.tuple #[.slice none 0 0, .int .i64 113]) ∧ w.grownBy w' none := by
  obtain ⟨n, x, h1, h2⟩ := h
  exact st_sliceNot h1 nmK keyK g zs (setO_same _ _ _) f t hf hft ht
set_option maxHeartbeats 8000000 in
theorem objSlices_walk (b : Option Addr) (zs : List Int) (M cap : Nat) (b' : Option Addr) (ys : List Int) (F cap' : Nat) (a : Option Addr) (gs : List Int) (L c : Nat) (W : World) (hz : Rd W b zs) (hnil : b = none → cap = 0) (hM : zs.length = M) (hM2 : M ≤ 140737488351232) (hy : Rd W b' ys) (hnil' : b' = none → cap' = 0) (hF : ys.length = F) (hF2 : F ≤ 140737488351232) (hr : SRd i64E W a gs) (hL : gs.length = L) (hL2 : L ≤ 140737488351232) :
    Calls Try.prog 6 #[.slice b M cap, .slice b' F cap', .slice a L c] W fun e w' => e = .returned (.bool true) ∧ Below W.heap.size W w' := by
  have HAW : Hid (∀ w, Calls Try.prog 9 #[] w fun e w' => e = .returned (.bool true) ∧ w.grownBy w' none) := o_awake
  have HA0 := st_new W
  have HR : Hid (SRd i64E W a gs) := hr
  have HL : Hid (gs.length = L) := hL
  have HZ : Hid (Rd W b zs) := hz
  have HM : Hid (zs.length = M) := hM
  have HNIL : Hid (b = none → cap = 0) := hnil
  have HY : Hid (Rd W b' ys) := hy
  have HF : Hid (ys.length = F) := hF
  have HNIL' : Hid (b' = none → cap' = 0) := hnil'
  clear hr hL hz hM hnil hy hF hnil'
  go_enter Try.func6, Try.ntmps6
  go_wp2_with fail
  refine HA0.mono ?_
  rintro e w1 ⟨d, mb, B, rfl, hd, hW, hlo, hlt⟩
  have HA1 := st_open0 hd hW hlo hlt
  clear HA0 hd hW hlo hlt
  go_wp2_with fail
  refine HA1.mono ?_
  rintro e w2 ⟨p, x2, B2, rfl, hS, hw2, hst⟩
  have HS : Hid (StAt W w2 d mb 0 x2 p O0 B2 ∧ x2.wn ≤ 0) := ⟨hS, hw2⟩
  clear HA1 hS hst hw2
  by_cases hM1 : 5000 < M + F
  · have q1 : decide ((5000 : Int) < (M : Int) + (F : Int)) = true := by simp; omega
    have q2 : decide (5000 < M + F) = true := by simp; omega
    go_wp2_with fail
    refine (HAW.out _).mono ?_
    rintro e w3 ⟨rfl, hg⟩
    have HG : Hid (W.grownBy w3 none) := HS.out.1.from_.trans hg
    clear hg
    go_wp2
    go_ret
    exact ⟨rfl, gb_below HG.out⟩
  · have q1 : decide ((5000 : Int) < (M : Int) + (F : Int)) = false := by simp; omega
    have q2 : decide (5000 < M + F) = false := by simp; omega
    have HCP := copy_any b zs cap w2 (HZ.out.grown HS.out.1.from_ (by simp)) HNIL.out (by have := HM.out; omega)
    rw [HM.out] at HCP
    go_wp2_with fail
    refine HCP.mono ?_
    rintro e w3 ⟨gq, cq, rfl, ho, hg3⟩
    have HC := k_put0 (HS.out.1.grown hg3) HS.out.2 (some ⟨gq, 0, none⟩) M cq zs ho.rd HM.out (by simp) (by omega)
    clear HCP ho hg3 HS
    go_wp2_with fail
    refine HC.mono ?_
    rintro e wq ⟨rfl, Bq, hK, _⟩
    have HK : Hid (KAt W wq d mb p 1 zs Bq) := hK
    clear HC hK
    go_wp2
    go_loopw [9, 10, 11] (fun v t i wr => ∃ at_ k : Nat, at_ ≤ M ∧ k ≤ L ∧ t = .int .i64 at_ ∧ i = .int .i64 k ∧ Hid (SOwn byteE 5 wr wq.heap.size v at_ (zs.take at_) ∧ wq.grownBy wr none)) (fun _ _ i _ => L - (intOf i).toNat)
    case atStart => exact ⟨0, 0, Nat.zero_le _, Nat.zero_le _, rfl, rfl, SOwn.nil 5 _ _, World.grownBy.refl _ _⟩
    case round =>
      obtain ⟨at_, k, hat, hk, rfl, rfl, HI⟩ := hrel
      have HX : Hid (wr.grownBy wr none) := World.grownBy.refl _ _
      by_cases hlt : k < L ∧ at_ < M
      · obtain ⟨hlt1, hlt2⟩ := hlt
        have hi : (k : Int) < (L : Int) := by omega
        have hi2 : (at_ : Int) < (M : Int) := by omega
        have hl := HL.out
        obtain ⟨z, ex⟩ : ∃ z, gs[k]? = some z := ⟨_, List.getElem?_eq_getElem (by omega)⟩
        obtain ⟨ba, off, rfl, hcc⟩ := ((HR.out.grown HK.out.from_ (by simp)).grown HI.out.2 (by simp)).at (by omega)
        have a0 : wr.cell? ⟨ba, off + k, none⟩ = some (.int .i64 z) := by
          have h := hcc k z 0 (.int .i64 z) ex rfl
          simpa [i64E] using h
        obtain ⟨D, hD⟩ : ∃ D : Nat, (M : Int) - (at_ : Int) = (D : Int) := ⟨M - at_, by omega⟩
        have hD0 : 0 < D := by omega
        have HLOW := Low_any z wr
        have HDD : Hid ((M : Int) - (at_ : Int) = (D : Int)) := hD
        clear hcc ex
        go_wp2_with fail
        refine HLOW.mono ?_
        rintro e w4 ⟨r, rfl, hr0, hr1, rfl⟩
        obtain ⟨m, em⟩ : ∃ m : Nat, r.tmod (D : Int) = (m : Int) := ⟨(r.tmod (D : Int)).toNat, by have := Int.tmod_nonneg (D : Int) hr0; omega⟩
        have hmD : m < D := by have := Int.tmod_lt_of_pos r (show (0 : Int) < (D : Int) by omega); omega
        have hne1 : ¬ ((D : Int) = 0) := by omega
        have hne2 : ¬ (D = 0) := by omega
        have hne3 : ((D : Int) == 0) = false := by simp; omega
        have hne4 : (D == 0) = false := by simp; omega
        have hmM : at_ + 1 + m ≤ M := by omega
        have HC := k_slice (HK.out.grown HI.out.2) at_ (1 + m) ((at_ : Int) + 1 + (m : Int)) (by rw [HM.out]; omega) (by omega)
        obtain ⟨a3, c3, e3⟩ := sown_sliceB HI.out.1
        subst e3
        have HSO : Hid (SOwn byteE 5 wr wq.heap.size (.slice a3 at_ c3) at_ (zs.take at_)) := HI.out.1
        have HGW : Hid (wq.grownBy wr none) := HI.out.2
        have HT : Hid (zs.take at_ ++ (zs.drop at_).take (1 + m) = zs.take (at_ + 1 + m)) := by
          show _ = _
          rw [show at_ + 1 + m = at_ + (1 + m) by omega]
          symm
          exact List.take_add
        have HTL : Hid (((zs.drop at_).take (1 + m)).length = 1 + m) := by show _ = _; rw [List.length_take, List.length_drop, HM.out]; omega
        have hatl : at_ + (1 + m) ≤ 5000 := by omega
        clear HLOW HI HX HDD
        go_wp2_with fail
        refine HC.mono ?_
        rintro e w5 ⟨ax, cx, rfl, hso, hby, hg5⟩
        have HXO : Hid (SOwn byteE 5 w5 wr.heap.size (.slice ax (1 + m) cx) (1 + m) ((zs.drop at_).take (1 + m))) := hso
        have HG5 : Hid (wr.grownBy w5 none) := hg5
        clear HC hso hby hg5
        go_wp2_with (at_builtin; refine wpList_append_s byteET rfl (.tmp 83) (.tmp 84) rfl wq.heap.size (.slice a3 at_ c3) at_ (zs.take at_) rfl (SOwn.kept HSO.out HG5.out (by cases a3 <;> simp [Value.ownBlock])) ax ((zs.drop at_).take (1 + m)) (1 + m) cx rfl HTL.out (SOwn.rd HXO.out) (sown_cap HXO.out) (by omega) (by unfold maxLen; omega) (Nat.le_trans HGW.out.size HG5.out.size) ?_; intro v6 w6 ho6 hg6 hn6)
        have HO6 : Hid (SOwn byteE 5 w6 wq.heap.size v6 (at_ + 1 + m) (zs.take (at_ + 1 + m))) := by
          show SOwn _ _ _ _ _ _ _
          rw [← HT.out, show at_ + 1 + m = at_ + (1 + m) by omega]
          exact ho6
        have HG6 : Hid (wq.grownBy w6 none) := gb_trans (HGW.out.trans HG5.out) hg6 (fun y hy => .inl (HSO.out.block y hy).1)
        clear ho6 hg6 hn6
        exact ⟨⟨at_ + 1 + m, k + 1, by omega, by omega, by go_num, by go_num, HO6.out, HG6.out⟩, by simp [intOf]; omega⟩
      · have hcond : (decide (k < L) && decide (at_ < M)) = false := by
          rw [Bool.and_eq_false_iff]
          by_cases h1 : k < L
          · right; simp; omega
          · left; simpa using h1
        obtain ⟨a3, c3, e3⟩ := sown_sliceB HI.out.1
        subst e3
        have HSO : Hid (SOwn byteE 5 wr wq.heap.size (.slice a3 at_ c3) at_ (zs.take at_)) := HI.out.1
        have HGW : Hid (wq.grownBy wr none) := HI.out.2
        have HKr : Hid (KAt W wr d mb p 1 zs Bq) := HK.out.grown HI.out.2
        have HC1 := k_slice HKr.out at_ (M - at_) (M : Int) (by rw [HM.out]; omega) (by omega)
        clear HI HX hlt
        by_cases hk1 : k < L
        · have g1 : decide (k < L) = true := by simpa using hk1
          have g2 : decide (at_ < M) = false := by rw [g1] at hcond; simpa using hcond
          have g3 : (k : Int) < (L : Int) := by omega
          have g4 : ¬ (at_ : Int) < (M : Int) := by simp at g2; omega
          go_wp2_with fail
          refine HC1.mono ?_
          rintro e w5 ⟨ax, cx, rfl, hso, hby, hg5⟩
          have HXO : Hid (SOwn byteE 5 w5 wr.heap.size (.slice ax (M - at_) cx) (M - at_) ((zs.drop at_).take (M - at_))) := hso
          have HG5 : Hid (wr.grownBy w5 none) := hg5
          have HK5 : Hid (KAt W w5 d mb p 1 zs Bq) := HKr.out.grown hg5
          have HC2 := k_sliceNot HK5.out 0 ((M : Int) + 1) (by omega) (by omega) (by have := HM.out; omega)
          clear HC1 hso hby hg5 HKr
          go_wp2_with fail
          refine HC2.mono ?_
          rintro e w6 ⟨rfl, hg6⟩
          have HG6 : Hid (wr.grownBy w6 none) := HG5.out.trans hg6
          have HX6 : Hid (SOwn byteE 5 w6 wr.heap.size (.slice ax (M - at_) cx) (M - at_) ((zs.drop at_).take (M - at_))) := SOwn.kept HXO.out hg6 (by cases ax <;> simp [Value.ownBlock])
          have HK6 : Hid (KAt W w6 d mb p 1 zs Bq) := HK5.out.grown hg6
          have HCP := copy_any b' ys cap' w6 (HY.out.grown HK6.out.from_ (by simp)) HNIL'.out (by have := HF.out; omega)
          rw [HF.out] at HCP
          clear HC2 hg6 HXO HG5 HK5
          go_wp2_with fail
          refine HCP.mono ?_
          rintro e w7 ⟨gy, cy, rfl, ho7, hg7⟩
          have HK7 : Hid (KAt W w7 d mb p 1 zs Bq) := HK6.out.grown hg7
          have HX7 : Hid (SOwn byteE 5 w7 wr.heap.size (.slice ax (M - at_) cx) (M - at_) ((zs.drop at_).take (M - at_))) := SOwn.kept HX6.out hg7 (by cases ax <;> simp [Value.ownBlock])
          have HA7 : Hid (SOwn byteE 5 w7 wq.heap.size (.slice a3 at_ c3) at_ (zs.take at_)) := SOwn.kept HSO.out (HG6.out.trans hg7) (by cases a3 <;> simp [Value.ownBlock])
          have HG7 : Hid (wr.grownBy w7 none) := HG6.out.trans hg7
          have HC3 := k_put HK7.out (by omega) (some ⟨gy, 0, none⟩) F cy ys ho7.rd HF.out (by simp) (by omega)
          clear HCP ho7 hg7 HK6 HX6 HG6
          go_wp2_with fail
          refine HC3.mono ?_
          rintro e w8 ⟨rfl, B8, hK8, hst8⟩
          have HK8 : Hid (KAt W w8 d mb p 2 ys B8) := hK8
          have HX8 : Hid (SOwn byteE 5 w8 wr.heap.size (.slice ax (M - at_) cx) (M - at_) ((zs.drop at_).take (M - at_))) := sown_keptX HX7.out hst8.1 (fun k hk hb => by have h1 := (HX7.out.block k hk).1; have h2 := HK.out.ltB k hb; have h3 := HGW.out.size; omega)
          have HA8 : Hid (SOwn byteE 5 w8 wq.heap.size (.slice a3 at_ c3) at_ (zs.take at_)) := sown_keptX HA7.out hst8.1 (fun k hk hb => by have h1 := (HA7.out.block k hk).1; have h2 := HK.out.ltB k hb; omega)
          have HZ8 : Hid (wr.heap.size ≤ w8.heap.size) := Nat.le_trans HG7.out.size hst8.1.size
          have HC4 := k_slice hK8 0 F (F : Int) (by have := HF.out; omega) (by omega)
          rw [show ((0 : Nat) : Int) = 0 from rfl, List.drop_zero, show ys.take F = ys by rw [← HF.out, List.take_length]] at HC4
          clear HC3 hK8 hst8 HX7 HA7 HK7
          go_wp2_with fail
          refine HC4.mono ?_
          rintro e w9 ⟨ay, cyy, rfl, hsy, hbyy, hg9⟩
          have HY9 : Hid (SOwn byteE 5 w9 w8.heap.size (.slice ay F cyy) F ys) := hsy
          have HX9 : Hid (SOwn byteE 5 w9 wr.heap.size (.slice ax (M - at_) cx) (M - at_) ((zs.drop at_).take (M - at_))) := SOwn.kept HX8.out hg9 (by cases ax <;> simp [Value.ownBlock])
          have HA9 : Hid (SOwn byteE 5 w9 wq.heap.size (.slice a3 at_ c3) at_ (zs.take at_)) := SOwn.kept HA8.out hg9 (by cases a3 <;> simp [Value.ownBlock])
          have HW9 : Hid (W.grownBy w9 none) := HK8.out.from_.trans hg9
          have HS9 : Hid (wq.heap.size ≤ w9.heap.size) := Nat.le_trans (Nat.le_trans HGW.out.size HZ8.out) hg9.size
          have HTL : Hid (((zs.drop at_).take (M - at_)).length = M - at_) := by show _ = _; rw [List.length_take, List.length_drop, HM.out]; omega
          have HCT : Hid (zs.take at_ ++ (zs.drop at_).take (M - at_) = zs) := by
            show _ = _
            rw [show (zs.drop at_).take (M - at_) = zs.drop at_ by rw [← HM.out, ← List.length_drop, List.take_length], List.take_append_drop]
          have HABL : Hid (∀ k, (Value.slice a3 at_ c3).ownBlock = some k → wq.heap.size ≤ k ∧ k < w8.heap.size) := fun k hk => ⟨(HSO.out.block k hk).1, Nat.lt_of_lt_of_le (HSO.out.block k hk).2 HZ8.out⟩
          clear HC4 hsy hbyy hg9 HX8 HA8
          go_wp2_with (at_builtin; refine wpList_append_sg byteET rfl (.tmp 117) (.tmp 118) rfl wq.heap.size (.slice a3 at_ c3) at_ (zs.take at_) rfl HA9.out ax ((zs.drop at_).take (M - at_)) (M - at_) cx rfl HTL.out (SOwn.rd HX9.out) (sown_cap HX9.out) (by omega) (by unfold maxLen; omega) HS9.out ?_; intro v10 w10 ho10 hg10; rw [HCT.out, show at_ + (M - at_) = M by omega] at ho10; obtain ⟨a10, c10, e10⟩ := sown_sliceB ho10; subst e10; have HR10 : Hid (Rd w10 a10 zs) := srd_rd ho10.rd HZ.out.2; have HW10 : Hid (W.grownBy w10 none) := gb_trans HW9.out hg10 (fun y hy => .inl (Nat.le_trans HK.out.from_.size (HABL.out y hy).1)); have HY10 : Hid (Rd w10 ay ys) := srd_rd (SOwn.rd (SOwn.kept HY9.out hg10 (by rcases ay with _ | y; exact .inl rfl; right; intro e; have h1 := (HABL.out _ e.symm).2; have h2 := (HY9.out.block _ rfl).1; omega))) HY.out.2; clear ho10 hg10)
          have HB1 := same_any a10 b zs zs M M c10 cap w10 HR10.out (HZ.out.grown HW10.out (by simp)) HM.out HM.out (by omega)
          rw [show decide (zs = zs) = true from decide_eq_true rfl] at HB1
          refine HB1.mono ?_
          rintro e wa ⟨rfl, hga⟩
          have HYa : Hid (Rd wa ay ys) := HY10.out.grown hga (by simp)
          have HWa : Hid (W.grownBy wa none) := HW10.out.trans hga
          have HB2 := same_any ay b' ys ys F F cyy cap' wa HYa.out (HY.out.grown HWa.out (by simp)) HF.out HF.out (by omega)
          rw [show decide (ys = ys) = true from decide_eq_true rfl] at HB2
          clear HB1 hga
          go_wp2_with fail
          refine HB2.mono ?_
          rintro e wb ⟨rfl, hgb⟩
          have HWb : Hid (W.grownBy wb none) := HWa.out.trans hgb
          clear HB2 hgb
          go_wp2_with fail
          refine (HAW.out _).mono ?_
          rintro e wc ⟨rfl, hgc⟩
          have HG : Hid (W.grownBy wc none) := HWb.out.trans hgc
          clear hgc
          go_wp2
          go_ret
          exact ⟨rfl, gb_below HG.out⟩
        · have g1 : decide (k < L) = false := by simpa using hk1
          have g3 : ¬ (k : Int) < (L : Int) := by omega
          go_wp2_with fail
          refine HC1.mono ?_
          rintro e w5 ⟨ax, cx, rfl, hso, hby, hg5⟩
          have HXO : Hid (SOwn byteE 5 w5 wr.heap.size (.slice ax (M - at_) cx) (M - at_) ((zs.drop at_).take (M - at_))) := hso
          have HG5 : Hid (wr.grownBy w5 none) := hg5
          have HK5 : Hid (KAt W w5 d mb p 1 zs Bq) := HKr.out.grown hg5
          have HC2 := k_sliceNot HK5.out 0 ((M : Int) + 1) (by omega) (by omega) (by have := HM.out; omega)
          clear HC1 hso hby hg5 HKr
          go_wp2_with fail
          refine HC2.mono ?_
          rintro e w6 ⟨rfl, hg6⟩
          have HG6 : Hid (wr.grownBy w6 none) := HG5.out.trans hg6
          have HX6 : Hid (SOwn byteE 5 w6 wr.heap.size (.slice ax (M - at_) cx) (M - at_) ((zs.drop at_).take (M - at_))) := SOwn.kept HXO.out hg6 (by cases ax <;> simp [Value.ownBlock])
          have HK6 : Hid (KAt W w6 d mb p 1 zs Bq) := HK5.out.grown hg6
          have HCP := copy_any b' ys cap' w6 (HY.out.grown HK6.out.from_ (by simp)) HNIL'.out (by have := HF.out; omega)
          rw [HF.out] at HCP
          clear HC2 hg6 HXO HG5 HK5
          go_wp2_with fail
          refine HCP.mono ?_
          rintro e w7 ⟨gy, cy, rfl, ho7, hg7⟩
          have HK7 : Hid (KAt W w7 d mb p 1 zs Bq) := HK6.out.grown hg7
          have HX7 : Hid (SOwn byteE 5 w7 wr.heap.size (.slice ax (M - at_) cx) (M - at_) ((zs.drop at_).take (M - at_))) := SOwn.kept HX6.out hg7 (by cases ax <;> simp [Value.ownBlock])
          have HA7 : Hid (SOwn byteE 5 w7 wq.heap.size (.slice a3 at_ c3) at_ (zs.take at_)) := SOwn.kept HSO.out (HG6.out.trans hg7) (by cases a3 <;> simp [Value.ownBlock])
          have HG7 : Hid (wr.grownBy w7 none) := HG6.out.trans hg7
          have HC3 := k_put HK7.out (by omega) (some ⟨gy, 0, none⟩) F cy ys ho7.rd HF.out (by simp) (by omega)
          clear HCP ho7 hg7 HK6 HX6 HG6
          go_wp2_with fail
          refine HC3.mono ?_
          rintro e w8 ⟨rfl, B8, hK8, hst8⟩
          have HK8 : Hid (KAt W w8 d mb p 2 ys B8) := hK8
          have HX8 : Hid (SOwn byteE 5 w8 wr.heap.size (.slice ax (M - at_) cx) (M - at_) ((zs.drop at_).take (M - at_))) := sown_keptX HX7.out hst8.1 (fun k hk hb => by have h1 := (HX7.out.block k hk).1; have h2 := HK.out.ltB k hb; have h3 := HGW.out.size; omega)
          have HA8 : Hid (SOwn byteE 5 w8 wq.heap.size (.slice a3 at_ c3) at_ (zs.take at_)) := sown_keptX HA7.out hst8.1 (fun k hk hb => by have h1 := (HA7.out.block k hk).1; have h2 := HK.out.ltB k hb; omega)
          have HZ8 : Hid (wr.heap.size ≤ w8.heap.size) := Nat.le_trans HG7.out.size hst8.1.size
          have HC4 := k_slice hK8 0 F (F : Int) (by have := HF.out; omega) (by omega)
          rw [show ((0 : Nat) : Int) = 0 from rfl, List.drop_zero, show ys.take F = ys by rw [← HF.out, List.take_length]] at HC4
          clear HC3 hK8 hst8 HX7 HA7 HK7
          go_wp2_with fail
          refine HC4.mono ?_
          rintro e w9 ⟨ay, cyy, rfl, hsy, hbyy, hg9⟩
          have HY9 : Hid (SOwn byteE 5 w9 w8.heap.size (.slice ay F cyy) F ys) := hsy
          have HX9 : Hid (SOwn byteE 5 w9 wr.heap.size (.slice ax (M - at_) cx) (M - at_) ((zs.drop at_).take (M - at_))) := SOwn.kept HX8.out hg9 (by cases ax <;> simp [Value.ownBlock])
          have HA9 : Hid (SOwn byteE 5 w9 wq.heap.size (.slice a3 at_ c3) at_ (zs.take at_)) := SOwn.kept HA8.out hg9 (by cases a3 <;> simp [Value.ownBlock])
          have HW9 : Hid (W.grownBy w9 none) := HK8.out.from_.trans hg9
          have HS9 : Hid (wq.heap.size ≤ w9.heap.size) := Nat.le_trans (Nat.le_trans HGW.out.size HZ8.out) hg9.size
          have HTL : Hid (((zs.drop at_).take (M - at_)).length = M - at_) := by show _ = _; rw [List.length_take, List.length_drop, HM.out]; omega
          have HCT : Hid (zs.take at_ ++ (zs.drop at_).take (M - at_) = zs) := by
            show _ = _
            rw [show (zs.drop at_).take (M - at_) = zs.drop at_ by rw [← HM.out, ← List.length_drop, List.take_length], List.take_append_drop]
          have HABL : Hid (∀ k, (Value.slice a3 at_ c3).ownBlock = some k → wq.heap.size ≤ k ∧ k < w8.heap.size) := fun k hk => ⟨(HSO.out.block k hk).1, Nat.lt_of_lt_of_le (HSO.out.block k hk).2 HZ8.out⟩
          clear HC4 hsy hbyy hg9 HX8 HA8
          go_wp2_with (at_builtin; refine wpList_append_sg byteET rfl (.tmp 117) (.tmp 118) rfl wq.heap.size (.slice a3 at_ c3) at_ (zs.take at_) rfl HA9.out ax ((zs.drop at_).take (M - at_)) (M - at_) cx rfl HTL.out (SOwn.rd HX9.out) (sown_cap HX9.out) (by omega) (by unfold maxLen; omega) HS9.out ?_; intro v10 w10 ho10 hg10; rw [HCT.out, show at_ + (M - at_) = M by omega] at ho10; obtain ⟨a10, c10, e10⟩ := sown_sliceB ho10; subst e10; have HR10 : Hid (Rd w10 a10 zs) := srd_rd ho10.rd HZ.out.2; have HW10 : Hid (W.grownBy w10 none) := gb_trans HW9.out hg10 (fun y hy => .inl (Nat.le_trans HK.out.from_.size (HABL.out y hy).1)); have HY10 : Hid (Rd w10 ay ys) := srd_rd (SOwn.rd (SOwn.kept HY9.out hg10 (by rcases ay with _ | y; exact .inl rfl; right; intro e; have h1 := (HABL.out _ e.symm).2; have h2 := (HY9.out.block _ rfl).1; omega))) HY.out.2; clear ho10 hg10)
          have HB1 := same_any a10 b zs zs M M c10 cap w10 HR10.out (HZ.out.grown HW10.out (by simp)) HM.out HM.out (by omega)
          rw [show decide (zs = zs) = true from decide_eq_true rfl] at HB1
          refine HB1.mono ?_
          rintro e wa ⟨rfl, hga⟩
          have HYa : Hid (Rd wa ay ys) := HY10.out.grown hga (by simp)
          have HWa : Hid (W.grownBy wa none) := HW10.out.trans hga
          have HB2 := same_any ay b' ys ys F F cyy cap' wa HYa.out (HY.out.grown HWa.out (by simp)) HF.out HF.out (by omega)
          rw [show decide (ys = ys) = true from decide_eq_true rfl] at HB2
          clear HB1 hga
          go_wp2_with fail
          refine HB2.mono ?_
          rintro e wb ⟨rfl, hgb⟩
          have HWb : Hid (W.grownBy wb none) := HWa.out.trans hgb
          clear HB2 hgb
          go_wp2_with fail
          refine (HAW.out _).mono ?_
          rintro e wc ⟨rfl, hgc⟩
          have HG : Hid (W.grownBy wc none) := HWb.out.trans hgc
          clear hgc
          go_wp2
          go_ret
          exact ⟨rfl, gb_below HG.out⟩
end Go.Proofs.Ytlmddmfoodejmaa
