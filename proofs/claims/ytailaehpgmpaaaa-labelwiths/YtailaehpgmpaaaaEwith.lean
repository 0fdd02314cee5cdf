/- The program's own With. -/
import Derived.Test.YtailaehpgmpaaaaEins
namespace Go.Proofs.Ytailaehpgmpaaaa
open Go.RowKit
set_option linter.unusedVariables false

theorem Pair.srd {w : World} {vb : Nat} {x y : ByteArray} (h : Pair w vb x y) : SRd labE w (some ⟨vb, 0, none⟩) [(x, y)] := by
  refine .inr ⟨vb, 0, rfl, fun j v hj => ?_⟩
  have := h.news j v hj
  rwa [Addr.add_lit] at this
theorem Held.own {w : World} {base g n c : Nat} {xs : List Lab} {cur : List Value} (h : Held w g n c xs cur) (hb : base ≤ g) (hc : n ≤ c) (hm : c ≤ maxLen) : SOwn labE 52 w base (.slice (some ⟨g, 0, none⟩) n c) n xs :=
  ⟨by rw [labE.flat_len, h.num], .inr ⟨g, c, _, rfl, hb, h.row, hc, hm, by show _ = c * 2; simpa using h.len, h.head⟩⟩

set_option maxHeartbeats 1000000 in
theorem ins_end (v : Value) (n base vb : Nat) (xs : List Lab) (x y : ByteArray) (w : World) (ho : SOwn labE 52 w base v n xs) (hp : Pair w vb x y) (hn : n ≤ 4398046511000) (hb : base ≤ w.heap.size) :
    Calls Try.prog 60 #[v, .int .i64 n, .slice (some ⟨vb, 0, none⟩) 1 1] w fun e w' => ∃ v' m, e = .returned v' ∧ SOwn labE 52 w' base v' m (xs ++ [(x, y)]) ∧ w.grownBy w' v.ownBlock := by
  obtain ⟨a, c, rfl, hnil, hnc, hcm, hsp⟩ := sown_form ho
  obtain ⟨t, hs1, _, _⟩ := ltail a xs n c n (SOwn.len ho) (Nat.le_refl _) hnc hnil
  have HO : Hid (SOwn labE 52 w base (.slice a n c) n xs) := ho
  have HP : Hid (Pair w vb x y) := hp
  have HBS : Hid (base ≤ w.heap.size) := hb
  have q1 : ((n : Int) == (n : Int)) = true := by simp
  clear ho hp hb hnil hsp
  go_enter Try.func60, Try.ntmps60
  go_wp2_with (at_builtin; refine wpList_append_s labT rfl (.tmp 23) (.tmp 24) rfl base _ n xs rfl HO.out (some ⟨vb, 0, none⟩) [(x, y)] 1 1 rfl rfl HP.out.srd (by simp) (by omega) (by unfold maxLen; omega) HBS.out ?_; intro v2 w2 ho2 hg2 hn2)
  go_ret
  exact ⟨v2, n + 1, rfl, ho2, hg2⟩
theorem g_insert (v : Value) (n base vb k : Nat) (xs : List Lab) (x y : ByteArray) (w : World) (ho : SOwn labE 52 w base v n xs) (hp : Pair w vb x y) (hv : v.ownBlock ≠ some vb) (hk : k ≤ n) (hn : n ≤ 4398046511000) (hb : base ≤ w.heap.size) :
    Calls Try.prog 60 #[v, .int .i64 k, .slice (some ⟨vb, 0, none⟩) 1 1] w fun e w' => ∃ v' m, e = .returned v' ∧ SOwn labE 52 w' base v' m (xs.take k ++ [(x, y)] ++ xs.drop k) ∧ w.grownBy w' v.ownBlock := by
  have hlen := SOwn.len ho
  by_cases h : k = n
  · subst h
    rw [List.take_of_length_le (by omega), List.drop_eq_nil_of_le (by omega), List.append_nil]
    exact ins_end v k base vb xs x y w ho hp hn hb
  · rcases ho.2 with ⟨_, h0⟩ | ⟨g, c, cur, rfl, hbg, hg, hnc, hcm, hcs, hct⟩
    · omega
    · have hh : Held w g n c xs cur.toList := ⟨by simpa using hg, by simpa [labE] using hcs, by simpa [labE] using hct, hlen⟩
      have hne : vb ≠ g := fun e => hv (by rw [e]; rfl)
      by_cases hr : n + 1 ≤ c
      · refine (ins_shift g n c k vb xs _ x y w hh hp hne (by omega) hr (by unfold maxLen at hcm; omega)).mono ?_
        rintro e w' ⟨rfl, ⟨cur', h'⟩, hg'⟩
        exact ⟨_, _, rfl, h'.own hbg hr hcm, hg'⟩
      · obtain rfl : c = n := by omega
        refine (ins_grow g c k vb xs _ x y w hh hp (by omega) hn).mono ?_
        rintro e w' ⟨G, rfl, h1, h2, ⟨cur', h'⟩, hg'⟩
        exact ⟨_, _, rfl, h'.own hb h1 h2, gb_any hg' _⟩

theorem g_with1 (s1 s2 name : ByteArray) (nb : Nat) (w : World) (hc : w.cell? ⟨nb, 0, none⟩ = some (.string name)) :
    Calls Try.prog 59 #[.agg #[.string s1, .string s2], .pointer (some ⟨nb, 0, none⟩)] w fun e w' => e = .returned (.bool (!leB s1 name)) ∧ w.grownBy w' none := by
  have c0 : (w.alloc (.cells #[.string s1, .string s2] 52)).cell? ⟨nb, 0, none⟩ = some (.string name) := (World.grownBy_alloc w _ none).cell hc (by simp)
  unfold leB
  clear hc
  go_enter Try.func59, Try.ntmps59
  go_wp2
  go_ret
  exact ⟨ret_bool (by simp), World.grownBy_alloc w _ none⟩

/-- What IndexFunc tells. -/
def IdxPost (ls : List Lab) (L : Nat) (name : ByteArray) (w : World) (e : Ending) (w' : World) : Prop := ∃ (x : Int) (k : Nat), e = .returned (.int .i64 x) ∧ k ≤ L ∧ (x = k ∧ k < L ∨ x = -1 ∧ k = L) ∧ (ls.takeWhile (fun p => leB p.1 name) = ls.take k ∧ ls.dropWhile (fun p => leB p.1 name) = ls.drop k) ∧ w.grownBy w' none
set_option maxHeartbeats 1000000 in
theorem g_indexf (a : Option Addr) (ls : List Lab) (L c nb : Nat) (name : ByteArray) (w : World) (hx : SRd labE w a ls) (hL : ls.length = L) (hz : L ≤ 4398046511104) (hc : w.cell? ⟨nb, 0, none⟩ = some (.string name)) :
    Calls Try.prog 58 #[.slice a L c, .func (.func 59) #[] #[.pointer (some ⟨nb, 0, none⟩)]] w fun e w' => IdxPost ls L name w e w' := by
  have HX : Hid (SRd labE w a ls) := hx
  have HL : Hid (ls.length = L) := hL
  have HC : Hid (w.cell? ⟨nb, 0, none⟩ = some (.string name)) := hc
  have H0 : Hid (WhileAt ls name 0) := by show _ ∧ _; simp
  clear hx hL hc
  go_enter Try.func58, Try.ntmps58
  go_wp2
  go_loopw [8] (fun i wr => ∃ k : Nat, k ≤ L ∧ i = .int .i64 k ∧ w.grownBy wr none ∧ WhileAt ls name k) (fun i _ => L - (intOf i).toNat)
  case atStart => exact ⟨0, Nat.zero_le _, rfl, World.grownBy.refl _ _, H0.out⟩
  case round =>
    obtain ⟨k, hk, rfl, hg, hw⟩ := hrel
    have HG : Hid (w.grownBy wr none) := hg
    have HW : Hid (WhileAt ls name k) := hw
    clear hg hw H0
    by_cases hlt : k < L
    · have hl := HL.out
      obtain ⟨b, off, rfl, hcc⟩ := (HX.out.grown HG.out (by simp)).at (by omega)
      obtain ⟨⟨s1, s2⟩, ex⟩ : ∃ x, ls[k]? = some x := ⟨_, List.getElem?_eq_getElem (by omega)⟩
      have a0 : wr.cell? ⟨b, off + k * 2, none⟩ = some (.string s1) := hcc k _ 0 _ ex rfl
      have a1 : wr.cell? ⟨b, off + k * 2 + 1, none⟩ = some (.string s2) := by rw [Nat.add_assoc]; exact hcc k _ 1 _ ex rfl
      have HEX : Hid (ls[k]? = some (s1, s2)) := ex
      have hi1 : (k : Int) < (L : Int) := by omega
      have HCf : Hid (Calls Try.prog 59 #[.agg #[.string s1, .string s2], .pointer (some ⟨nb, 0, none⟩)] wr fun e w' => e = .returned (.bool (!leB s1 name)) ∧ wr.grownBy w' none) := g_with1 s1 s2 name nb wr (HG.out.cell HC.out (by simp))
      clear hcc ex hl
      cases hb : leB s1 name with
      | true =>
        have HS : Hid (WhileAt ls name (k + 1)) := HW.out.next HEX.out hb
        rw [hb] at HCf
        clear hb
        go_wp2_with fail
        refine HCf.out.mono ?_
        rintro e w1 ⟨rfl, hg1⟩
        have HG1 : Hid (w.grownBy w1 none) := HG.out.trans hg1
        clear hg1
        go_wp2
        go_roundw
        case rel => exact ⟨k + 1, by omega, by go_num, HG1.out, HS.out⟩
        case measure => simp [intOf]; omega
      | false =>
        have HS : Hid (_ ∧ _) := HW.out.stop (.inr ⟨_, HEX.out, hb⟩)
        rw [hb] at HCf
        clear hb
        go_wp2_with fail
        refine HCf.out.mono ?_
        rintro e w1 ⟨rfl, hg1⟩
        have HG1 : Hid (w.grownBy w1 none) := HG.out.trans hg1
        clear hg1
        go_wp2
        go_ret
        exact ⟨_, k, rfl, hk, .inl ⟨rfl, hlt⟩, HS.out, HG1.out⟩
    · have HS : Hid (_ ∧ _) := HW.out.stop (.inl (by have := HL.out; omega))
      have hki : ¬ (k : Int) < (L : Int) := by omega
      go_wp2
      go_ret
      exact ⟨_, k, rfl, hk, .inr ⟨rfl, by omega⟩, HS.out, HG.out⟩

/-- Without one name, and the name's own variable, as With calls it. -/
theorem without_one (a : Option Addr) (ls : List Lab) (L c : Nat) (name : ByteArray) (w : World) (hx : SRd labE w a ls) (hL : ls.length = L) (hz : L ≤ 4398046510990) :
    Calls Try.prog 32 #[.slice a L c, .slice (some ⟨w.heap.size + 1, 0, none⟩) 1 1] ((w.alloc (.cells #[.string name] 9)).alloc (.cells #[.string name] 9)) fun e w' => ∃ v n, e = .returned v ∧ SOwn labE 52 w' w.heap.size v n (someR ls [name] false) ∧ w.grownBy w' none ∧ w'.cell? ⟨w.heap.size, 0, none⟩ = some (.string name) ∧ v.ownBlock ≠ some w.heap.size := by
  have HA := World.grownBy_alloc w (.cells #[.string name] 9) none
  have hcn : (w.alloc (.cells #[.string name] 9)).cell? ⟨w.heap.size, 0, none⟩ = some (.string name) := by rw [cell_of_row _ w.heap.size 0 _ _ _ (heap_alloc_new w _)]; rfl
  have hsz : (w.alloc (.cells #[.string name] 9)).heap.size = w.heap.size + 1 := Array.size_push _
  have hc := f_without a (some ⟨w.heap.size + 1, 0, none⟩) ls [name] L 1 c 1 _ ((w.alloc (.cells #[.string name] 9)).alloc (.cells (strE.flat [name]).toArray 9)) ((hx.grown HA (by simp)).grown (World.grownBy_alloc _ _ none) (by simp)) (by have := tlit (w.alloc (.cells #[.string name] 9)) [name]; rw [hsz] at this; exact this) hL rfl (by omega) (by omega) rfl
  refine hc.mono ?_
  rintro e w' ⟨v, n, rfl, ho, hg⟩
  have hg2 := (World.grownBy_alloc (w.alloc (.cells #[.string name] 9)) (.cells (strE.flat [name]).toArray 9) none).trans hg
  refine ⟨v, n, rfl, SOwn.base ho (Nat.le_trans HA.size (World.grownBy_alloc _ _ none).size), HA.trans hg2, hg2.cell hcn (by simp), fun e => ?_⟩
  have h1 := (SOwn.block ho _ e).1
  have h2 := (World.grownBy_alloc (w.alloc (.cells #[.string name] 9)) (.cells (strE.flat [name]).toArray 9) none).size
  omega

set_option maxHeartbeats 2000000 in
theorem with_some (a : Option Addr) (ls : List Lab) (L c : Nat) (name value : ByteArray) (w : World) (hx : SRd labE w a ls) (hL : ls.length = L) (hz : L ≤ 4398046510990) (hv : ¬ value = ⟨#[]⟩) :
    Calls Try.prog 30 #[.slice a L c, .string name, .string value] w fun e w' => ∃ v n, e = .returned v ∧ SOwn labE 52 w' w.heap.size v n ((someR ls [name] false).takeWhile (fun p => leB p.1 name) ++ [(name, value)] ++ (someR ls [name] false).dropWhile (fun p => leB p.1 name)) ∧ w.grownBy w' none := by
  have hmf : ∀ (fn : Fn) (first cap : Array Value) (w : World), (Instr.makeFunc fn first cap).run Try.prog w = .ok (.func fn first cap) w := fun _ _ _ _ => rfl
  have HRL : Hid ((someR ls [name] false).length ≤ L) := by show _ ≤ _; rw [← hL]; exact someR_len _ _ _
  have HWo := without_one a ls L c name w hx hL hz
  generalize someR ls [name] false = rest at HWo HRL ⊢
  obtain ⟨R, hR⟩ : ∃ R, R = rest.takeWhile (fun p => leB p.1 name) ++ [(name, value)] ++ rest.dropWhile (fun p => leB p.1 name) := ⟨_, rfl⟩
  rw [← hR]
  have HRR : Hid (R = rest.takeWhile (fun p => leB p.1 name) ++ [(name, value)] ++ rest.dropWhile (fun p => leB p.1 name)) := hR
  have q : value.toList.isEmpty = false := by rw [str_none]; simpa using hv
  clear hx hL hv hR
  go_enter Try.func30, Try.ntmps30
  go_wp2_with fail
  refine HWo.mono ?_
  rintro e w1 ⟨v, n, rfl, ho1, hg1, hc1, hb1⟩
  have HO1 : Hid (SOwn labE 52 w1 w.heap.size v n rest) := ho1
  have HG1 : Hid (w.grownBy w1 none) := hg1
  have HC1 : Hid (w1.cell? ⟨w.heap.size, 0, none⟩ = some (.string name)) := hc1
  have HN : Hid (n ≤ L ∧ rest.length = n) := ⟨by have := SOwn.len ho1; have := HRL.out; omega, SOwn.len ho1⟩
  have HIX : Hid (∀ a c, v = .slice a n c → Calls Try.prog 58 #[.slice a n c, .func (.func 59) #[] #[.pointer (some ⟨w.heap.size, 0, none⟩)]] w1 fun e w' => IdxPost rest n name w1 e w') := by
    intro a c ev
    refine g_indexf a rest n c w.heap.size name w1 (SOwn.rd (by rw [← ev]; exact ho1)) HN.out.2 (by have := HN.out.1; omega) hc1
  have HBL : Hid (v.ownBlock = none ∨ ∃ g, v.ownBlock = some g ∧ w.heap.size ≤ g ∧ g < w1.heap.size) := by
    cases hv : v.ownBlock with
    | none => exact .inl rfl
    | some g => exact .inr ⟨g, rfl, SOwn.block ho1 g hv⟩
  obtain ⟨av, cv, ev, _, _, _, _⟩ := sown_form ho1
  have HCI := HIX.out av cv ev
  clear HIX ho1 hg1 hc1 hb1 HWo
  subst ev
  go_wp2_with fail
  refine HCI.mono ?_
  rintro e w2 ⟨x, k, rfl, hk, hxk, htd, hg2⟩
  have HO2 : Hid (SOwn labE 52 w2 w.heap.size (.slice av n cv) n rest) := SOwn.kept HO1.out hg2 (Classical.em _)
  have HG2 : Hid (w.grownBy w2 none) := HG1.out.trans hg2
  have hc2 : w2.cell? ⟨w.heap.size, 0, none⟩ = some (.string name) := hg2.cell HC1.out (by simp)
  have HINS : Hid (Calls Try.prog 60 #[.slice av n cv, .int .i64 (k : Int), .slice (some ⟨w2.heap.size, 0, none⟩) 1 1] (w2.alloc (.cells #[.string name, .string value] 52)) fun e w' => ∃ v' m, e = .returned v' ∧ SOwn labE 52 w' w.heap.size v' m R ∧ w.grownBy w' none) := by
    rw [HRR.out, htd.1, htd.2]
    refine (g_insert (.slice av n cv) n w.heap.size w2.heap.size k rest name value _ (SOwn.kept HO2.out (World.grownBy_alloc w2 _ none) (Classical.em _)) (Pair.new w2 name value) (fun e => ?_) hk (by have := HN.out.1; omega) (Nat.le_trans HG2.out.size (World.grownBy_alloc w2 _ none).size)).mono ?_
    · have := (SOwn.block HO2.out _ e).2
      omega
    · rintro e w' ⟨v', m, rfl, ho, hg⟩
      exact ⟨v', m, rfl, ho, gb_trans (HG2.out.trans (World.grownBy_alloc w2 _ none)) hg (fun j hj => .inl (SOwn.block HO2.out j hj).1)⟩
  clear hg2 htd HBL HO1 HG1 HC1 HO2 HCI
  rcases hxk with ⟨rfl, hlt⟩ | ⟨rfl, rfl⟩
  · have q3 : decide ((k : Int) < 0) = false := by simp
    go_wp2_with (go_at_call 60; refine HINS.out.mono ?_; rintro e w3 ⟨v', m, rfl, ho, hg⟩)
    go_ret
    exact ⟨v', m, rfl, ho, hg⟩
  · go_wp2_with (go_at_call 60; refine HINS.out.mono ?_; rintro e w3 ⟨v', m, rfl, ho, hg⟩)
    go_ret
    exact ⟨v', m, rfl, ho, hg⟩

theorem f_with (a : Option Addr) (ls : List Lab) (L c : Nat) (name value : ByteArray) (R : List Lab) (w : World) (hx : SRd labE w a ls) (hL : ls.length = L) (hz : L ≤ 4398046510990) (hR : withR ls name value = R) :
    Calls Try.prog 30 #[.slice a L c, .string name, .string value] w fun e w' => ∃ v n, e = .returned v ∧ SOwn labE 52 w' w.heap.size v n R ∧ w.grownBy w' none := by
  subst hR
  unfold withR
  by_cases hv : value = ⟨#[]⟩
  · rw [if_pos hv]
    have HWo := without_one a ls L c name w hx hL hz
    have q : value.toList.isEmpty = true := by rw [str_none]; simpa using hv
    generalize someR ls [name] false = rest at HWo ⊢
    clear hx hL hv
    go_enter Try.func30, Try.ntmps30
    go_wp2_with fail
    refine HWo.mono ?_
    rintro e w1 ⟨v, n, rfl, ho1, hg1, hc1, hb1⟩
    have HO1 : Hid (SOwn labE 52 w1 w.heap.size v n rest) := ho1
    have HG1 : Hid (w.grownBy w1 none) := hg1
    clear ho1 hg1 hc1 hb1
    go_wp2
    go_ret
    exact ⟨v, n, rfl, HO1.out, HG1.out⟩
  · rw [if_neg hv]
    exact with_some a ls L c name value w hx hL hz hv
end Go.Proofs.Ytailaehpgmpaaaa
