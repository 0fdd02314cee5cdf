/- The document's own With. -/
import Derived.Test.YtailaehpgmpaaaaRsome
import Derived.Test.YtailaehpgmpaaaaDraw
namespace Go.Proofs.Ytailaehpgmpaaaa
open Go.RowKit
set_option linter.unusedVariables false

theorem sown_form {e : TypeId} {w : World} {base n : Nat} {v : Value} {ls : List Lab} (h : SOwn labE e w base v n ls) : ∃ a c, v = .slice a n c ∧ (a = none → c = 0) ∧ n ≤ c ∧ c ≤ maxLen ∧ (∀ x, a = some x → base ≤ x.block ∧ x.off = 0 ∧ x.spot = none) := by
  rcases h.2 with ⟨h', h0⟩ | ⟨g, cap, cur, h', h1, h2, h3, h4, _⟩
  · subst h0
    exact ⟨none, 0, h', fun _ => rfl, Nat.le_refl _, Nat.zero_le _, by simp⟩
  · exact ⟨_, cap, h', by simp, h3, h4, fun x hx => by cases hx; exact ⟨h1, rfl, rfl⟩⟩
theorem str_none (s : ByteArray) : s.toList.isEmpty = decide (s = ⟨#[]⟩) := by
  rw [← str_eq, show ByteArray.toList ⟨#[]⟩ = [] by rw [ByteArray.toList_eq]]
  cases s.toList <;> rfl
theorem elem22 : Try.prog.elem 22 = 52 := by simp [Program.elem, Try.underlying22]
theorem sz52 (w : World) : (sizeOf 52).run Try.prog w = .ok 2 w := by
  obtain ⟨i0, hi, _, hz1, _⟩ := info_parts info52
  simp [sizeOf, typeInfo, hi, hz1]
theorem lhead (a : Option Addr) (ls : List Lab) (n c k : Nat) (hl : ls.length = n) (hk : k ≤ n) (hc : n ≤ c) (hn : a = none → c = 0) (ho : ∀ x, a = some x → x.spot = none) :
    ∃ v, (∀ w, (Instr.slice 22 (.slice a n c) none (some (.int .i64 (k : Int))) none).run Try.prog w = .ok (.slice v k c) w) ∧ (∀ w, SRd labE w a ls → SRd labE w v (ls.take k)) ∧ (v = none → c = 0) := by
  refine ⟨if c = 0 then a else a.map (·.add (0 * 2)), fun w => ?_, fun w h => ?_, fun h => ?_⟩
  · rw [run_slice_h w 22 a n c (by rw [elem22]; exact Try.underlying22) .i64 (k : Int) (by omega) (by omega), elem22, sz52]
    simp [Result.andThen, sliced]
  · by_cases h0 : c = 0
    · obtain rfl : k = 0 := by omega
      simp only [List.take_zero]
      exact SRd.nil _ _
    · rw [if_neg h0]
      rcases h with rfl | ⟨b, off, e, h⟩
      · simp only [List.take_nil]; exact SRd.nil _ _
      · refine .inr ⟨b, off, by rw [e]; rfl, fun j v hj => h j v ?_⟩
        rw [labE.flat_take, List.getElem?_take] at hj
        split at hj
        · exact hj
        · simp at hj
  · split at h
    · assumption
    · cases a with
      | none => exact hn rfl
      | some x => simp at h
theorem ltail (a : Option Addr) (ls : List Lab) (n c k : Nat) (hl : ls.length = n) (hk : k ≤ n) (hc : n ≤ c) (hn : a = none → c = 0) :
    ∃ v, (∀ w, (Instr.slice 22 (.slice a n c) (some (.int .i64 (k : Int))) none none).run Try.prog w = .ok (.slice v (n - k) (c - k)) w) ∧ (∀ w, SRd labE w a ls → SRd labE w v (ls.drop k)) ∧ (v = none → c - k = 0) := by
  refine ⟨if c = k then a else a.map (·.add (k * 2)), fun w => ?_, fun w h => ?_, fun h => ?_⟩
  · rw [run_slice_l w 22 a n c (by rw [elem22]; exact Try.underlying22) .i64 (k : Int) (by omega) (by omega), elem22, sz52]
    simp [Result.andThen, sliced]
  · by_cases h0 : c = k
    · rw [List.drop_eq_nil_of_le (by omega)]
      exact SRd.nil _ _
    · rw [if_neg h0]
      rcases h with rfl | ⟨b, off, e, h⟩
      · simp only [List.drop_nil]; exact SRd.nil _ _
      · refine .inr ⟨b, off + k * 2, ?_, fun j v hj => ?_⟩
        · rw [e]
          by_cases h1 : k = 0
          · subst h1; rfl
          · have : ¬ k * 2 = 0 := by omega
            simp [Addr.add, this]
        · rw [Nat.add_assoc]
          refine h _ v ?_
          have e1 : labE.flat ls = labE.flat (ls.take k) ++ labE.flat (ls.drop k) := by rw [← labE.flat_app, List.take_append_drop]
          have e2 : (labE.flat (ls.take k)).length = k * 2 := by
            rw [labE.flat_len, List.length_take]
            show min k ls.length * 2 = k * 2
            rw [Nat.min_eq_left (by omega)]
          rw [e1, List.getElem?_append_right (by omega), e2, show k * 2 + j - k * 2 = j by omega]
          exact hj
  · split at h
    · omega
    · cases a with
      | none => have := hn rfl; omega
      | some x => simp at h

def leB (a n : ByteArray) : Bool := Op.bytesLess a.toList n.toList || a.toList == n.toList
def withR (ls : List Lab) (name value : ByteArray) : List Lab :=
  if value = ⟨#[]⟩ then someR ls [name] false
  else (someR ls [name] false).takeWhile (fun p => leB p.1 name) ++ [(name, value)] ++ (someR ls [name] false).dropWhile (fun p => leB p.1 name)
def WhileAt (rest : List Lab) (name : ByteArray) (k : Nat) : Prop := rest.takeWhile (fun p => leB p.1 name) = rest.take k ++ (rest.drop k).takeWhile (fun p => leB p.1 name) ∧ rest.dropWhile (fun p => leB p.1 name) = (rest.drop k).dropWhile (fun p => leB p.1 name)
theorem WhileAt.next {rest : List Lab} {name : ByteArray} {k : Nat} {p : Lab} (h : WhileAt rest name k) (hp : rest[k]? = some p) (hb : leB p.1 name = true) : WhileAt rest name (k + 1) := by
  obtain ⟨h1, h2⟩ := List.getElem?_eq_some_iff.1 hp
  unfold WhileAt at h ⊢
  rw [List.drop_eq_getElem_cons h1, h2, List.takeWhile_cons, List.dropWhile_cons, if_pos hb, if_pos hb] at h
  refine ⟨?_, h.2⟩
  rw [h.1, List.take_add_one, hp]
  simp
theorem WhileAt.stop {rest : List Lab} {name : ByteArray} {k : Nat} (h : WhileAt rest name k) (hs : rest.length ≤ k ∨ ∃ p, rest[k]? = some p ∧ leB p.1 name = false) : rest.takeWhile (fun p => leB p.1 name) = rest.take k ∧ rest.dropWhile (fun p => leB p.1 name) = rest.drop k := by
  unfold WhileAt at h
  rcases hs with hs | ⟨p, hp, hb⟩
  · rw [List.drop_eq_nil_of_le hs] at h ⊢
    simpa using h
  · obtain ⟨h1, h2⟩ := List.getElem?_eq_some_iff.1 hp
    rw [List.drop_eq_getElem_cons h1, h2, List.takeWhile_cons, List.dropWhile_cons, if_neg (by simp [hb]), if_neg (by simp [hb])] at h
    rw [List.drop_eq_getElem_cons h1, h2]
    simpa using h

set_option maxHeartbeats 2000000 in
theorem r_with (a : Option Addr) (ls : List Lab) (L c : Nat) (name value : ByteArray) (w : World) (hx : SRd labE w a ls) (hL : ls.length = L) (hz : L ≤ 4398046510990) :
    Calls Try.prog 35 #[.slice a L c, .string name, .string value] w fun e w' => ∃ v n, e = .returned v ∧ SOwn labE 52 w' w.heap.size v n (withR ls name value) ∧ w.grownBy w' none := by
  have HS := r_some a (some ⟨w.heap.size, 0, none⟩) ls [name] L 1 c 1 false (w.alloc (.cells (strE.flat [name]).toArray 9)) (hx.grown (World.grownBy_alloc w _ none) (by simp)) (tlit w [name]) hL rfl (by omega) (by omega)
  have HRL0 : Hid ((someR ls [name] false).length ≤ L) := by show _ ≤ _; rw [← hL]; exact someR_len _ _ _
  unfold withR
  generalize someR ls [name] false = rest at HS HRL0 ⊢
  have HSS : Hid (Calls Try.prog 36 #[.slice a L c, .slice (some ⟨w.heap.size, 0, none⟩) 1 1, .bool false] (w.alloc (.cells #[.string name] 9)) fun e w' => ∃ v n, e = .returned v ∧ SOwn labE 52 w' (w.alloc (.cells #[.string name] 9)).heap.size v n rest ∧ (w.alloc (.cells #[.string name] 9)).grownBy w' none) := HS
  clear hx hL HS
  by_cases hv : value = ⟨#[]⟩
  · rw [if_pos hv]
    have q : value.toList.isEmpty = true := by rw [str_none]; simpa using hv
    clear hv
    go_enter Try.func35, Try.ntmps35
    go_wp2_with fail
    refine HSS.out.mono ?_
    rintro e w1 ⟨v1, n1, rfl, ho1, hg1⟩
    have HO1 : Hid (SOwn labE 52 w1 w.heap.size v1 n1 rest) := ho1.base (World.grownBy_alloc w _ none).size
    have HG1 : Hid (w.grownBy w1 none) := (World.grownBy_alloc w _ none).trans hg1
    clear ho1 hg1
    go_wp2
    go_ret
    exact ⟨v1, n1, rfl, HO1.out, HG1.out⟩
  · rw [if_neg hv]
    obtain ⟨R, eR⟩ : ∃ R, R = rest.takeWhile (fun p => leB p.1 name) ++ [(name, value)] ++ rest.dropWhile (fun p => leB p.1 name) := ⟨_, rfl⟩
    rw [← eR]
    have HER : Hid (R = rest.takeWhile (fun p => leB p.1 name) ++ [(name, value)] ++ rest.dropWhile (fun p => leB p.1 name)) := eR
    clear eR
    have q : value.toList.isEmpty = false := by rw [str_none]; simpa using hv
    clear hv
    go_enter Try.func35, Try.ntmps35
    go_wp2_with fail
    refine HSS.out.mono ?_
    rintro e w1 ⟨v1, n, rfl, ho1, hg1⟩
    have HO1 : Hid (SOwn labE 52 w1 w.heap.size v1 n rest) := ho1.base (World.grownBy_alloc w _ none).size
    have HG1 : Hid (w.grownBy w1 none) := (World.grownBy_alloc w _ none).trans hg1
    obtain ⟨ra, rc, rfl, hrn, hnc, hcm, hro⟩ := sown_form ho1
    have HRL : Hid (rest.length = n) := ho1.len
    have hnL : n ≤ L := by have := HRL0.out; have := HRL.out; omega
    have HRd : Hid (SRd labE w1 ra rest) := ho1.rd
    have HRn : Hid (ra = none → rc = 0) := hrn
    have HRo : Hid (∀ x, ra = some x → w.heap.size ≤ x.block ∧ x.spot = none) := fun x hx => ⟨Nat.le_trans (World.grownBy_alloc w _ none).size (hro x hx).1, (hro x hx).2.2⟩
    have hcm' : (rc : Int) ≤ 9223372036854775807 := by unfold maxLen at hcm; omega
    clear ho1 hg1 hrn hro HSS hcm
    go_wp2
    go_loop [8] (fun i => ∃ k : Nat, k ≤ n ∧ i = .int .i64 k ∧ WhileAt rest name k) (fun i => n - (intOf i).toNat)
    case atStart => exact ⟨0, Nat.zero_le _, rfl, by simp [WhileAt]⟩
    case round =>
      obtain ⟨k, hk, rfl, hw⟩ := hrel
      have HW : Hid (WhileAt rest name k) := hw
      clear hw
      have HRw : Hid (∀ w', w.grownBy w' none → w1.grownBy w' none → SRd labE w' ra rest) := fun w' _ h => HRd.out.grown h (by simp)
      by_cases hgo : k < n ∧ ∃ p, rest[k]? = some p ∧ leB p.1 name = true
      · obtain ⟨hlt, ⟨s1, s2⟩, ex, hb⟩ := hgo
        obtain ⟨b, off, rfl, hc⟩ := HRd.out.at (by have := HRL.out; omega)
        have a0 : w1.cell? ⟨b, off + k * 2, none⟩ = some (.string s1) := hc k _ 0 _ ex rfl
        have hb' : (Op.bytesLess s1.toList name.toList || s1.toList == name.toList) = true := hb
        have HN : Hid (WhileAt rest name (k + 1)) := HW.out.next ex hb
        have hi : (k : Int) < (n : Int) := by omega
        clear hc ex hb
        go_wp2
        go_round
        case rel => exact ⟨k + 1, by omega, by go_num, HN.out⟩
        case measure => simp [intOf]; omega
      · have HD : Hid (_ ∧ _) := HW.out.stop (by
          by_cases h : k < n
          · right
            obtain ⟨p, hp⟩ : ∃ p, rest[k]? = some p := ⟨_, List.getElem?_eq_getElem (by have := HRL.out; omega)⟩
            refine ⟨p, hp, ?_⟩
            cases hb : leB p.1 name with
            | false => rfl
            | true => exact absurd ⟨h, p, hp, hb⟩ hgo
          · left; have := HRL.out; omega)
        have HD2 : Hid (R = rest.take k ++ [(name, value)] ++ rest.drop k) := by show _ = _; rw [HER.out, HD.out.1, HD.out.2]
        have hcut : (k < n ∧ ∃ s1 : ByteArray, (∃ b off, ra = some ⟨b, off, none⟩ ∧ w1.cell? ⟨b, off + k * 2, none⟩ = some (.string s1)) ∧ leB s1 name = false) ∨ ¬ k < n := by
          by_cases h : k < n
          · left
            obtain ⟨⟨s1, s2⟩, hp⟩ : ∃ p, rest[k]? = some p := ⟨_, List.getElem?_eq_getElem (by have := HRL.out; omega)⟩
            obtain ⟨b, off, e, hc⟩ := HRd.out.at (by have := HRL.out; omega)
            refine ⟨h, s1, ⟨b, off, e, hc k _ 0 _ hp rfl⟩, ?_⟩
            cases hb : leB s1 name with
            | false => rfl
            | true => exact absurd ⟨h, (s1, s2), hp, hb⟩ hgo
          · exact .inr h
        obtain ⟨v1, hs1, hr1, hv1⟩ := lhead ra rest n rc k HRL.out hk hnc HRn.out (fun x hx => (HRo.out x hx).2)
        obtain ⟨v2, hs2, hr2, hv2⟩ := ltail ra rest n rc k HRL.out hk hnc HRn.out
        have HH : Hid (∀ w, SRd labE w ra rest → SRd labE w v1 (rest.take k)) := hr1
        have HT : Hid (∀ w, SRd labE w ra rest → SRd labE w v2 (rest.drop k)) := hr2
        have HHn : Hid (v1 = none → rc = 0) := hv1
        have HTn : Hid (v2 = none → rc - k = 0) := hv2
        have HKL : Hid ((rest.take k).length = k) := by show _ = _; rw [List.length_take]; have := HRL.out; omega
        clear hr1 hr2 hv1 hv2 hgo HD HW HER
        rcases hcut with ⟨hlt, s1, ⟨b, off, rfl, a0⟩, hb⟩ | hlt
        · have hb' : (Op.bytesLess s1.toList name.toList || s1.toList == name.toList) = false := hb
          clear hb
          go_wp2_with (at_builtin; refine wpList_append_s labT rfl (.tmp 32) (.tmp 35) rfl w1.heap.size (.slice (some ⟨w1.heap.size, 0, none⟩) 0 0) 0 [] rfl (SOwn.empty labE 52 w1) v1 (rest.take k) k rc rfl HKL.out (HH.out _ (HRd.out.grown (World.grownBy_alloc w1 _ none) (by simp))) HHn.out (by omega) (by unfold maxLen; omega) (World.grownBy_alloc w1 _ none).size ?_; intro vo w3 ho3 hg3 hn3)
          have HO3 : Hid (SOwn labE 52 w3 w1.heap.size vo k (rest.take k)) := by
            show SOwn _ _ _ _ _ _ _
            rw [List.nil_append, Nat.zero_add] at ho3
            exact ho3
          have HG3 : Hid (w1.grownBy w3 none) := gb_trans (World.grownBy_alloc w1 _ none) hg3 (fun j hj => .inl (by simp [Value.ownBlock] at hj; omega))
          clear ho3 hg3 hn3
          refine wp_region_held_drew (S := fun _ => True) (by kernel_rfl) trivial (fun _ => ?_)
          refine draw_take 0 (v := ?_) rfl (by kernel_rfl) (by kernel_rfl) (by kernel_rfl) (fun _ _ _ h => h) (by rfl) ?_ ?_
          rotate_left
          · intro w; go_simp; try with_reducible rfl
          try simp only [Act.put, List.setIfInBounds_toArray, List.set_cons_zero, List.set_cons_succ]
          refine draw_take 1 (v := ?_) rfl (by kernel_rfl) (by kernel_rfl) (by kernel_rfl) (fun _ _ _ h => h) (by rfl) ?_ ?_
          rotate_left
          · intro w; go_simp; try with_reducible rfl
          try simp only [Act.put, List.setIfInBounds_toArray, List.set_cons_zero, List.set_cons_succ]
          refine draw_take 2 (v := ?_) rfl (by kernel_rfl) (by kernel_rfl) (by kernel_rfl) (fun _ _ _ h => h) (by rfl) ?_ ?_
          rotate_left
          · intro w; go_simp; try with_reducible rfl
          try simp only [Act.put, List.setIfInBounds_toArray, List.set_cons_zero, List.set_cons_succ]
          refine draw_take 3 (v := ?_) rfl (by kernel_rfl) (by kernel_rfl) (by kernel_rfl) (fun _ _ _ h => h) (by rfl) ?_ ?_
          rotate_left
          · intro w; go_simp; try with_reducible rfl
          try simp only [Act.put, List.setIfInBounds_toArray, List.set_cons_zero, List.set_cons_succ]
          refine draw_take 6 (v := ?_) rfl (by kernel_rfl) (by kernel_rfl) (by kernel_rfl) (fun _ _ _ h => h) (by rfl) ?_ ?_
          rotate_left
          · intro w; go_simp; try with_reducible rfl
          try simp only [Act.put, List.setIfInBounds_toArray, List.set_cons_zero, List.set_cons_succ]
          refine draw_take 7 (v := ?_) rfl (by kernel_rfl) (by kernel_rfl) (by kernel_rfl) (fun _ _ _ h => h) (by rfl) ?_ ?_
          rotate_left
          · intro w; go_simp; try with_reducible rfl
          try simp only [Act.put, List.setIfInBounds_toArray, List.set_cons_zero, List.set_cons_succ]
          refine draw_take 8 (v := ?_) rfl (by kernel_rfl) (by kernel_rfl) (by kernel_rfl) (fun _ _ _ h => h) (by rfl) ?_ ?_
          rotate_left
          · intro w; go_simp; try with_reducible rfl
          try simp only [Act.put, List.setIfInBounds_toArray, List.set_cons_zero, List.set_cons_succ]
          refine draw_one 4 rfl (by kernel_rfl) (by rfl) (fun K hK => ?_)
          go_simp
          refine hK.out _ _ ?_
          clear hK K
          try simp only [Act.put, List.setIfInBounds_toArray, List.set_cons_zero, List.set_cons_succ]
          refine draw_one 5 rfl (by kernel_rfl) (by rfl) (fun K hK => ?_)
          refine wp_append_s labT (.tmp 37) (.tmp 41) rfl w1.heap.size vo k (rest.take k) rfl (SOwn.kept HO3.out ((gb_drew (World.grownBy.refl w3 none)).trans (World.grownBy_alloc w3.drew _ none)) (Classical.em _)) (some ⟨w3.heap.size, 0, none⟩) [(name, value)] 1 1 rfl rfl (llit w3.drew [(name, value)]) (by simp) (by omega) (by unfold maxLen; omega) (Nat.le_trans HG3.out.size ((gb_drew (World.grownBy.refl w3 none)).trans (World.grownBy_alloc w3.drew _ none)).size) ?_
          intro v5 w5 ho5 hg5 hn5
          refine hK.out _ _ ?_
          clear hK K
          try simp only [Act.put, List.setIfInBounds_toArray, List.set_cons_zero, List.set_cons_succ]
          refine draw_one 9 rfl (by kernel_rfl) (by rfl) (fun K hK => ?_)
          have HG5 : Hid (w1.grownBy w5 none) := gb_trans (HG3.out.trans ((gb_drew (World.grownBy.refl w3 none)).trans (World.grownBy_alloc w3.drew _ none))) hg5 (fun j hj => .inl (SOwn.block HO3.out j hj).1)
          have HO5 : Hid (SOwn labE 52 w5 w1.heap.size v5 (k + 1) (rest.take k ++ [(name, value)])) := ho5
          clear ho5 hg5
          refine wp_append_s labT (.tmp 42) (.tmp 45) rfl w1.heap.size v5 (k + 1) _ rfl HO5.out v2 (rest.drop k) (n - k) (rc - k) rfl (by rw [List.length_drop]; have := HRL.out; omega) (HT.out w5 (HRd.out.grown HG5.out (by simp))) HTn.out (by omega) (by unfold maxLen; omega) HG5.out.size ?_
          intro v6 w6 ho6 hg6 hn6
          refine hK.out _ _ ?_
          clear hK K
          try simp only [Act.put, List.setIfInBounds_toArray, List.set_cons_zero, List.set_cons_succ]
          refine draw_take 10 (v := ?_) rfl (by kernel_rfl) (by kernel_rfl) (by kernel_rfl) (fun _ _ _ h => h) (by rfl) ?_ ?_
          rotate_left
          · intro w; go_simp; try with_reducible rfl
          try simp only [Act.put, List.setIfInBounds_toArray, List.set_cons_zero, List.set_cons_succ]
          refine wpAnyH_done (by kernel_rfl) ?_ _
          go_wp2
          go_ret
          refine ⟨v6, k + 1 + (n - k), rfl, ?_, HG1.out.trans (gb_trans HG5.out hg6 (fun j hj => .inl (SOwn.block HO5.out j hj).1))⟩
          rw [HD2.out]
          exact ho6.base HG1.out.size
        · have hlt' : ¬ (k : Int) < (n : Int) := by omega
          go_wp2_with (at_builtin; refine wpList_append_s labT rfl (.tmp 32) (.tmp 35) rfl w1.heap.size (.slice (some ⟨w1.heap.size, 0, none⟩) 0 0) 0 [] rfl (SOwn.empty labE 52 w1) v1 (rest.take k) k rc rfl HKL.out (HH.out _ (HRd.out.grown (World.grownBy_alloc w1 _ none) (by simp))) HHn.out (by omega) (by unfold maxLen; omega) (World.grownBy_alloc w1 _ none).size ?_; intro vo w3 ho3 hg3 hn3)
          have HO3 : Hid (SOwn labE 52 w3 w1.heap.size vo k (rest.take k)) := by
            show SOwn _ _ _ _ _ _ _
            rw [List.nil_append, Nat.zero_add] at ho3
            exact ho3
          have HG3 : Hid (w1.grownBy w3 none) := gb_trans (World.grownBy_alloc w1 _ none) hg3 (fun j hj => .inl (by simp [Value.ownBlock] at hj; omega))
          clear ho3 hg3 hn3
          refine wp_region_held_drew (S := fun _ => True) (by kernel_rfl) trivial (fun _ => ?_)
          refine draw_take 0 (v := ?_) rfl (by kernel_rfl) (by kernel_rfl) (by kernel_rfl) (fun _ _ _ h => h) (by rfl) ?_ ?_
          rotate_left
          · intro w; go_simp; try with_reducible rfl
          try simp only [Act.put, List.setIfInBounds_toArray, List.set_cons_zero, List.set_cons_succ]
          refine draw_take 1 (v := ?_) rfl (by kernel_rfl) (by kernel_rfl) (by kernel_rfl) (fun _ _ _ h => h) (by rfl) ?_ ?_
          rotate_left
          · intro w; go_simp; try with_reducible rfl
          try simp only [Act.put, List.setIfInBounds_toArray, List.set_cons_zero, List.set_cons_succ]
          refine draw_take 2 (v := ?_) rfl (by kernel_rfl) (by kernel_rfl) (by kernel_rfl) (fun _ _ _ h => h) (by rfl) ?_ ?_
          rotate_left
          · intro w; go_simp; try with_reducible rfl
          try simp only [Act.put, List.setIfInBounds_toArray, List.set_cons_zero, List.set_cons_succ]
          refine draw_take 3 (v := ?_) rfl (by kernel_rfl) (by kernel_rfl) (by kernel_rfl) (fun _ _ _ h => h) (by rfl) ?_ ?_
          rotate_left
          · intro w; go_simp; try with_reducible rfl
          try simp only [Act.put, List.setIfInBounds_toArray, List.set_cons_zero, List.set_cons_succ]
          refine draw_take 6 (v := ?_) rfl (by kernel_rfl) (by kernel_rfl) (by kernel_rfl) (fun _ _ _ h => h) (by rfl) ?_ ?_
          rotate_left
          · intro w; go_simp; try with_reducible rfl
          try simp only [Act.put, List.setIfInBounds_toArray, List.set_cons_zero, List.set_cons_succ]
          refine draw_take 7 (v := ?_) rfl (by kernel_rfl) (by kernel_rfl) (by kernel_rfl) (fun _ _ _ h => h) (by rfl) ?_ ?_
          rotate_left
          · intro w; go_simp; try with_reducible rfl
          try simp only [Act.put, List.setIfInBounds_toArray, List.set_cons_zero, List.set_cons_succ]
          refine draw_take 8 (v := ?_) rfl (by kernel_rfl) (by kernel_rfl) (by kernel_rfl) (fun _ _ _ h => h) (by rfl) ?_ ?_
          rotate_left
          · intro w; go_simp; try with_reducible rfl
          try simp only [Act.put, List.setIfInBounds_toArray, List.set_cons_zero, List.set_cons_succ]
          refine draw_one 4 rfl (by kernel_rfl) (by rfl) (fun K hK => ?_)
          go_simp
          refine hK.out _ _ ?_
          clear hK K
          try simp only [Act.put, List.setIfInBounds_toArray, List.set_cons_zero, List.set_cons_succ]
          refine draw_one 5 rfl (by kernel_rfl) (by rfl) (fun K hK => ?_)
          refine wp_append_s labT (.tmp 37) (.tmp 41) rfl w1.heap.size vo k (rest.take k) rfl (SOwn.kept HO3.out ((gb_drew (World.grownBy.refl w3 none)).trans (World.grownBy_alloc w3.drew _ none)) (Classical.em _)) (some ⟨w3.heap.size, 0, none⟩) [(name, value)] 1 1 rfl rfl (llit w3.drew [(name, value)]) (by simp) (by omega) (by unfold maxLen; omega) (Nat.le_trans HG3.out.size ((gb_drew (World.grownBy.refl w3 none)).trans (World.grownBy_alloc w3.drew _ none)).size) ?_
          intro v5 w5 ho5 hg5 hn5
          refine hK.out _ _ ?_
          clear hK K
          try simp only [Act.put, List.setIfInBounds_toArray, List.set_cons_zero, List.set_cons_succ]
          refine draw_one 9 rfl (by kernel_rfl) (by rfl) (fun K hK => ?_)
          have HG5 : Hid (w1.grownBy w5 none) := gb_trans (HG3.out.trans ((gb_drew (World.grownBy.refl w3 none)).trans (World.grownBy_alloc w3.drew _ none))) hg5 (fun j hj => .inl (SOwn.block HO3.out j hj).1)
          have HO5 : Hid (SOwn labE 52 w5 w1.heap.size v5 (k + 1) (rest.take k ++ [(name, value)])) := ho5
          clear ho5 hg5
          refine wp_append_s labT (.tmp 42) (.tmp 45) rfl w1.heap.size v5 (k + 1) _ rfl HO5.out v2 (rest.drop k) (n - k) (rc - k) rfl (by rw [List.length_drop]; have := HRL.out; omega) (HT.out w5 (HRd.out.grown HG5.out (by simp))) HTn.out (by omega) (by unfold maxLen; omega) HG5.out.size ?_
          intro v6 w6 ho6 hg6 hn6
          refine hK.out _ _ ?_
          clear hK K
          try simp only [Act.put, List.setIfInBounds_toArray, List.set_cons_zero, List.set_cons_succ]
          refine draw_take 10 (v := ?_) rfl (by kernel_rfl) (by kernel_rfl) (by kernel_rfl) (fun _ _ _ h => h) (by rfl) ?_ ?_
          rotate_left
          · intro w; go_simp; try with_reducible rfl
          try simp only [Act.put, List.setIfInBounds_toArray, List.set_cons_zero, List.set_cons_succ]
          refine wpAnyH_done (by kernel_rfl) ?_ _
          go_wp2
          go_ret
          refine ⟨v6, k + 1 + (n - k), rfl, ?_, HG1.out.trans (gb_trans HG5.out hg6 (fun j hj => .inl (SOwn.block HO5.out j hj).1))⟩
          rw [HD2.out]
          exact ho6.base HG1.out.size
end Go.Proofs.Ytailaehpgmpaaaa
