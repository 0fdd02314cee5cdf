/- Several texts in one: Rlab, Rsome, Draw, Rwith, Eget, Esome. -/
import Derived.Test.YtecnocdffhmkaaaDoorMa
import Derived.Deep.RegionHeld3
/- The document's own calls of layer 3: order, Compare, Get, in, Some. -/
namespace Go.Proofs.YtecnocdffhmkaaaDoor
set_option maxRecDepth 20000
open Go.RowKit
set_option linter.unusedVariables false

def bless (a b : ByteArray) : Bool := Op.bytesLess a.toList b.toList
def ordR (a b : ByteArray) : Int := if bless a b then -1 else if a = b then 0 else 1
theorem ordR_bd (a b : ByteArray) : -1 ≤ ordR a b ∧ ordR a b ≤ 1 := by unfold ordR; split <;> (try split) <;> omega
def cmpR : List Lab → List Lab → Int
  | [], [] => 0
  | [], _ :: _ => -1
  | _ :: _, [] => 1
  | x :: xs, y :: ys => if ordR x.1 y.1 ≠ 0 then ordR x.1 y.1 else if ordR x.2 y.2 ≠ 0 then ordR x.2 y.2 else cmpR xs ys
def CmpAt (xs ys : List Lab) (k : Nat) (R : Int) : Prop := cmpR (xs.drop k) (ys.drop k) = R
theorem CmpAt.next {xs ys : List Lab} {k : Nat} {R : Int} {x y : Lab} (h : CmpAt xs ys k R) (hx : xs[k]? = some x) (hy : ys[k]? = some y) : (if ordR x.1 y.1 ≠ 0 then ordR x.1 y.1 else if ordR x.2 y.2 ≠ 0 then ordR x.2 y.2 else cmpR (xs.drop (k + 1)) (ys.drop (k + 1))) = R := by
  unfold CmpAt at h
  obtain ⟨hx1, hx2⟩ := List.getElem?_eq_some_iff.1 hx
  obtain ⟨hy1, hy2⟩ := List.getElem?_eq_some_iff.1 hy
  rw [List.drop_eq_getElem_cons hx1, List.drop_eq_getElem_cons hy1, hx2, hy2, cmpR] at h
  exact h
theorem CmpAt.done {xs ys : List Lab} {k : Nat} {R : Int} (h : CmpAt xs ys k R) (hk : k ≤ xs.length) (hk2 : k ≤ ys.length) (he : ¬ (k < xs.length ∧ k < ys.length)) : (if xs.length < ys.length then -1 else if ys.length < xs.length then 1 else 0) = R := by
  unfold CmpAt at h
  rw [← h]
  by_cases h1 : k < xs.length
  · have h2 : ys.drop k = [] := List.drop_eq_nil_of_le (by omega)
    rw [List.drop_eq_getElem_cons h1, h2, cmpR, if_neg (by omega), if_pos (by omega)]
  · have h2 : xs.drop k = [] := List.drop_eq_nil_of_le (by omega)
    by_cases h3 : k < ys.length
    · rw [List.drop_eq_getElem_cons h3, h2, cmpR, if_pos (by omega)]
    · have h4 : ys.drop k = [] := List.drop_eq_nil_of_le (by omega)
      rw [h2, h4, cmpR, if_neg (by omega), if_neg (by omega)]

theorem gbW {w wr : World} (h : ∃ m, wr = w.drewN m) (n : Nat) : w.grownBy (wr.drewN n) none := by
  obtain ⟨m, rfl⟩ := h
  exact (gb_drewN w m).trans (gb_drewN _ n)

end Go.Proofs.YtecnocdffhmkaaaDoor

/- The document's own calls of layer 3: Get, in, Some, With. -/
namespace Go.Proofs.YtecnocdffhmkaaaDoor
set_option maxRecDepth 20000
open Go.RowKit
set_option linter.unusedVariables false

theorem ret_str {a b : ByteArray} (h : a = b) : Ending.returned (.string a) = .returned (.string b) := by rw [h]
def getR : List Lab → ByteArray → ByteArray
  | [], _ => ⟨#[]⟩
  | p :: r, n => if p.1 = n then p.2 else getR r n
def GetAt (ls : List Lab) (n : ByteArray) (k : Nat) (R : ByteArray) : Prop := getR (ls.drop k) n = R
theorem GetAt.next {ls : List Lab} {n R : ByteArray} {k : Nat} {p : Lab} (h : GetAt ls n k R) (hp : ls[k]? = some p) : (if p.1 = n then p.2 else getR (ls.drop (k + 1)) n) = R := by
  unfold GetAt at h
  obtain ⟨h1, h2⟩ := List.getElem?_eq_some_iff.1 hp
  rw [List.drop_eq_getElem_cons h1, h2, getR] at h
  exact h

theorem r_get (a : Option Addr) (ls : List Lab) (L c : Nat) (n R : ByteArray) (w : World) (hx : SRd labE w a ls) (hL : ls.length = L) (hz : L ≤ 4398046511104) (hR : getR ls n = R) :
    Calls Tryd.prog 27 #[.slice a L c, .string n] w fun e w' => e = .returned (.string R) ∧ w = w' := by
  have HX : Hid (SRd labE w a ls) := hx
  have HL : Hid (ls.length = L) := hL
  have H0 : Hid (GetAt ls n 0 R) := hR
  clear hx hL hR
  go_enter Tryd.func27, Tryd.ntmps27
  go_wp2
  go_loop [5] (fun i => ∃ k : Nat, k ≤ L ∧ i = .int .i64 k ∧ GetAt ls n k R) (fun i => L - (intOf i).toNat)
  case atStart => exact ⟨0, Nat.zero_le _, rfl, H0.out⟩
  case round =>
    obtain ⟨k, hk, rfl, hg⟩ := hrel
    have HG : Hid (GetAt ls n k R) := hg
    clear hg H0
    by_cases hlt : k < L
    · have hl := HL.out
      obtain ⟨b, off, rfl, hc⟩ := HX.out.at (by omega)
      obtain ⟨⟨s1, s2⟩, ex⟩ : ∃ x, ls[k]? = some x := ⟨_, List.getElem?_eq_getElem (by omega)⟩
      have a0 : w.cell? ⟨b, off + k * 2, none⟩ = some (.string s1) := hc k _ 0 _ ex rfl
      have a1 : w.cell? ⟨b, off + k * 2 + 1, none⟩ = some (.string s2) := by rw [Nat.add_assoc]; exact hc k _ 1 _ ex rfl
      have HN : Hid (_ = R) := HG.out.next ex
      clear hc ex hl
      by_cases h1 : s1 = n
      · have q : (s1.toList == n.toList) = true := by rw [str_eq]; simpa using h1
        have HS : Hid (s2 = R) := by have h := HN.out; rw [if_pos h1] at h; exact h
        clear h1 HN
        go_wp2
        go_ret
        exact ⟨ret_str HS.out, rfl⟩
      · have q : (s1.toList == n.toList) = false := by rw [str_eq]; simpa using h1
        have HS : Hid (GetAt ls n (k + 1) R) := by have h := HN.out; rw [if_neg h1] at h; exact h
        clear h1 HN
        go_wp2
        go_round
        case rel => exact ⟨k + 1, by omega, by go_num, HS.out⟩
        case measure => simp [intOf]; omega
    · have HS : Hid ((⟨#[]⟩ : ByteArray) = R) := by
        have h := HG.out
        unfold GetAt at h
        rw [List.drop_eq_nil_of_le (by have := HL.out; omega), getR] at h
        exact h
      go_wp2
      go_ret
      exact ⟨ret_str HS.out, rfl⟩

def inB (ss : List ByteArray) (s : ByteArray) : Bool := ss.any (fun t => decide (t = s))
def InAt (ss : List ByteArray) (s : ByteArray) (k : Nat) (R : Bool) : Prop := inB (ss.drop k) s = R
theorem r_in (a : Option Addr) (ss : List ByteArray) (L c : Nat) (s : ByteArray) (R : Bool) (w : World) (hx : SRd strE w a ss) (hL : ss.length = L) (hz : L ≤ 8796093022208) (hR : inB ss s = R) :
    Calls Tryd.prog 49 #[.slice a L c, .string s] w fun e w' => e = .returned (.bool R) ∧ w = w' := by
  have HX : Hid (SRd strE w a ss) := hx
  have HL : Hid (ss.length = L) := hL
  have H0 : Hid (InAt ss s 0 R) := hR
  clear hx hL hR
  go_enter Tryd.func49, Tryd.ntmps49
  go_wp2
  go_loop [5] (fun i => ∃ k : Nat, k ≤ L ∧ i = .int .i64 k ∧ InAt ss s k R) (fun i => L - (intOf i).toNat)
  case atStart => exact ⟨0, Nat.zero_le _, rfl, H0.out⟩
  case round =>
    obtain ⟨k, hk, rfl, hg⟩ := hrel
    have HG : Hid (InAt ss s k R) := hg
    clear hg H0
    by_cases hlt : k < L
    · have hl := HL.out
      obtain ⟨b, off, rfl, hc⟩ := HX.out.at (by omega)
      obtain ⟨t, ex⟩ : ∃ x, ss[k]? = some x := ⟨_, List.getElem?_eq_getElem (by omega)⟩
      have a0 : w.cell? ⟨b, off + k, none⟩ = some (.string t) := by have := hc k _ 0 _ ex rfl; rwa [show k * strE.size + 0 = k from Nat.mul_one k] at this
      have HN : Hid ((decide (t = s) || inB (ss.drop (k + 1)) s) = R) := by
        have h := HG.out
        unfold InAt inB at h
        obtain ⟨h1, h2⟩ := List.getElem?_eq_some_iff.1 ex
        rw [List.drop_eq_getElem_cons h1, h2, List.any_cons] at h
        exact h
      clear hc ex hl
      by_cases h1 : t = s
      · have q : (t.toList == s.toList) = true := by rw [str_eq]; simpa using h1
        have HS : Hid (true = R) := by have h := HN.out; show _ = _; rw [← h]; simp [h1]
        clear h1 HN
        go_wp2
        go_ret
        exact ⟨ret_bool HS.out, rfl⟩
      · have q : (t.toList == s.toList) = false := by rw [str_eq]; simpa using h1
        have HS : Hid (InAt ss s (k + 1) R) := by
          have h := HN.out
          show inB _ _ = R
          rw [← h]
          simp [h1]
        clear h1 HN
        go_wp2
        go_round
        case rel => exact ⟨k + 1, by omega, by go_num, HS.out⟩
        case measure => simp [intOf]; omega
    · have HS : Hid (false = R) := by
        have h := HG.out
        unfold InAt at h
        rw [List.drop_eq_nil_of_le (by have := HL.out; omega)] at h
        show _ = _
        rw [← h]; rfl
      go_wp2
      go_ret
      exact ⟨ret_bool HS.out, rfl⟩

def someR (ls : List Lab) (ss : List ByteArray) (keep : Bool) : List Lab := ls.filter (fun p => inB ss p.1 == keep)
theorem someR_next {ls : List Lab} {ss : List ByteArray} {keep : Bool} {k : Nat} {p : Lab} (hp : ls[k]? = some p) : someR (ls.take (k + 1)) ss keep = someR (ls.take k) ss keep ++ (if inB ss p.1 == keep then [p] else []) := by
  unfold someR
  rw [List.take_add_one, hp, List.filter_append]
  simp only [Option.toList_some, List.filter_cons, List.filter_nil]
theorem someR_len (ls : List Lab) (ss : List ByteArray) (keep : Bool) : (someR ls ss keep).length ≤ ls.length := List.length_filter_le _ _

set_option maxHeartbeats 1000000 in
theorem r_some (a b : Option Addr) (ls : List Lab) (ss : List ByteArray) (L M c d : Nat) (keep : Bool) (w : World) (hx : SRd labE w a ls) (hy : SRd strE w b ss) (hL : ls.length = L) (hM : ss.length = M) (hz : L ≤ 4398046511000) (hz2 : M ≤ 8796093022208) :
    Calls Tryd.prog 26 #[.slice a L c, .slice b M d, .bool keep] w fun e w' => ∃ v n, e = .returned v ∧ SOwn labE 63 w' w.heap.size v n (someR ls ss keep) ∧ w.grownBy w' none := by
  have HX : Hid (SRd labE w a ls) := hx
  have HY : Hid (SRd strE w b ss) := hy
  have HL : Hid (ls.length = L) := hL
  have HM : Hid (ss.length = M) := hM
  clear hx hy hL hM
  go_enter Tryd.func26, Tryd.ntmps26
  go_wp2
  go_loopw [7, 8] (fun t7 t8 wr => ∃ k n : Nat, k ≤ L ∧ t8 = .int .i64 k ∧ SOwn labE 63 wr w.heap.size t7 n (someR (ls.take k) ss keep) ∧ w.grownBy wr none) (fun _ t8 _ => L - (intOf t8).toNat)
  case atStart => exact ⟨0, 0, Nat.zero_le _, rfl, by simpa [someR] using SOwn.nil (E := labE) 63 w w.heap.size, World.grownBy.refl _ _⟩
  case round =>
    obtain ⟨k, n, hk, rfl, ho, hg⟩ := hrel
    have HO : Hid (SOwn labE 63 wr w.heap.size u7 n (someR (ls.take k) ss keep)) := ho
    have HG : Hid (w.grownBy wr none) := hg
    have hnl : n ≤ k := by
      have h1 := ho.len
      have h2 := someR_len (ls.take k) ss keep
      rw [List.length_take] at h2
      omega
    clear ho hg
    by_cases hlt : k < L
    · have hl := HL.out
      obtain ⟨b1, off, rfl, hc⟩ := HX.out.at (by omega)
      obtain ⟨⟨s1, s2⟩, ex⟩ : ∃ x, ls[k]? = some x := ⟨_, List.getElem?_eq_getElem (by omega)⟩
      have a0 : wr.cell? ⟨b1, off + k * 2, none⟩ = some (.string s1) := HG.out.cell (hc k _ 0 _ ex rfl) (by simp)
      have a1 : wr.cell? ⟨b1, off + k * 2 + 1, none⟩ = some (.string s2) := by rw [Nat.add_assoc]; exact HG.out.cell (hc k _ 1 _ ex rfl) (by simp)
      have HN : Hid (_ = _) := someR_next (ss := ss) (keep := keep) ex
      have HI := r_in b ss M d s1 _ wr (HY.out.grown HG.out (by simp)) HM.out hz2 rfl
      have HIn : Hid (Calls Tryd.prog 49 #[.slice b M d, .string s1] wr fun e w' => e = .returned (.bool (inB ss s1)) ∧ wr = w') := HI
      clear hc ex hl HI
      generalize inB ss s1 = r at HIn HN
      by_cases h1 : r = keep
      · subst h1
        have HS : Hid (someR (ls.take (k + 1)) ss r = someR (ls.take k) ss r ++ [(s1, s2)]) := by have h := HN.out; rw [if_pos (by simp)] at h; exact h
        have HW : Hid (w.heap.size ≤ wr.heap.size) := HG.out.size
        clear HN
        cases r
        all_goals
          go_wp2_with (first | (go_at_call 49; refine HIn.out.mono ?_; rintro e w1 ⟨rfl, rfl⟩) | (at_builtin; refine wpList_append_s labT rfl (.tmp 24) (.tmp 29) rfl w.heap.size u7 n _ rfl (SOwn.kept HO.out (World.grownBy_alloc wr _ none) (Classical.em _)) (some ⟨wr.heap.size, 0, none⟩) [(s1, s2)] 1 1 rfl rfl (llit wr [(s1, s2)]) (by simp) (by omega) (by unfold maxLen; omega) (Nat.le_trans HW.out (World.grownBy_alloc wr _ none).size) ?_; intro v2 w2 ho2 hg2 hn2))
          go_roundw
          case rel => exact ⟨k + 1, n + 1, by omega, by go_num, by rw [HS.out]; exact ho2, gb_trans (HG.out.trans (World.grownBy_alloc wr _ none)) hg2 (fun j hj => .inl (SOwn.block HO.out j hj).1)⟩
          case measure => simp [intOf]; omega
      · have HS : Hid (someR (ls.take (k + 1)) ss keep = someR (ls.take k) ss keep) := by have h := HN.out; rw [if_neg (by simpa using h1), List.append_nil] at h; exact h
        have q : (r == keep) = false := by simpa using h1
        clear HN
        cases r <;> cases keep
        · exact absurd rfl h1
        rotate_left 2
        · exact absurd rfl h1
        all_goals
          clear h1
          go_wp2_with (go_at_call 49; refine HIn.out.mono ?_; rintro e w1 ⟨rfl, rfl⟩)
          go_roundw
          case rel => exact ⟨k + 1, n, by omega, by go_num, by rw [HS.out]; exact HO.out, HG.out⟩
          case measure => simp [intOf]; omega
    · have HS : Hid (someR (ls.take k) ss keep = someR ls ss keep) := by show _ = _; rw [List.take_of_length_le (by have := HL.out; omega)]
      go_wp2
      go_ret
      exact ⟨u7, n, rfl, by rw [← HS.out]; exact HO.out, HG.out⟩
end Go.Proofs.YtecnocdffhmkaaaDoor

/- A region that draws its order, taken by hand: what is not wanted, what yields, what is called. -/
namespace Go.Proofs.YtecnocdffhmkaaaDoor
set_option linter.unusedVariables false
set_option maxRecDepth 20000
open Go.RowKit

section
variable {P : Program} {ops : Array Oper} {Q : Exit → Act → World → Prop} {md : Region.Mode}

theorem arr_at {l : List Oper} {i : Nat} {o : Oper} (h : l[i]? = some o) : l.toArray[i]? = some o := by simpa using h

/-- Number i is not wanted. -/
theorem draw_skip (i : Nat) {l : List Oper} {oi : Oper} {fuel : Nat} {listed : Array Bool} {a : Act} {w : World} (hi : l[i]? = some oi)
    (hs : Region.noSelect l.toArray = true) (hf : Region.free md l.toArray listed i = true) (hr : (Region.ready md l.toArray listed).contains i = true)
    (hQ : ∀ c a w, Q (.panic c) (a.put oi.dst undef) w → Q (.panic c) a w) (hw : Region.wanted oi (yielded l.toArray a.tmps) = false)
    (h : wpAnyH P md l.toArray Q (fun _ => True) fuel (listed.setIfInBounds i true) (a.put oi.dst undef) w) : wpAnyH P md l.toArray Q (fun _ => True) (fuel + 1) listed a w :=
  wpAnyH_take (arr_at hi) hs hf hr hQ (.inr ⟨hw, rfl⟩) trivial h

/-- Number i yields v. -/
theorem draw_take (i : Nat) {l : List Oper} {oi : Oper} {v : Value} {fuel : Nat} {listed : Array Bool} {a : Act} {w : World} (hi : l[i]? = some oi)
    (hs : Region.noSelect l.toArray = true) (hf : Region.free md l.toArray listed i = true) (hr : (Region.ready md l.toArray listed).contains i = true)
    (hQ : ∀ c a w, Q (.panic c) (a.put oi.dst v) w → Q (.panic c) a w) (hw : Region.wanted oi (yielded l.toArray a.tmps) = true) (hy : ∀ w, (execOp a.eval oi).run P w = .ok (.value v) w)
    (h : wpAnyH P md l.toArray Q (fun _ => True) fuel (listed.setIfInBounds i true) (a.put oi.dst v) w) : wpAnyH P md l.toArray Q (fun _ => True) (fuel + 1) listed a w :=
  wpAnyH_take (arr_at hi) hs hf hr hQ (.inl ⟨hw, fun w _ => hy w⟩) trivial h

/-- Number i alone may come up. -/
theorem draw_one (i : Nat) {l : List Oper} {oi : Oper} {fuel : Nat} {listed : Array Bool} {a : Act} {w : World} (hi : l[i]? = some oi) (hr : Region.ready md l.toArray listed = [i]) (hw : Region.wanted oi (yielded l.toArray a.tmps) = true)
    (h : ∀ K' : Act → World → Prop, Shut (∀ a w, wpAnyH P md l.toArray Q (fun _ => True) fuel (listed.setIfInBounds i true) a w → K' a w) → Oper.wp P oi a w K' Q) : wpAnyH P md l.toArray Q (fun _ => True) (fuel + 1) listed a w :=
  wpAnyH_ready hr (by simp) (.cons (arr_at hi) (fun K hK => by rw [if_pos hw]; exact h K (fun a w hW => hK a w trivial (fun _ => hW))) .nil)
variable {S : World → Prop}
/-- Number i yields v, wherever S holds. -/
theorem draw_takeS (i : Nat) {l : List Oper} {oi : Oper} {v : Value} {fuel : Nat} {listed : Array Bool} {a : Act} {w : World} (hi : l[i]? = some oi)
    (hs : Region.noSelect l.toArray = true) (hf : Region.free md l.toArray listed i = true) (hr : (Region.ready md l.toArray listed).contains i = true)
    (hQ : ∀ c a w, Q (.panic c) (a.put oi.dst v) w → Q (.panic c) a w) (hw : Region.wanted oi (yielded l.toArray a.tmps) = true) (hSw : S w) (hy : ∀ w, S w → (execOp a.eval oi).run P w = .ok (.value v) w)
    (h : wpAnyH P md l.toArray Q S fuel (listed.setIfInBounds i true) (a.put oi.dst v) w) : wpAnyH P md l.toArray Q S (fuel + 1) listed a w :=
  wpAnyH_take (arr_at hi) hs hf hr hQ (.inl ⟨hw, fun w hS => hy w hS⟩) hSw h
/-- Number i alone may come up; S must hold behind it. -/
theorem draw_oneS (i : Nat) {l : List Oper} {oi : Oper} {fuel : Nat} {listed : Array Bool} {a : Act} {w : World} (hi : l[i]? = some oi) (hr : Region.ready md l.toArray listed = [i]) (hw : Region.wanted oi (yielded l.toArray a.tmps) = true)
    (h : ∀ K' : Act → World → Prop, Shut (∀ a w, S w → wpAnyH P md l.toArray Q S fuel (listed.setIfInBounds i true) a w → K' a w) → Oper.wp P oi a w K' Q) : wpAnyH P md l.toArray Q S (fuel + 1) listed a w :=
  wpAnyH_ready hr (by simp) (.cons (arr_at hi) (fun K hK => by rw [if_pos hw]; exact h K (fun a w hS hW => hK a w hS (fun _ => hW))) .nil)
end

section
variable {α : Type} {E : Elem α}
/-- append(out, xs...) at one operation: out is the call's own or none, xs whatever is read. -/
theorem wp_append_s {P : Program} {t e : TypeId} {bytes : Nat} (T : ElemOf E P t e bytes) {w : World} {o : Oper} {a : Act} {K : Act → World → Prop} {Q : Exit → Act → World → Prop} (s x : Operand)
    (ho : o.op = .call { callee := .builtin .append, args := #[s, x], argTypes := #[t, t] }) (base : Nat) (v : Value) (n : Nat) (xs : List α) (hs : a.eval s = v) (hown : SOwn E e w base v n xs)
    (src : Option Addr) (zs : List α) (m cap : Nat) (hx : a.eval x = .slice src m cap) (hm : zs.length = m) (hr : SRd E w src zs) (hnil : src = Option.none → cap = 0) (hlen : (n + m) * bytes ≤ 140737488355328) (hmax : n + m ≤ maxLen) (hb : base ≤ w.heap.size)
    (h : ∀ v' w', SOwn E e w' base v' (n + m) (xs ++ zs) → w.grownBy w' v.ownBlock → (v' = .slice Option.none 0 0 → v = .slice Option.none 0 0 ∧ m = 0) → K (a.put o.dst v') w') : o.wp P a w K Q := by
  obtain ⟨i0, z, hi, hz0, hz1, hz2, hz3⟩ := T.info
  subst hm
  cases src with
  | none =>
    obtain rfl := hnil rfl
    obtain rfl := hr.none
    have hrun := run_append_owned_none (P := P) (w := w) base t o.type e i0 E.size T.under hi v n (E.flat xs) hown
    have hh := h v w (by simpa using hown) (World.grownBy.refl _ _) (fun h => ⟨h, rfl⟩)
    have hx' : a.eval x = .slice Option.none 0 0 := hx
    unfold Oper.wp
    simp [execOp, ho, resolve, invoke, builtin, hs, hx', hrun, Result.andThen]
    exact hh
  | some ad =>
    refine wp_append_own _ s x t ho base e i0 z E.size bytes T.under hi hz0 hz1 hz2 hz3 E.pos _ n (E.flat xs) hs hown ad zs.length cap (E.flat zs) hx (E.flat_len zs) hr.news (E.flat_one zs) hmax hlen hb ?_
    intro v' w' hown' hg hne
    rw [← E.flat_app] at hown'
    exact h v' w' hown' hg (fun h => hne.1 h)
end
end Go.Proofs.YtecnocdffhmkaaaDoor

/- The document's own With. -/
namespace Go.Proofs.YtecnocdffhmkaaaDoor
set_option maxRecDepth 20000
open Go.RowKit
set_option linter.unusedVariables false

theorem sown_form {e : TypeId} {w : World} {base n : Nat} {v : Value} {ls : List Lab} (h : SOwn labE e w base v n ls) : ∃ a c, v = .slice a n c ∧ (a = none → c = 0) ∧ n ≤ c ∧ c ≤ maxLen ∧ (∀ x, a = some x → base ≤ x.block ∧ x.off = 0 ∧ x.spot = none) := by
  rcases h.2 with ⟨h', h0⟩ | ⟨g, cap, cur, h', h1, h2, h3, h4, _⟩
  · subst h0
    exact ⟨none, 0, h', fun _ => rfl, Nat.le_refl _, Nat.zero_le _, by simp⟩
  · exact ⟨_, cap, h', by simp, h3, h4, fun x hx => by cases hx; exact ⟨h1, rfl, rfl⟩⟩
theorem str_none (s : ByteArray) : s.toList.isEmpty = decide (s = ⟨#[]⟩) := by
  rw [← str_eq, show ByteArray.toList ⟨#[]⟩ = [] by rw [ByteArray.toList_eq]]
  cases s.toList <;> rfl
theorem elem22 : Tryd.prog.elem 44 = 63 := by simp [Program.elem, Tryd.underlying44]
theorem sz52 (w : World) : (sizeOf 63).run Tryd.prog w = .ok 2 w := by
  obtain ⟨i0, hi, _, hz1, _⟩ := info_parts info52
  simp [sizeOf, typeInfo, hi, hz1]
theorem lhead (a : Option Addr) (ls : List Lab) (n c k : Nat) (hl : ls.length = n) (hk : k ≤ n) (hc : n ≤ c) (hn : a = none → c = 0) (ho : ∀ x, a = some x → x.spot = none) :
    ∃ v, (∀ w, (Instr.slice 44 (.slice a n c) none (some (.int .i64 (k : Int))) none).run Tryd.prog w = .ok (.slice v k c) w) ∧ (∀ w, SRd labE w a ls → SRd labE w v (ls.take k)) ∧ (v = none → c = 0) := by
  refine ⟨if c = 0 then a else a.map (·.add (0 * 2)), fun w => ?_, fun w h => ?_, fun h => ?_⟩
  · rw [run_slice_h w 44 a n c (by rw [elem22]; exact Tryd.underlying44) .i64 (k : Int) (by omega) (by omega), elem22, sz52]
    simp [Result.andThen, sliced]
  · by_cases h0 : c = 0
    · obtain rfl : k = 0 := by omega
      simp only [List.take_zero]
      exact SRd.nil _ _
    · rw [if_neg h0]
      rcases h with rfl | ⟨b, off, e, h⟩
      · simp only [List.take_nil]; exact SRd.nil _ _
      · refine .inr ⟨b, off, by rw [e]; rfl, fun j v hj => h j v ?_⟩
        rw [labE.flat_take, List.getElem?_take] at hj
        split at hj
        · exact hj
        · simp at hj
  · split at h
    · assumption
    · cases a with
      | none => exact hn rfl
      | some x => simp at h
theorem ltail (a : Option Addr) (ls : List Lab) (n c k : Nat) (hl : ls.length = n) (hk : k ≤ n) (hc : n ≤ c) (hn : a = none → c = 0) :
    ∃ v, (∀ w, (Instr.slice 44 (.slice a n c) (some (.int .i64 (k : Int))) none none).run Tryd.prog w = .ok (.slice v (n - k) (c - k)) w) ∧ (∀ w, SRd labE w a ls → SRd labE w v (ls.drop k)) ∧ (v = none → c - k = 0) := by
  refine ⟨if c = k then a else a.map (·.add (k * 2)), fun w => ?_, fun w h => ?_, fun h => ?_⟩
  · rw [run_slice_l w 44 a n c (by rw [elem22]; exact Tryd.underlying44) .i64 (k : Int) (by omega) (by omega), elem22, sz52]
    simp [Result.andThen, sliced]
  · by_cases h0 : c = k
    · rw [List.drop_eq_nil_of_le (by omega)]
      exact SRd.nil _ _
    · rw [if_neg h0]
      rcases h with rfl | ⟨b, off, e, h⟩
      · simp only [List.drop_nil]; exact SRd.nil _ _
      · refine .inr ⟨b, off + k * 2, ?_, fun j v hj => ?_⟩
        · rw [e]
          by_cases h1 : k = 0
          · subst h1; rfl
          · have : ¬ k * 2 = 0 := by omega
            simp [Addr.add, this]
        · rw [Nat.add_assoc]
          refine h _ v ?_
          have e1 : labE.flat ls = labE.flat (ls.take k) ++ labE.flat (ls.drop k) := by rw [← labE.flat_app, List.take_append_drop]
          have e2 : (labE.flat (ls.take k)).length = k * 2 := by
            rw [labE.flat_len, List.length_take]
            show min k ls.length * 2 = k * 2
            rw [Nat.min_eq_left (by omega)]
          rw [e1, List.getElem?_append_right (by omega), e2, show k * 2 + j - k * 2 = j by omega]
          exact hj
  · split at h
    · omega
    · cases a with
      | none => have := hn rfl; omega
      | some x => simp at h

def leB (a n : ByteArray) : Bool := Op.bytesLess a.toList n.toList || a.toList == n.toList
def withR (ls : List Lab) (name value : ByteArray) : List Lab :=
  if value = ⟨#[]⟩ then someR ls [name] false
  else (someR ls [name] false).takeWhile (fun p => leB p.1 name) ++ [(name, value)] ++ (someR ls [name] false).dropWhile (fun p => leB p.1 name)
def WhileAt (rest : List Lab) (name : ByteArray) (k : Nat) : Prop := rest.takeWhile (fun p => leB p.1 name) = rest.take k ++ (rest.drop k).takeWhile (fun p => leB p.1 name) ∧ rest.dropWhile (fun p => leB p.1 name) = (rest.drop k).dropWhile (fun p => leB p.1 name)
theorem WhileAt.next {rest : List Lab} {name : ByteArray} {k : Nat} {p : Lab} (h : WhileAt rest name k) (hp : rest[k]? = some p) (hb : leB p.1 name = true) : WhileAt rest name (k + 1) := by
  obtain ⟨h1, h2⟩ := List.getElem?_eq_some_iff.1 hp
  unfold WhileAt at h ⊢
  rw [List.drop_eq_getElem_cons h1, h2, List.takeWhile_cons, List.dropWhile_cons, if_pos hb, if_pos hb] at h
  refine ⟨?_, h.2⟩
  rw [h.1, List.take_add_one, hp]
  simp
theorem WhileAt.stop {rest : List Lab} {name : ByteArray} {k : Nat} (h : WhileAt rest name k) (hs : rest.length ≤ k ∨ ∃ p, rest[k]? = some p ∧ leB p.1 name = false) : rest.takeWhile (fun p => leB p.1 name) = rest.take k ∧ rest.dropWhile (fun p => leB p.1 name) = rest.drop k := by
  unfold WhileAt at h
  rcases hs with hs | ⟨p, hp, hb⟩
  · rw [List.drop_eq_nil_of_le hs] at h ⊢
    simpa using h
  · obtain ⟨h1, h2⟩ := List.getElem?_eq_some_iff.1 hp
    rw [List.drop_eq_getElem_cons h1, h2, List.takeWhile_cons, List.dropWhile_cons, if_neg (by simp [hb]), if_neg (by simp [hb])] at h
    rw [List.drop_eq_getElem_cons h1, h2]
    simpa using h

set_option maxHeartbeats 2000000 in
theorem r_with (a : Option Addr) (ls : List Lab) (L c : Nat) (name value : ByteArray) (w : World) (hx : SRd labE w a ls) (hL : ls.length = L) (hz : L ≤ 4398046510990) :
    Calls Tryd.prog 29 #[.slice a L c, .string name, .string value] w fun e w' => ∃ v n, e = .returned v ∧ SOwn labE 63 w' w.heap.size v n (withR ls name value) ∧ w.grownBy w' none := by
  have HS := r_some a (some ⟨w.heap.size, 0, none⟩) ls [name] L 1 c 1 false (w.alloc (.cells (strE.flat [name]).toArray 9)) (hx.grown (World.grownBy_alloc w _ none) (by simp)) (tlit w [name]) hL rfl (by omega) (by omega)
  have HRL0 : Hid ((someR ls [name] false).length ≤ L) := by show _ ≤ _; rw [← hL]; exact someR_len _ _ _
  unfold withR
  generalize someR ls [name] false = rest at HS HRL0 ⊢
  have HSS : Hid (Calls Tryd.prog 26 #[.slice a L c, .slice (some ⟨w.heap.size, 0, none⟩) 1 1, .bool false] (w.alloc (.cells #[.string name] 9)) fun e w' => ∃ v n, e = .returned v ∧ SOwn labE 63 w' (w.alloc (.cells #[.string name] 9)).heap.size v n rest ∧ (w.alloc (.cells #[.string name] 9)).grownBy w' none) := HS
  clear hx hL HS
  by_cases hv : value = ⟨#[]⟩
  · rw [if_pos hv]
    have q : value.toList.isEmpty = true := by rw [str_none]; simpa using hv
    clear hv
    go_enter Tryd.func29, Tryd.ntmps29
    go_wp2_with fail
    refine HSS.out.mono ?_
    rintro e w1 ⟨v1, n1, rfl, ho1, hg1⟩
    have HO1 : Hid (SOwn labE 63 w1 w.heap.size v1 n1 rest) := ho1.base (World.grownBy_alloc w _ none).size
    have HG1 : Hid (w.grownBy w1 none) := (World.grownBy_alloc w _ none).trans hg1
    clear ho1 hg1
    go_wp2
    go_ret
    exact ⟨v1, n1, rfl, HO1.out, HG1.out⟩
  · rw [if_neg hv]
    obtain ⟨R, eR⟩ : ∃ R, R = rest.takeWhile (fun p => leB p.1 name) ++ [(name, value)] ++ rest.dropWhile (fun p => leB p.1 name) := ⟨_, rfl⟩
    rw [← eR]
    have HER : Hid (R = rest.takeWhile (fun p => leB p.1 name) ++ [(name, value)] ++ rest.dropWhile (fun p => leB p.1 name)) := eR
    clear eR
    have q : value.toList.isEmpty = false := by rw [str_none]; simpa using hv
    clear hv
    go_enter Tryd.func29, Tryd.ntmps29
    go_wp2_with fail
    refine HSS.out.mono ?_
    rintro e w1 ⟨v1, n, rfl, ho1, hg1⟩
    have HO1 : Hid (SOwn labE 63 w1 w.heap.size v1 n rest) := ho1.base (World.grownBy_alloc w _ none).size
    have HG1 : Hid (w.grownBy w1 none) := (World.grownBy_alloc w _ none).trans hg1
    obtain ⟨ra, rc, rfl, hrn, hnc, hcm, hro⟩ := sown_form ho1
    have HRL : Hid (rest.length = n) := ho1.len
    have hnL : n ≤ L := by have := HRL0.out; have := HRL.out; omega
    have HRd : Hid (SRd labE w1 ra rest) := ho1.rd
    have HRn : Hid (ra = none → rc = 0) := hrn
    have HRo : Hid (∀ x, ra = some x → w.heap.size ≤ x.block ∧ x.spot = none) := fun x hx => ⟨Nat.le_trans (World.grownBy_alloc w _ none).size (hro x hx).1, (hro x hx).2.2⟩
    have hcm' : (rc : Int) ≤ 9223372036854775807 := by unfold maxLen at hcm; omega
    clear ho1 hg1 hrn hro HSS hcm
    go_wp2
    go_loop [8] (fun i => ∃ k : Nat, k ≤ n ∧ i = .int .i64 k ∧ WhileAt rest name k) (fun i => n - (intOf i).toNat)
    case atStart => exact ⟨0, Nat.zero_le _, rfl, by simp [WhileAt]⟩
    case round =>
      obtain ⟨k, hk, rfl, hw⟩ := hrel
      have HW : Hid (WhileAt rest name k) := hw
      clear hw
      have HRw : Hid (∀ w', w.grownBy w' none → w1.grownBy w' none → SRd labE w' ra rest) := fun w' _ h => HRd.out.grown h (by simp)
      by_cases hgo : k < n ∧ ∃ p, rest[k]? = some p ∧ leB p.1 name = true
      · obtain ⟨hlt, ⟨s1, s2⟩, ex, hb⟩ := hgo
        obtain ⟨b, off, rfl, hc⟩ := HRd.out.at (by have := HRL.out; omega)
        have a0 : w1.cell? ⟨b, off + k * 2, none⟩ = some (.string s1) := hc k _ 0 _ ex rfl
        have hb' : (Op.bytesLess s1.toList name.toList || s1.toList == name.toList) = true := hb
        have HN : Hid (WhileAt rest name (k + 1)) := HW.out.next ex hb
        have hi : (k : Int) < (n : Int) := by omega
        clear hc ex hb
        go_wp2
        go_round
        case rel => exact ⟨k + 1, by omega, by go_num, HN.out⟩
        case measure => simp [intOf]; omega
      · have HD : Hid (_ ∧ _) := HW.out.stop (by
          by_cases h : k < n
          · right
            obtain ⟨p, hp⟩ : ∃ p, rest[k]? = some p := ⟨_, List.getElem?_eq_getElem (by have := HRL.out; omega)⟩
            refine ⟨p, hp, ?_⟩
            cases hb : leB p.1 name with
            | false => rfl
            | true => exact absurd ⟨h, p, hp, hb⟩ hgo
          · left; have := HRL.out; omega)
        have HD2 : Hid (R = rest.take k ++ [(name, value)] ++ rest.drop k) := by show _ = _; rw [HER.out, HD.out.1, HD.out.2]
        have hcut : (k < n ∧ ∃ s1 : ByteArray, (∃ b off, ra = some ⟨b, off, none⟩ ∧ w1.cell? ⟨b, off + k * 2, none⟩ = some (.string s1)) ∧ leB s1 name = false) ∨ ¬ k < n := by
          by_cases h : k < n
          · left
            obtain ⟨⟨s1, s2⟩, hp⟩ : ∃ p, rest[k]? = some p := ⟨_, List.getElem?_eq_getElem (by have := HRL.out; omega)⟩
            obtain ⟨b, off, e, hc⟩ := HRd.out.at (by have := HRL.out; omega)
            refine ⟨h, s1, ⟨b, off, e, hc k _ 0 _ hp rfl⟩, ?_⟩
            cases hb : leB s1 name with
            | false => rfl
            | true => exact absurd ⟨h, (s1, s2), hp, hb⟩ hgo
          · exact .inr h
        obtain ⟨v1, hs1, hr1, hv1⟩ := lhead ra rest n rc k HRL.out hk hnc HRn.out (fun x hx => (HRo.out x hx).2)
        obtain ⟨v2, hs2, hr2, hv2⟩ := ltail ra rest n rc k HRL.out hk hnc HRn.out
        have HH : Hid (∀ w, SRd labE w ra rest → SRd labE w v1 (rest.take k)) := hr1
        have HT : Hid (∀ w, SRd labE w ra rest → SRd labE w v2 (rest.drop k)) := hr2
        have HHn : Hid (v1 = none → rc = 0) := hv1
        have HTn : Hid (v2 = none → rc - k = 0) := hv2
        have HKL : Hid ((rest.take k).length = k) := by show _ = _; rw [List.length_take]; have := HRL.out; omega
        clear hr1 hr2 hv1 hv2 hgo HD HW HER
        rcases hcut with ⟨hlt, s1, ⟨b, off, rfl, a0⟩, hb⟩ | hlt
        · have hb' : (Op.bytesLess s1.toList name.toList || s1.toList == name.toList) = false := hb
          clear hb
          go_wp2_with (at_builtin; refine wpList_append_s labT rfl (.tmp 32) (.tmp 35) rfl w1.heap.size (.slice (some ⟨w1.heap.size, 0, none⟩) 0 0) 0 [] rfl (SOwn.empty labE 63 w1) v1 (rest.take k) k rc rfl HKL.out (HH.out _ (HRd.out.grown (World.grownBy_alloc w1 _ none) (by simp))) HHn.out (by omega) (by unfold maxLen; omega) (World.grownBy_alloc w1 _ none).size ?_; intro vo w3 ho3 hg3 hn3)
          have HO3 : Hid (SOwn labE 63 w3 w1.heap.size vo k (rest.take k)) := by
            show SOwn _ _ _ _ _ _ _
            rw [List.nil_append, Nat.zero_add] at ho3
            exact ho3
          have HG3 : Hid (w1.grownBy w3 none) := gb_trans (World.grownBy_alloc w1 _ none) hg3 (fun j hj => .inl (by simp [Value.ownBlock] at hj; omega))
          clear ho3 hg3 hn3
          refine wp_region_held_drew (S := fun _ => True) (by kernel_rfl) trivial (fun _ => ?_)
          refine draw_take 0 (v := ?_) rfl (by kernel_rfl) (by kernel_rfl) (by kernel_rfl) (fun _ _ _ h => h) (by rfl) ?_ ?_
          rotate_left
          · intro w; go_simp; try with_reducible rfl
          try simp only [Act.put, List.setIfInBounds_toArray, List.set_cons_zero, List.set_cons_succ]
          refine draw_take 1 (v := ?_) rfl (by kernel_rfl) (by kernel_rfl) (by kernel_rfl) (fun _ _ _ h => h) (by rfl) ?_ ?_
          rotate_left
          · intro w; go_simp; try with_reducible rfl
          try simp only [Act.put, List.setIfInBounds_toArray, List.set_cons_zero, List.set_cons_succ]
          refine draw_take 2 (v := ?_) rfl (by kernel_rfl) (by kernel_rfl) (by kernel_rfl) (fun _ _ _ h => h) (by rfl) ?_ ?_
          rotate_left
          · intro w; go_simp; try with_reducible rfl
          try simp only [Act.put, List.setIfInBounds_toArray, List.set_cons_zero, List.set_cons_succ]
          refine draw_take 3 (v := ?_) rfl (by kernel_rfl) (by kernel_rfl) (by kernel_rfl) (fun _ _ _ h => h) (by rfl) ?_ ?_
          rotate_left
          · intro w; go_simp; try with_reducible rfl
          try simp only [Act.put, List.setIfInBounds_toArray, List.set_cons_zero, List.set_cons_succ]
          refine draw_take 6 (v := ?_) rfl (by kernel_rfl) (by kernel_rfl) (by kernel_rfl) (fun _ _ _ h => h) (by rfl) ?_ ?_
          rotate_left
          · intro w; go_simp; try with_reducible rfl
          try simp only [Act.put, List.setIfInBounds_toArray, List.set_cons_zero, List.set_cons_succ]
          refine draw_take 7 (v := ?_) rfl (by kernel_rfl) (by kernel_rfl) (by kernel_rfl) (fun _ _ _ h => h) (by rfl) ?_ ?_
          rotate_left
          · intro w; go_simp; try with_reducible rfl
          try simp only [Act.put, List.setIfInBounds_toArray, List.set_cons_zero, List.set_cons_succ]
          refine draw_take 8 (v := ?_) rfl (by kernel_rfl) (by kernel_rfl) (by kernel_rfl) (fun _ _ _ h => h) (by rfl) ?_ ?_
          rotate_left
          · intro w; go_simp; try with_reducible rfl
          try simp only [Act.put, List.setIfInBounds_toArray, List.set_cons_zero, List.set_cons_succ]
          refine draw_one 4 rfl (by kernel_rfl) (by rfl) (fun K hK => ?_)
          go_simp
          refine hK.out _ _ ?_
          clear hK K
          try simp only [Act.put, List.setIfInBounds_toArray, List.set_cons_zero, List.set_cons_succ]
          refine draw_one 5 rfl (by kernel_rfl) (by rfl) (fun K hK => ?_)
          refine wp_append_s labT (.tmp 37) (.tmp 41) rfl w1.heap.size vo k (rest.take k) rfl (SOwn.kept HO3.out ((gb_drew (World.grownBy.refl w3 none)).trans (World.grownBy_alloc w3.drew _ none)) (Classical.em _)) (some ⟨w3.heap.size, 0, none⟩) [(name, value)] 1 1 rfl rfl (llit w3.drew [(name, value)]) (by simp) (by omega) (by unfold maxLen; omega) (Nat.le_trans HG3.out.size ((gb_drew (World.grownBy.refl w3 none)).trans (World.grownBy_alloc w3.drew _ none)).size) ?_
          intro v5 w5 ho5 hg5 hn5
          refine hK.out _ _ ?_
          clear hK K
          try simp only [Act.put, List.setIfInBounds_toArray, List.set_cons_zero, List.set_cons_succ]
          refine draw_one 9 rfl (by kernel_rfl) (by rfl) (fun K hK => ?_)
          have HG5 : Hid (w1.grownBy w5 none) := gb_trans (HG3.out.trans ((gb_drew (World.grownBy.refl w3 none)).trans (World.grownBy_alloc w3.drew _ none))) hg5 (fun j hj => .inl (SOwn.block HO3.out j hj).1)
          have HO5 : Hid (SOwn labE 63 w5 w1.heap.size v5 (k + 1) (rest.take k ++ [(name, value)])) := ho5
          clear ho5 hg5
          refine wp_append_s labT (.tmp 42) (.tmp 45) rfl w1.heap.size v5 (k + 1) _ rfl HO5.out v2 (rest.drop k) (n - k) (rc - k) rfl (by rw [List.length_drop]; have := HRL.out; omega) (HT.out w5 (HRd.out.grown HG5.out (by simp))) HTn.out (by omega) (by unfold maxLen; omega) HG5.out.size ?_
          intro v6 w6 ho6 hg6 hn6
          refine hK.out _ _ ?_
          clear hK K
          try simp only [Act.put, List.setIfInBounds_toArray, List.set_cons_zero, List.set_cons_succ]
          refine draw_take 10 (v := ?_) rfl (by kernel_rfl) (by kernel_rfl) (by kernel_rfl) (fun _ _ _ h => h) (by rfl) ?_ ?_
          rotate_left
          · intro w; go_simp; try with_reducible rfl
          try simp only [Act.put, List.setIfInBounds_toArray, List.set_cons_zero, List.set_cons_succ]
          refine wpAnyH_done (by kernel_rfl) ?_ _
          go_wp2
          go_ret
          refine ⟨v6, k + 1 + (n - k), rfl, ?_, HG1.out.trans (gb_trans HG5.out hg6 (fun j hj => .inl (SOwn.block HO5.out j hj).1))⟩
          rw [HD2.out]
          exact ho6.base HG1.out.size
        · have hlt' : ¬ (k : Int) < (n : Int) := by omega
          go_wp2_with (at_builtin; refine wpList_append_s labT rfl (.tmp 32) (.tmp 35) rfl w1.heap.size (.slice (some ⟨w1.heap.size, 0, none⟩) 0 0) 0 [] rfl (SOwn.empty labE 63 w1) v1 (rest.take k) k rc rfl HKL.out (HH.out _ (HRd.out.grown (World.grownBy_alloc w1 _ none) (by simp))) HHn.out (by omega) (by unfold maxLen; omega) (World.grownBy_alloc w1 _ none).size ?_; intro vo w3 ho3 hg3 hn3)
          have HO3 : Hid (SOwn labE 63 w3 w1.heap.size vo k (rest.take k)) := by
            show SOwn _ _ _ _ _ _ _
            rw [List.nil_append, Nat.zero_add] at ho3
            exact ho3
          have HG3 : Hid (w1.grownBy w3 none) := gb_trans (World.grownBy_alloc w1 _ none) hg3 (fun j hj => .inl (by simp [Value.ownBlock] at hj; omega))
          clear ho3 hg3 hn3
          refine wp_region_held_drew (S := fun _ => True) (by kernel_rfl) trivial (fun _ => ?_)
          refine draw_take 0 (v := ?_) rfl (by kernel_rfl) (by kernel_rfl) (by kernel_rfl) (fun _ _ _ h => h) (by rfl) ?_ ?_
          rotate_left
          · intro w; go_simp; try with_reducible rfl
          try simp only [Act.put, List.setIfInBounds_toArray, List.set_cons_zero, List.set_cons_succ]
          refine draw_take 1 (v := ?_) rfl (by kernel_rfl) (by kernel_rfl) (by kernel_rfl) (fun _ _ _ h => h) (by rfl) ?_ ?_
          rotate_left
          · intro w; go_simp; try with_reducible rfl
          try simp only [Act.put, List.setIfInBounds_toArray, List.set_cons_zero, List.set_cons_succ]
          refine draw_take 2 (v := ?_) rfl (by kernel_rfl) (by kernel_rfl) (by kernel_rfl) (fun _ _ _ h => h) (by rfl) ?_ ?_
          rotate_left
          · intro w; go_simp; try with_reducible rfl
          try simp only [Act.put, List.setIfInBounds_toArray, List.set_cons_zero, List.set_cons_succ]
          refine draw_take 3 (v := ?_) rfl (by kernel_rfl) (by kernel_rfl) (by kernel_rfl) (fun _ _ _ h => h) (by rfl) ?_ ?_
          rotate_left
          · intro w; go_simp; try with_reducible rfl
          try simp only [Act.put, List.setIfInBounds_toArray, List.set_cons_zero, List.set_cons_succ]
          refine draw_take 6 (v := ?_) rfl (by kernel_rfl) (by kernel_rfl) (by kernel_rfl) (fun _ _ _ h => h) (by rfl) ?_ ?_
          rotate_left
          · intro w; go_simp; try with_reducible rfl
          try simp only [Act.put, List.setIfInBounds_toArray, List.set_cons_zero, List.set_cons_succ]
          refine draw_take 7 (v := ?_) rfl (by kernel_rfl) (by kernel_rfl) (by kernel_rfl) (fun _ _ _ h => h) (by rfl) ?_ ?_
          rotate_left
          · intro w; go_simp; try with_reducible rfl
          try simp only [Act.put, List.setIfInBounds_toArray, List.set_cons_zero, List.set_cons_succ]
          refine draw_take 8 (v := ?_) rfl (by kernel_rfl) (by kernel_rfl) (by kernel_rfl) (fun _ _ _ h => h) (by rfl) ?_ ?_
          rotate_left
          · intro w; go_simp; try with_reducible rfl
          try simp only [Act.put, List.setIfInBounds_toArray, List.set_cons_zero, List.set_cons_succ]
          refine draw_one 4 rfl (by kernel_rfl) (by rfl) (fun K hK => ?_)
          go_simp
          refine hK.out _ _ ?_
          clear hK K
          try simp only [Act.put, List.setIfInBounds_toArray, List.set_cons_zero, List.set_cons_succ]
          refine draw_one 5 rfl (by kernel_rfl) (by rfl) (fun K hK => ?_)
          refine wp_append_s labT (.tmp 37) (.tmp 41) rfl w1.heap.size vo k (rest.take k) rfl (SOwn.kept HO3.out ((gb_drew (World.grownBy.refl w3 none)).trans (World.grownBy_alloc w3.drew _ none)) (Classical.em _)) (some ⟨w3.heap.size, 0, none⟩) [(name, value)] 1 1 rfl rfl (llit w3.drew [(name, value)]) (by simp) (by omega) (by unfold maxLen; omega) (Nat.le_trans HG3.out.size ((gb_drew (World.grownBy.refl w3 none)).trans (World.grownBy_alloc w3.drew _ none)).size) ?_
          intro v5 w5 ho5 hg5 hn5
          refine hK.out _ _ ?_
          clear hK K
          try simp only [Act.put, List.setIfInBounds_toArray, List.set_cons_zero, List.set_cons_succ]
          refine draw_one 9 rfl (by kernel_rfl) (by rfl) (fun K hK => ?_)
          have HG5 : Hid (w1.grownBy w5 none) := gb_trans (HG3.out.trans ((gb_drew (World.grownBy.refl w3 none)).trans (World.grownBy_alloc w3.drew _ none))) hg5 (fun j hj => .inl (SOwn.block HO3.out j hj).1)
          have HO5 : Hid (SOwn labE 63 w5 w1.heap.size v5 (k + 1) (rest.take k ++ [(name, value)])) := ho5
          clear ho5 hg5
          refine wp_append_s labT (.tmp 42) (.tmp 45) rfl w1.heap.size v5 (k + 1) _ rfl HO5.out v2 (rest.drop k) (n - k) (rc - k) rfl (by rw [List.length_drop]; have := HRL.out; omega) (HT.out w5 (HRd.out.grown HG5.out (by simp))) HTn.out (by omega) (by unfold maxLen; omega) HG5.out.size ?_
          intro v6 w6 ho6 hg6 hn6
          refine hK.out _ _ ?_
          clear hK K
          try simp only [Act.put, List.setIfInBounds_toArray, List.set_cons_zero, List.set_cons_succ]
          refine draw_take 10 (v := ?_) rfl (by kernel_rfl) (by kernel_rfl) (by kernel_rfl) (fun _ _ _ h => h) (by rfl) ?_ ?_
          rotate_left
          · intro w; go_simp; try with_reducible rfl
          try simp only [Act.put, List.setIfInBounds_toArray, List.set_cons_zero, List.set_cons_succ]
          refine wpAnyH_done (by kernel_rfl) ?_ _
          go_wp2
          go_ret
          refine ⟨v6, k + 1 + (n - k), rfl, ?_, HG1.out.trans (gb_trans HG5.out hg6 (fun j hj => .inl (SOwn.block HO5.out j hj).1))⟩
          rw [HD2.out]
          exact ho6.base HG1.out.size
end Go.Proofs.YtecnocdffhmkaaaDoor

/- The program's own Get, Contains, chosen, Keep, Without. -/
namespace Go.Proofs.YtecnocdffhmkaaaDoor
set_option maxRecDepth 20000
open Go.RowKit
set_option linter.unusedVariables false

set_option maxHeartbeats 1000000 in
theorem f_get (a : Option Addr) (ls : List Lab) (L c : Nat) (n R : ByteArray) (w : World) (hx : SRd labE w a ls) (hL : ls.length = L) (hz : L ≤ 4398046511104) (hR : getR ls n = R) :
    Calls Tryd.prog 51 #[.slice a L c, .string n] w fun e w' => e = .returned (.string R) ∧ w.grownBy w' none := by
  have HX : Hid (SRd labE w a ls) := hx
  have HL : Hid (ls.length = L) := hL
  have H0 : Hid (GetAt ls n 0 R) := hR
  clear hx hL hR
  go_enter Tryd.func51, Tryd.ntmps51
  go_wp2
  go_loopw [9] (fun i wr => ∃ k : Nat, k ≤ L ∧ i = .int .i64 k ∧ w.grownBy wr none ∧ GetAt ls n k R) (fun i _ => L - (intOf i).toNat)
  case atStart => exact ⟨0, Nat.zero_le _, rfl, World.grownBy.refl _ _, H0.out⟩
  case round =>
    obtain ⟨k, hk, rfl, hg, hc⟩ := hrel
    have HG : Hid (w.grownBy wr none) := hg
    have HC : Hid (GetAt ls n k R) := hc
    clear hg hc H0
    by_cases hlt : k < L
    · have hl := HL.out
      obtain ⟨b, off, rfl, hcc⟩ := (HX.out.grown HG.out (by simp)).at (by omega)
      obtain ⟨⟨s1, s2⟩, ex⟩ : ∃ x, ls[k]? = some x := ⟨_, List.getElem?_eq_getElem (by omega)⟩
      have a0 : wr.cell? ⟨b, off + k * 2, none⟩ = some (.string s1) := hcc k _ 0 _ ex rfl
      have a1 : wr.cell? ⟨b, off + k * 2 + 1, none⟩ = some (.string s2) := by rw [Nat.add_assoc]; exact hcc k _ 1 _ ex rfl
      have HN : Hid (_ = R) := HC.out.next ex
      have hi1 : (k : Int) < (L : Int) := by omega
      clear hcc ex hl
      by_cases h1 : s1 = n
      · have q1 : (s1.toList == n.toList) = true := by rw [str_eq]; simpa using h1
        have HS : Hid (s2 = R) := by have h := HN.out; rw [if_pos h1] at h; exact h
        clear HN h1
        go_wp2
        go_ret
        exact ⟨ret_str HS.out, HG.out.trans (World.grownBy_alloc wr _ none)⟩
      · have q1 : (s1.toList == n.toList) = false := by rw [str_eq]; simpa using h1
        have HS : Hid (GetAt ls n (k + 1) R) := by have h := HN.out; rw [if_neg h1] at h; exact h
        clear HN h1
        go_wp2
        go_roundw
        case rel => exact ⟨k + 1, by omega, by go_num, HG.out.trans (World.grownBy_alloc wr _ none), HS.out⟩
        case measure => simp [intOf]; omega
    · have HS : Hid ((⟨#[]⟩ : ByteArray) = R) := by
        have h := HC.out
        unfold GetAt at h
        rw [List.drop_eq_nil_of_le (by have := HL.out; omega), getR] at h
        exact h
      have hki : ¬ (k : Int) < (L : Int) := by omega
      go_wp2
      go_ret
      exact ⟨ret_str HS.out, HG.out⟩

/-- slices.Index of texts: at or above 0 just if it is one of them. -/
theorem g_index (a : Option Addr) (ss : List ByteArray) (L c : Nat) (s : ByteArray) (R : Bool) (w : World) (hx : SRd strE w a ss) (hL : ss.length = L) (hz : L ≤ 8796093022208) (hR : inB ss s = R) :
    Calls Tryd.prog 87 #[.slice a L c, .string s] w fun e w' => ∃ x : Int, e = .returned (.int .i64 x) ∧ decide (0 ≤ x) = R ∧ w = w' := by
  have HX : Hid (SRd strE w a ss) := hx
  have HL : Hid (ss.length = L) := hL
  have H0 : Hid (InAt ss s 0 R) := hR
  clear hx hL hR
  go_enter Tryd.func87, Tryd.ntmps87
  go_wp2
  go_loop [8] (fun i => ∃ k : Nat, k ≤ L ∧ i = .int .i64 k ∧ InAt ss s k R) (fun i => L - (intOf i).toNat)
  case atStart => exact ⟨0, Nat.zero_le _, rfl, H0.out⟩
  case round =>
    obtain ⟨k, hk, rfl, hc⟩ := hrel
    have HC : Hid (InAt ss s k R) := hc
    clear hc H0
    by_cases hlt : k < L
    · have hl := HL.out
      obtain ⟨b, off, rfl, hcc⟩ := HX.out.at (by omega)
      obtain ⟨t, ex⟩ : ∃ x, ss[k]? = some x := ⟨_, List.getElem?_eq_getElem (by omega)⟩
      have a0 : w.cell? ⟨b, off + k, none⟩ = some (.string t) := by have h := hcc k _ 0 _ ex rfl; simpa [strE] using h
      have HN : Hid ((decide (t = s) || inB (ss.drop (k + 1)) s) = R) := by
        have h := HC.out
        unfold InAt inB at h
        obtain ⟨h1, h2⟩ := List.getElem?_eq_some_iff.1 ex
        rw [List.drop_eq_getElem_cons h1, h2, List.any_cons] at h
        exact h
      have hi1 : (k : Int) < (L : Int) := by omega
      clear hcc ex hl
      by_cases h1 : s = t
      · have q1 : (s.toList == t.toList) = true := by rw [str_eq]; simpa using h1
        have HS : Hid (true = R) := by have h := HN.out; rw [decide_eq_true h1.symm, Bool.true_or] at h; exact h
        clear HN h1
        go_wp2
        go_ret
        exact ⟨_, rfl, by rw [← HS.out]; simp, rfl⟩
      · have q1 : (s.toList == t.toList) = false := by rw [str_eq]; simpa using h1
        have HS : Hid (InAt ss s (k + 1) R) := by have h := HN.out; rw [decide_eq_false (fun e => h1 e.symm), Bool.false_or] at h; exact h
        clear HN h1
        go_wp2
        go_round
        case rel => exact ⟨k + 1, by omega, by go_num, HS.out⟩
        case measure => simp [intOf]; omega
    · have HS : Hid (false = R) := by
        have h := HC.out
        unfold InAt inB at h
        rw [List.drop_eq_nil_of_le (by have := HL.out; omega)] at h
        exact h
      have hki : ¬ (k : Int) < (L : Int) := by omega
      go_wp2
      go_ret
      exact ⟨_, rfl, by rw [← HS.out]; decide, rfl⟩
theorem g_contains (a : Option Addr) (ss : List ByteArray) (L c : Nat) (s : ByteArray) (R : Bool) (w : World) (hx : SRd strE w a ss) (hL : ss.length = L) (hz : L ≤ 8796093022208) (hR : inB ss s = R) :
    Calls Tryd.prog 78 #[.slice a L c, .string s] w fun e w' => e = .returned (.bool R) ∧ w = w' := by
  have HC := g_index a ss L c s R w hx hL hz hR
  clear hx hL hR
  go_enter Tryd.func78, Tryd.ntmps78
  go_wp2_with fail
  refine HC.mono ?_
  rintro e w1 ⟨x, rfl, hx, rfl⟩
  have HX : Hid (decide (0 ≤ x) = R) := hx
  clear hx
  go_wp2
  go_ret
  exact ⟨ret_bool HX.out, rfl⟩
end Go.Proofs.YtecnocdffhmkaaaDoor

/- The program's own chosen, Keep, Without. -/
namespace Go.Proofs.YtecnocdffhmkaaaDoor
set_option maxRecDepth 20000
open Go.RowKit
set_option linter.unusedVariables false

set_option maxHeartbeats 1000000 in
theorem g_chosen (a b : Option Addr) (ls : List Lab) (ss : List ByteArray) (L M c d : Nat) (keep : Bool) (w : World) (hx : SRd labE w a ls) (hy : SRd strE w b ss) (hL : ls.length = L) (hM : ss.length = M) (hz : L ≤ 4398046511000) (hz2 : M ≤ 8796093022208) :
    Calls Tryd.prog 67 #[.slice a L c, .slice b M d, .bool keep] w fun e w' => ∃ v n, e = .returned v ∧ SOwn labE 63 w' w.heap.size v n (someR ls ss keep) ∧ w.grownBy w' none := by
  have HX : Hid (SRd labE w a ls) := hx
  have HY : Hid (SRd strE w b ss) := hy
  have HL : Hid (ls.length = L) := hL
  have HM : Hid (ss.length = M) := hM
  clear hx hy hL hM
  go_enter Tryd.func67, Tryd.ntmps67
  go_wp2
  go_loopw [7, 12] (fun t7 t8 wr => ∃ k n : Nat, k ≤ L ∧ t8 = .int .i64 k ∧ SOwn labE 63 wr w.heap.size t7 n (someR (ls.take k) ss keep) ∧ w.grownBy wr none) (fun _ t8 _ => L - (intOf t8).toNat)
  case atStart => exact ⟨0, 0, Nat.zero_le _, rfl, by simpa [someR] using SOwn.nil (E := labE) 63 w w.heap.size, World.grownBy.refl _ _⟩
  case round =>
    obtain ⟨k, n, hk, rfl, ho, hg⟩ := hrel
    have HO : Hid (SOwn labE 63 wr w.heap.size u7 n (someR (ls.take k) ss keep)) := ho
    have HG : Hid (w.grownBy wr none) := hg
    have hnl : n ≤ k := by
      have h1 := ho.len
      have h2 := someR_len (ls.take k) ss keep
      rw [List.length_take] at h2
      omega
    clear ho hg
    by_cases hlt : k < L
    · have hl := HL.out
      obtain ⟨b1, off, rfl, hc⟩ := HX.out.at (by omega)
      obtain ⟨⟨s1, s2⟩, ex⟩ : ∃ x, ls[k]? = some x := ⟨_, List.getElem?_eq_getElem (by omega)⟩
      have a0 : wr.cell? ⟨b1, off + k * 2, none⟩ = some (.string s1) := HG.out.cell (hc k _ 0 _ ex rfl) (by simp)
      have a1 : wr.cell? ⟨b1, off + k * 2 + 1, none⟩ = some (.string s2) := by rw [Nat.add_assoc]; exact HG.out.cell (hc k _ 1 _ ex rfl) (by simp)
      have HN : Hid (_ = _) := someR_next (ss := ss) (keep := keep) ex
      have HIn : Hid (∀ o, Calls Tryd.prog 78 #[.slice b M d, .string s1] (wr.alloc o) fun e w' => e = .returned (.bool (inB ss s1)) ∧ wr.alloc o = w') := fun o => g_contains b ss M d s1 _ _ ((HY.out.grown HG.out (by simp)).grown (World.grownBy_alloc wr o none) (by simp)) HM.out hz2 rfl
      have HO1 : Hid (∀ o, SOwn labE 63 (wr.alloc o) w.heap.size u7 n (someR (ls.take k) ss keep)) := fun o => SOwn.kept HO.out (World.grownBy_alloc wr o none) (Classical.em _)
      have HG1 : Hid (∀ o, w.grownBy (wr.alloc o) none) := fun o => HG.out.trans (World.grownBy_alloc wr o none)
      clear hc ex hl
      generalize inB ss s1 = r at HIn HN
      by_cases h1 : r = keep
      · subst h1
        have HS : Hid (someR (ls.take (k + 1)) ss r = someR (ls.take k) ss r ++ [(s1, s2)]) := by have h := HN.out; rw [if_pos (by simp)] at h; exact h
        clear HN HO HG
        generalize someR (ls.take k) ss r = X at HO1 HS
        cases r
        all_goals
          go_wp2_with fail
          refine (HIn.out _).mono ?_
          rintro e w1 ⟨rfl, ew⟩
          have c0 : w1.cell? ⟨wr.heap.size, 0, none⟩ = some (.string s1) := by rw [← ew, cell_of_row _ wr.heap.size 0 _ _ _ (heap_alloc_new wr _)]; rfl
          have c1 : w1.cell? ⟨wr.heap.size, 1, none⟩ = some (.string s2) := by rw [← ew, cell_of_row _ wr.heap.size 1 _ _ _ (heap_alloc_new wr _)]; rfl
          have HO2 : Hid (SOwn labE 63 w1 w.heap.size u7 n X) := by rw [← ew]; exact HO1.out _
          have HG2 : Hid (w.grownBy w1 none) := by rw [← ew]; exact HG1.out _
          clear ew HO1 HG1
          go_wp2_with (at_builtin; refine wpList_append_s labT rfl (.tmp 22) (.tmp 24) rfl w.heap.size u7 n _ rfl (SOwn.kept HO2.out (World.grownBy_alloc w1 _ none) (Classical.em _)) (some ⟨w1.heap.size, 0, none⟩) [(s1, s2)] 1 1 rfl rfl (llit w1 [(s1, s2)]) (by simp) (by omega) (by unfold maxLen; omega) (Nat.le_trans HG2.out.size (World.grownBy_alloc w1 _ none).size) ?_; intro v2 w2 ho2 hg2 hn2)
          go_roundw
          case rel => exact ⟨k + 1, n + 1, by omega, by go_num, by rw [HS.out]; exact ho2, gb_trans (HG2.out.trans (World.grownBy_alloc w1 _ none)) hg2 (fun j hj => .inl (SOwn.block HO2.out j hj).1)⟩
          case measure => simp [intOf]; omega
      · have HS : Hid (someR (ls.take (k + 1)) ss keep = someR (ls.take k) ss keep) := by have h := HN.out; rw [if_neg (by simpa using h1), List.append_nil] at h; exact h
        have q : (r == keep) = false := by simpa using h1
        clear HN HO HG
        cases r <;> cases keep
        · exact absurd rfl h1
        rotate_left 2
        · exact absurd rfl h1
        all_goals
          clear h1
          go_wp2_with (go_at_call 78; refine (HIn.out _).mono ?_; rintro e w1 ⟨rfl, rfl⟩)
          go_roundw
          case rel => exact ⟨k + 1, n, by omega, by go_num, by rw [HS.out]; exact HO1.out _, HG1.out _⟩
          case measure => simp [intOf]; omega
    · have HS : Hid (someR (ls.take k) ss keep = someR ls ss keep) := by show _ = _; rw [List.take_of_length_le (by have := HL.out; omega)]
      go_wp2
      go_ret
      exact ⟨u7, n, rfl, by rw [← HS.out]; exact HO.out, HG.out⟩
theorem f_without (a b : Option Addr) (ls : List Lab) (ss : List ByteArray) (L M c d : Nat) (R : List Lab) (w : World) (hx : SRd labE w a ls) (hy : SRd strE w b ss) (hL : ls.length = L) (hM : ss.length = M) (hz : L ≤ 4398046511000) (hz2 : M ≤ 8796093022208) (hR : someR ls ss false = R) :
    Calls Tryd.prog 52 #[.slice a L c, .slice b M d] w fun e w' => ∃ v n, e = .returned v ∧ SOwn labE 63 w' w.heap.size v n R ∧ w.grownBy w' none := by
  have HC := (by have h := g_chosen a b ls ss L M c d false w hx hy hL hM hz hz2; rw [hR] at h; exact h : Calls Tryd.prog 67 #[.slice a L c, .slice b M d, .bool false] w fun e w' => ∃ v n, e = .returned v ∧ SOwn labE 63 w' w.heap.size v n R ∧ w.grownBy w' none)
  clear hx hy hL hM hR
  go_enter Tryd.func52, Tryd.ntmps52
  go_wp2_with fail
  refine HC.mono ?_
  rintro e w1 ⟨v, n, rfl, ho, hg⟩
  go_wp2
  go_ret
  exact ⟨v, n, rfl, ho, hg⟩
end Go.Proofs.YtecnocdffhmkaaaDoor

